/-
  A source that is too long.
-/
import Derived.Test.YtkppnncpejohgaaDoorLxAwake
import Derived.BigGuard
namespace Go.Proofs.YtkppnncpejohgaaDoor
open Go.RowKit Go.WideShapes
namespace Lx

theorem tk_code {r : List UInt8} {o e : Nat} (h : tk r o = .error e) : e = 102 ∨ e = 104 ∨ e = 105 ∨ e = 107 := by
  unfold tk at h
  repeat' split at h
  all_goals first
    | (injection h with h; omega)
    | cases h
theorem stl_code {n e : Nat} {s : St} (h : stl n s = .error e) : e = 103 ∨ e = 107 := by
  unfold stl at h
  repeat' split at h
  all_goals first
    | (injection h with h; omega)
    | cases h
theorem tkn_code {l : List UInt8} {b k p : Nat} {s : St} (h : tkn l b s = .inl (.bad k p)) : (k = 102 ∨ k = 104 ∨ k = 105 ∨ k = 107) ∧ p = s.at_ := by
  unfold tkn at h
  cases ht : tk (l.drop s.at_) s.opn with
  | error e => rw [ht] at h; injection h with h; injection h with h1 h2; subst h1; exact ⟨tk_code ht, h2.symm⟩
  | ok q => rw [ht] at h; cases h
theorem tkn_not {l : List UInt8} {b : Nat} {s : St} {ts : List Tok} (h : tkn l b s = .inl (.ok ts)) : False := by
  unfold tkn at h
  cases ht : tk (l.drop s.at_) s.opn with
  | error e => rw [ht] at h; injection h with h; cases h
  | ok q => rw [ht] at h; cases h
theorem stp_code {l : List UInt8} {c : Cf} {k p : Nat} (h : stp l c = .inl (.bad k p)) : (102 ≤ k ∧ k ≤ 107) := by
  unfold stp at h
  split at h
  · cases h
  · split at h
    · cases h
    · split at h
      · cases h
      · split at h
        · split at h
          · cases h
          · cases h
        · split at h
          · cases hs : stl c.bl c.s with
            | error e =>
              rw [hs] at h
              injection h with h
              injection h with h1 h2
              have := stl_code hs
              omega
            | ok s' =>
              rw [hs] at h
              have := (tkn_code h).1
              omega
          · have := (tkn_code h).1
            omega
/-- No source that is read offends by its length. -/
theorem lex_code {l : List UInt8} {c : Cf} {o : Out} (h : Lex l c o) : ∀ k p, o = .bad k p → 102 ≤ k ∧ k ≤ 107 := by
  induction h with
  | done e => intro k p ho; subst ho; exact stp_code e
  | more _ _ ih => exact ih
/-- Bytes in a row of their own. -/
def Ob (B : Nat) (w : World) (v : Value) (l : List UInt8) : Prop := w.ownsRow B 5 1 v l.length (Lib.byteCells l)
theorem byte_get (l : List UInt8) (j : Nat) (hj : j < l.length) : (Lib.byteCells l)[j]? = some (.int .u8 ((l.getD j 0).toNat : Int)) := by
  simp [Lib.byteCells, List.getD, hj]
theorem Ob.bs {B : Nat} {w : World} {v : Value} {l : List UInt8} (h : Ob B w v l) : ∃ a c, v = .slice a l.length c ∧ Bs w a l.length l := by
  rcases Nat.eq_zero_or_pos l.length with z | z
  · obtain ⟨a, c, rfl⟩ := ownsS_shape h
    exact ⟨a, c, rfl, rfl, 0, 0, fun h0 => absurd h0 (by omega), fun j hj => absurd hj (by omega)⟩
  · obtain ⟨g, c, rfl, hg, _, _⟩ := ownsS_some h z
    exact ⟨_, c, rfl, rfl, g, 0, fun _ => ⟨rfl, hg⟩, fun j hj => by rw [Nat.zero_add]; exact ownsS_cell h j _ (byte_get l j hj)⟩
theorem Tryd.infoB : (Tryd.prog.info? 5).map (fun i => (i.zero, i.size, i.bytes)) = some (some (.int .u8 0), 1, 1) := by kernel_rfl
theorem byte_one (l : List UInt8) : ∀ u ∈ Lib.byteCells l, u.oneCell' = true := by
  intro u hu
  simp [Lib.byteCells] at hu
  obtain ⟨_, _, rfl⟩ := hu
  rfl
theorem byte_app (a b : List UInt8) : Lib.byteCells (a ++ b) = Lib.byteCells a ++ Lib.byteCells b := by simp [Lib.byteCells]
theorem byte_len (a : List UInt8) : (Lib.byteCells a).length = a.length := by simp [Lib.byteCells]
/-- Bytes that can be read, as what is appended. -/
theorem Bs.src {w : World} {b off : Nat} {n : Nat} {l : List UInt8} (hn : n = l.length) (h3 : ∀ j, j < n → w.cell? ⟨b, off + j, none⟩ = some (.int .u8 ((l.getD j 0).toNat : Int))) : ∀ j u, (Lib.byteCells l)[j]? = some u → w.cell? ((⟨b, off, none⟩ : Addr).add j) = some u := by
  intro j u hu
  have hj : j < l.length := by
    rcases Nat.lt_or_ge j l.length with z | z
    · exact z
    · rw [List.getElem?_eq_none (by rw [byte_len]; exact z)] at hu; cases hu
  rw [byte_get l j hj] at hu
  rw [pl_add, h3 j (by omega)]
  exact hu
theorem eq101 (w : World) : (binOp .eql 26 (.agg #[.int .i64 101, .int .i64 65536]) (.agg #[.int .i64 101, .int .i64 65536])).run Tryd.prog w = .ok (.bool true) w := by kernel_rfl
set_option maxRecDepth 100000 in
set_option maxHeartbeats 4000000 in
theorem long_walk (a : Option Addr) (n c : Nat) (l : List UInt8) (x : Int) (w : World) (hB : Bs w a n l) (hc : n ≤ c) (_ : c ≤ maxLen) (hz : a = none → c = 0) (hE : Env w) :
    Calls Tryd.prog 5 #[.slice a n c, .int .i64 x] w fun e w' => e = .returned (.bool true) ∧ Below w.heap.size w w' := by
  have CA := awake_any w hE
  have HB := Lib.hid hB
  by_cases h1 : n = 0 ∨ 100 < n ∨ x < 0 ∨ 70000 < x
  · have H1 := Lib.hid h1
    clear h1 hB hz
    by_cases g1 : n = 0
    · subst g1
      go_enter Tryd.func5, Tryd.ntmps5
      go_wp2_with fail
      refine CA.mono ?_
      rintro e w1 ⟨rfl, hb⟩
      go_wp2_with fail
      go_ret
      exact ⟨rfl, hb⟩
    · have t1 : ((n : Int) == 0) = false := beq_eq_false_iff_ne.2 (by omega)
      by_cases g2 : (100 : Int) < (n : Int)
      · go_enter Tryd.func5, Tryd.ntmps5
        go_wp2_with fail
        refine CA.mono ?_
        rintro e w1 ⟨rfl, hb⟩
        go_wp2_with fail
        go_ret
        exact ⟨rfl, hb⟩
      · by_cases g3 : x < 0
        · go_enter Tryd.func5, Tryd.ntmps5
          go_wp2_with fail
          refine CA.mono ?_
          rintro e w1 ⟨rfl, hb⟩
          go_wp2_with fail
          go_ret
          exact ⟨rfl, hb⟩
        · have g4 : 70000 < x := by have := H1.out; omega
          clear g1
          go_enter Tryd.func5, Tryd.ntmps5
          go_wp2_with fail
          refine CA.mono ?_
          rintro e w1 ⟨rfl, hb⟩
          go_wp2_with fail
          go_ret
          exact ⟨rfl, hb⟩
  · have hn1 : 1 ≤ n := by omega
    have hn2 : n ≤ 100 := by omega
    have t1 : ((n : Int) == 0) = false := beq_eq_false_iff_ne.2 (by omega)
    have t2 : ¬ (100 : Int) < (n : Int) := by omega
    have t3 : ¬ x < 0 := by omega
    have t4 : ¬ 70000 < x := by omega
    obtain ⟨hnl, b, off, ha, hcell⟩ := hB
    obtain ⟨rfl, hbl⟩ := ha (by omega)
    have HNL := Lib.hid hnl
    have HC := Lib.hid hcell
    have h101 := eq101
    obtain ⟨i0, hi, hz0, hz1, hz2⟩ := info_parts Tryd.infoB
    have HI := Lib.hid hi
    clear hnl hcell h1 ha CA hz
    go_enter Tryd.func5, Tryd.ntmps5
    go_wp2_with fail
    go_loopg [5] x.toNat (fun gk v5 wr => ∃ L : List UInt8, x.toNat ≤ gk + L.length ∧ L.length ≤ 70100 ∧ Ob w.heap.size wr v5 L ∧ Below w.heap.size w wr)
    case atStart => exact ⟨[], by simp, by simp, World.ownsRow_nil _ _ _ _, Below.refl _ _⟩
    case round =>
      obtain ⟨L, hg, hL, ho, hbw⟩ := hrel
      obtain ⟨a5, c5, rfl, hbs⟩ := ho.bs
      have HO := Lib.hid ho
      have HBW := Lib.hid hbw
      have HBS := Lib.hid hbs
      have HSR : Hid (∀ j u, (Lib.byteCells l)[j]? = some u → wr.cell? ((⟨b, off, none⟩ : Addr).add j) = some u) := by
        refine Bs.src HNL.out (fun j hj => ?_)
        exact (hbw.cell (p := ⟨b, off + j, none⟩) hbl).trans (HC.out j hj)
      clear ho hbw hbs
      by_cases hlt : (L.length : Int) < x
      · have hx : L.length < x.toNat := by omega
        have HLL := Lib.hid hL
        have HG := Lib.hid hg
        have HX := Lib.hid hx
        have hmx : L.length + n ≤ maxLen := by unfold maxLen; omega
        have hby : (L.length + n) * 1 ≤ 140737488355328 := by omega
        clear hL hg hx
        generalize hLn : L.length = m at *
        have HLN := Lib.hid hLn
        clear hLn
        go_wp2_with (at_builtin; refine wpListS_append_own rfl _ _ 22 rfl w.heap.size 5 i0 (.int .u8 0) 1 1 Tryd.underlying22 HI.out hz0 hz1 hz2 rfl (by decide) _ m (Lib.byteCells L) rfl (by have h := HO.out; unfold Ob at h; rw [HLN.out] at h; exact h) ⟨b, off, none⟩ n c (Lib.byteCells l) rfl (by rw [byte_len, ← HNL.out]; omega) HSR.out (byte_one l) hmx hby (HBW.out.size) ?_; intro v' w5 hown2 hgrow _; obtain ⟨a6, c6, hv6⟩ := ownsS_shape hown2; subst hv6)
        go_roundg (gk - n)
        case measure => have := HG.out; have := HX.out; have := HLN.out; omega
        case rel =>
          refine ⟨L ++ l, ?_, ?_, ?_, ?_⟩
          · rw [List.length_append, ← HNL.out]; have := HG.out; have := HX.out; have := HLN.out; omega
          · rw [List.length_append, ← HNL.out]; have := HX.out; have := HLN.out; omega
          · unfold Ob
            rw [byte_app, List.length_append, ← HNL.out, HLN.out]
            exact hown2
          · exact HBW.out.grown hgrow HBW.out.size (fun k hk => (ownsS_base HO.out k hk).1)
      · have HEr := Lib.hid (hE.below (HBW.out))
        have HSZ := Lib.hid HBW.out.size
        by_cases hsm : L.length ≤ 65536
        · have t5 : (L.length : Int) ≤ 65536 := by omega
          have C := tokens_any HBS.out c5 hsm HEr.out
          clear hg
          generalize hLn : L.length = m at *
          go_wp2_with fail
          refine C.mono ?_
          rintro e w1 ⟨o, hLx, hb1, hm1⟩
          clear C
          have HLX := Lib.hid hLx
          have HB1 := Lib.hid hb1
          have hA := awake_any
          have fin : ∀ w2, Below w.heap.size wr w2 → Env w2 := fun w2 h2 => hE.below (HBW.out.trans h2)
          have HF := Lib.hid fin
          clear hLx hb1 hA fin hLn
          cases o with
          | ok ts =>
            obtain ⟨tv, rfl, ho⟩ := hm1
            obtain ⟨ta, cap, rfl⟩ := ownsS_shape ho
            clear ho
            have C3 := fun o => awake_any (w1.alloc o) (HF.out _ ((HB1.out.mono HSZ.out).alloc (by have := HB1.out.size; have := HSZ.out; omega) o))
            go_wp2_with (go_at_call 9; refine (C3 _).mono ?_; rintro e w3 ⟨rfl, hb3⟩)
            go_ret
            exact ⟨rfl, (HBW.out.trans ((HB1.out.mono HSZ.out).alloc (by have := HB1.out.size; have := HSZ.out; omega) _)).trans (hb3.mono (by have := HB1.out.size; have := HSZ.out; simp; omega))⟩
          | bad k p =>
            obtain rfl := hm1
            have hk : ((k : Int) != 101) = true := by
              have := lex_code HLX.out k p rfl
              simp only [bne_iff_ne, ne_eq]
              omega
            have C3 := fun o => awake_any (w1.alloc o) (HF.out _ ((HB1.out.mono HSZ.out).alloc (by have := HB1.out.size; have := HSZ.out; omega) o))
            go_wp2_with (go_at_call 9; refine (C3 _).mono ?_; rintro e w3 ⟨rfl, hb3⟩)
            go_ret
            exact ⟨rfl, (HBW.out.trans ((HB1.out.mono HSZ.out).alloc (by have := HB1.out.size; have := HSZ.out; omega) _)).trans (hb3.mono (by have := HB1.out.size; have := HSZ.out; simp; omega))⟩
        · have t5 : ¬ (L.length : Int) ≤ 65536 := by omega
          have C := tokens_long wr a5 L.length c5 (by omega)
          clear hg
          generalize L.length = m at *
          go_wp2_with fail
          refine C.mono ?_
          rintro e w1 ⟨rfl, hb1⟩
          clear C
          have HB1 := Lib.hid hb1
          clear hb1
          have C3 := fun o => awake_any (w1.alloc o) (hE.below (HBW.out.trans ((HB1.out.mono HSZ.out).alloc (by have := HB1.out.size; have := HSZ.out; omega) o)))
          go_wp2_with (go_at_call 9; refine (C3 _).mono ?_; rintro e w3 ⟨rfl, hb3⟩)
          go_ret
          exact ⟨rfl, (HBW.out.trans ((HB1.out.mono HSZ.out).alloc (by have := HB1.out.size; have := HSZ.out; omega) _)).trans (hb3.mono (by have := HB1.out.size; have := HSZ.out; simp; omega))⟩
end Lx
end Go.Proofs.YtkppnncpejohgaaDoor
