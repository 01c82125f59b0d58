/-
  Any bytes are read as the right tokens.
-/
import Derived.Test.YtkppnncpejohgaaDoorLxEq
import Derived.Test.YtkppnncpejohgaaDoorLxRfM
import Derived.Laws.StructEq
import Derived.Deep.CutRange
import Derived.Deep.CutBlock
namespace Go.Proofs.YtkppnncpejohgaaDoor
open Go.RowKit Go.WideShapes
namespace Lx

theorem flt_eq (x y : Int) (w : World) : (binOp .eql 26 (.agg #[.int .i64 x, .int .i64 y]) (.agg #[.int .i64 x, .int .i64 y])).run Tryd.prog w = .ok (.bool true) w := by
  have hu : Tryd.prog.underlying 26 = some (.struct (Tryd.prog.fieldsOf 26)) := by kernel_rfl
  have hp : Tryd.prog.stoodInHeld 26 = false := by kernel_rfl
  rw [run_eql_struct, run_equalIn_agg w 9999 _ _ _ hu hp]
  have hF : (Tryd.prog.fieldsOf 26).toList = [⟨"Code", 3, 0, false, "", "", 0⟩, ⟨"At", 3, 1, false, "", "", 8⟩] := by kernel_rfl
  rw [hF]
  simp [Op.eqFields, go_sem]
theorem run_append_nothingB (w : World) (c : Nat) : (Builtin.append_ #[22, 22] 22 #[.slice none 0 0, .slice none 0 c]).run Tryd.prog w = .ok (.slice none 0 0) w := by
  obtain ⟨i0, hi, hz0, hz1, hz2⟩ := info_parts Tryd.infoB
  simp [Builtin.append_, run_underlying Tryd.underlying22, sizeOf, typeInfo, hi, Builtin.lenOf, Builtin.firstCells]
theorem own_max {ts : List Tok} {v : Value} {B : Nat} {w : World} (h : w.ownsRow B 35 3 v ts.length (tkl ts)) : ts.length ≤ maxLen := by
  rcases h.2 with ⟨_, h0⟩ | ⟨g, cap, cur, _, _, _, h1, h2, _⟩
  · rw [h0]; exact Nat.zero_le _
  · omega
/-- What a call of Tokens answers, whatever the length. -/
def TkA (N : Nat) (w : World) (e : Ending) (w' : World) (c p : Int) (ts : List Tok) : Prop := ∃ tv, e = .returned (.tuple #[tv, .agg #[.int .i64 c, .int .i64 p]]) ∧ w'.ownsRow N 35 3 tv ts.length (tkl ts) ∧ Below N w w'
theorem tka_of {N : Nat} {l : List UInt8} {w : World} {e : Ending} {w' : World} (h : AnsR N l w e w') : ∃ o, Lex l cf0 o ∧ ∃ c p ts, TkA N w e w' c p ts ∧ (match o with | .ok t => c = 0 ∧ p = 0 ∧ ts = t | .bad x y => c = (x : Int) ∧ p = (y : Int) ∧ ts = []) := by
  obtain ⟨o, h1, h2, h3⟩ := h
  cases o with
  | ok t =>
    obtain ⟨tv, e1, e2⟩ := h3
    exact ⟨.ok t, h1, 0, 0, t, ⟨tv, e1, e2, h2⟩, rfl, rfl, rfl⟩
  | bad x y => exact ⟨.bad x y, h1, x, y, [], ⟨_, h3, ⟨rfl, Or.inl ⟨rfl, rfl⟩⟩, h2⟩, rfl, rfl, rfl⟩
/-- What is answered of bytes, whatever their number. -/
def Dt (n : Nat) (l : List UInt8) (c p : Int) (ts : List Tok) : Prop := (n ≤ 65536 ∧ ∃ o, Lex l cf0 o ∧ (match o with | .ok t => c = 0 ∧ p = 0 ∧ ts = t | .bad x y => c = (x : Int) ∧ p = (y : Int) ∧ ts = [])) ∨ (65536 < n ∧ c = 101 ∧ p = 65536 ∧ ts = [])
theorem Dt.det {n : Nat} {l : List UInt8} {c p c' p' : Int} {ts ts' : List Tok} (h : Dt n l c p ts) (h' : Dt n l c' p' ts') : c = c' ∧ p = p' ∧ ts = ts' := by
  rcases h with ⟨h0, o, h1, h2⟩ | ⟨h0, h1, h2, h3⟩
  · rcases h' with ⟨k0, o', k1, k2⟩ | ⟨k0, _⟩
    · obtain rfl := h1.det k1
      cases o with
      | ok t => exact ⟨h2.1.trans k2.1.symm, h2.2.1.trans k2.2.1.symm, h2.2.2.trans k2.2.2.symm⟩
      | bad x y => exact ⟨h2.1.trans k2.1.symm, h2.2.1.trans k2.2.1.symm, h2.2.2.trans k2.2.2.symm⟩
    · omega
  · rcases h' with ⟨k0, _⟩ | ⟨k0, k1, k2, k3⟩
    · omega
    · exact ⟨h1.trans k1.symm, h2.trans k2.symm, h3.trans k3.symm⟩
theorem ptok_any {w : World} {a : Option Addr} {n : Nat} {l : List UInt8} (c : Nat) (hB : Bs w a n l) (hE : Env w) : Calls Tryd.prog 10 #[.slice a n c] w fun e w' => ∃ x p ts, TkA w.heap.size w e w' x p ts ∧ Dt n l x p ts := by
  rcases Nat.lt_or_ge 65536 n with h | h
  · refine (tokens_long w a n c h).mono ?_
    rintro e w' ⟨rfl, hb⟩
    exact ⟨101, 65536, [], ⟨_, rfl, ⟨rfl, Or.inl ⟨rfl, rfl⟩⟩, hb⟩, Or.inr ⟨h, rfl, rfl, rfl⟩⟩
  · refine (tokens_any hB c h hE).mono ?_
    intro e w' hA
    obtain ⟨o, h1, x, p, ts, h2, h3⟩ := tka_of hA
    exact ⟨x, p, ts, h2, Or.inl ⟨h, o, h1, h3⟩⟩
theorem rtok_any {w : World} {a : Option Addr} {n : Nat} {l : List UInt8} (c : Nat) (hB : Bs w a n l) (hc : n ≤ c) : Calls Tryd.prog 11 #[.slice a n c] w fun e w' => ∃ x p ts, TkA w.heap.size w e w' x p ts ∧ Dt n l x p ts := by
  rcases Nat.lt_or_ge 65536 n with h | h
  · refine (rtokens_long w a n c h).mono ?_
    rintro e w' ⟨rfl, hb⟩
    exact ⟨101, 65536, [], ⟨_, rfl, ⟨rfl, Or.inl ⟨rfl, rfl⟩⟩, hb⟩, Or.inr ⟨h, rfl, rfl, rfl⟩⟩
  · refine (rtokens_any hB hc h).mono ?_
    intro e w' hA
    obtain ⟨o, h1, x, p, ts, h2, h3⟩ := tka_of hA
    exact ⟨x, p, ts, h2, Or.inl ⟨h, o, h1, h3⟩⟩
/-- All but one block. -/
structure But1 (g : Nat) (w w' : World) : Prop where
  os : w'.os = w.os
  tape : w'.tape = w.tape
  output : w'.output = w.output
  size : w'.heap.size = w.heap.size
  block : ∀ k, k ≠ g → w'.heap[k]? = w.heap[k]?
set_option maxRecDepth 100000 in
set_option maxHeartbeats 8000000 in
theorem reads_walk (a : Option Addr) (n c : Nat) (l : List UInt8) (w : World) (hB : Bs w a n l) (hc : n ≤ c) (_ : c ≤ maxLen) (hz : a = none → c = 0) (hE : Env w) :
    Calls Tryd.prog 3 #[.slice a n c] w fun e w' => e = .returned (.bool true) ∧ Below w.heap.size w w' := by
  by_cases hbig : (70000 : Int) < (n : Int)
  · have CA := awake_any w hE
    clear hB hz
    go_enter Tryd.func3, Tryd.ntmps3
    go_wp2_with fail
    refine CA.mono ?_
    rintro e w1 ⟨rfl, hb⟩
    go_wp2_with fail
    go_ret
    exact ⟨rfl, hb⟩
  · have HB := Lib.hid hB
    have HZ := Lib.hid hz
    obtain ⟨i0, hi, hz0, hz1, hz2⟩ := info_parts Tryd.infoB
    have hn7 : n ≤ 70000 := by omega
    have HNL := Lib.hid hB.1
    have hnil : w.ownsRow w.heap.size 5 1 (.slice none 0 0) 0 [] := ⟨rfl, Or.inl ⟨rfl, rfl⟩⟩
    clear hB hz
    go_enter Tryd.func3, Tryd.ntmps3
    go_upto_region 4 with fail
    go_cut [3] from 13 to 15 (fun v W => Ob w.heap.size W v l ∧ Below w.heap.size w W)
    case first =>
      obtain ⟨-, b, off, ha, hcell⟩ := HB.out
      by_cases h0 : 0 < n
      · obtain ⟨rfl, hbl⟩ := ha h0
        have HS := Lib.hid (Bs.src HNL.out hcell)
        clear ha hcell
        go_wp2_with (at_builtin; refine wpListS_append_own rfl _ _ 22 rfl w.heap.size 5 i0 (.int .u8 0) 1 1 Tryd.underlying22 hi hz0 hz1 hz2 rfl (by decide) _ 0 [] rfl hnil ⟨b, off, none⟩ n c (Lib.byteCells l) rfl (by rw [byte_len, ← HNL.out]; omega) HS.out (byte_one l) (by unfold maxLen; omega) (by omega) (Nat.le_refl _) ?_; intro v' w5 hown2 hgrow _; obtain ⟨a6, c6, hv6⟩ := ownsS_shape hown2; subst hv6; have H2 := Lib.hid hown2; have HG := Lib.hid hgrow; clear hown2 hgrow)
        go_meet
        case rel =>
          refine ⟨?_, (Below.refl _ w).grown HG.out (Nat.le_refl _) (fun k hk => by cases hk)⟩
          have h2 := H2.out
          unfold Ob
          rw [← HNL.out]
          simpa using h2
      · have hn0 : n = 0 := by omega
        have hl0 : l = [] := List.eq_nil_of_length_eq_zero (by rw [← HNL.out]; exact hn0)
        have HL0 := Lib.hid hl0
        subst hn0
        clear ha hcell h0 hl0
        cases a with
        | none =>
          have happ := run_append_nothingB
          go_wp2_with fail
          go_meet
          case rel => exact ⟨by rw [HL0.out]; exact World.ownsRow_nil _ _ _ _, Below.refl _ _⟩
        | some ad =>
          go_wp2_with (at_builtin; refine wpListS_append_own rfl _ _ 22 rfl w.heap.size 5 i0 (.int .u8 0) 1 1 Tryd.underlying22 hi hz0 hz1 hz2 rfl (by decide) _ 0 [] rfl hnil ad 0 c [] rfl rfl (fun j u h => by simp at h) (fun u h => by simp at h) (by decide) (by decide) (Nat.le_refl _) ?_; intro v' w5 hown2 hgrow _; obtain ⟨a6, c6, hv6⟩ := ownsS_shape hown2; subst hv6; have H2 := Lib.hid hown2; have HG := Lib.hid hgrow; clear hown2 hgrow)
          go_meet
          case rel =>
            refine ⟨?_, (Below.refl _ w).grown HG.out (Nat.le_refl _) (fun k hk => by cases hk)⟩
            rw [HL0.out]
            exact H2.out
    case rest =>
      obtain ⟨hO, hb1⟩ := hcut
      obtain ⟨a1, cap1, rfl⟩ := ownsS_shape hO
      have HO := Lib.hid hO
      have HB1 := Lib.hid hb1
      have hO2 : wc.ownsRow w.heap.size 5 1 (.slice a1 l.length cap1) n (Lib.byteCells l) := by have h := hO; unfold Ob at h; rw [← HNL.out] at h ⊢; exact h
      rw [← HNL.out] at hO2 ⊢
      clear hO hb1 hnil
      go_wp2_with (at_builtin; refine wpListS_append_own rfl _ _ 22 rfl w.heap.size 5 i0 (.int .u8 0) 1 1 Tryd.underlying22 hi hz0 hz1 hz2 rfl (by decide) _ n (Lib.byteCells l) rfl (World.ownsRow.alloc hO2 _) ⟨wc.heap.size, 0, none⟩ 1 1 [.int .u8 77] rfl rfl (newR_one _ _ _) (fun u hu => by simp at hu; subst hu; rfl) (by unfold maxLen; omega) (by omega) (by have := HB1.out.size; simp; omega) ?_)
      intro v' w2 hown2 hgrow _
      obtain ⟨gx, capx, rfl, hgl, hcapx, hgB⟩ := ownsS_some hown2 (by omega)
      have hbw2 : Below w.heap.size w w2 := (HB1.out.alloc HB1.out.size _).grown hgrow (by have := HB1.out.size; simp; omega) (fun k hk => (ownsS_base hO2 k hk).1)
      have hget : ∀ j, j < n → (Lib.byteCells l ++ [Value.int .u8 77])[j]? = some (.int .u8 ((l.getD j 0).toNat : Int)) := fun j hj => by
        rw [List.getElem?_append_left (by rw [byte_len, ← HNL.out]; exact hj)]
        exact byte_get l j (by rw [← HNL.out]; exact hj)
      have hgetn : (Lib.byteCells l ++ [Value.int .u8 77])[n]? = some (.int .u8 77) := by
        rw [List.getElem?_append_right (by rw [byte_len, ← HNL.out]; exact Nat.le_refl _), byte_len, ← HNL.out]
        simp
      have hbs2 : Bs w2 (some ⟨gx, 0, none⟩) n l := ⟨HNL.out, gx, 0, fun _ => ⟨rfl, hgl⟩, fun j hj => by rw [Nat.zero_add]; exact ownsS_cell hown2 j _ (hget j hj)⟩
      have c77 := ownsS_cell hown2 n _ hgetn
      have hblk : Blk w2 gx (n + 1) (fun j => ((Lib.byteCells l ++ [Value.int .u8 77])[j]?).getD .nilFunc) := by
        refine ⟨fun j hj => ?_, fun j => hown2.frozenAt j⟩
        have hlen : (Lib.byteCells l ++ [Value.int .u8 77]).length = n + 1 := by rw [List.length_append, byte_len, ← HNL.out]; rfl
        have hj2 : (Lib.byteCells l ++ [Value.int .u8 77])[j]? = some ((Lib.byteCells l ++ [Value.int .u8 77])[j]'(by rw [hlen]; exact hj)) := List.getElem?_eq_getElem _
        rw [hj2]
        exact ownsS_cell hown2 j _ hj2
      have HBW2 := Lib.hid hbw2
      have HBS2 := Lib.hid hbs2
      have H77 := Lib.hid c77
      have HBK := Lib.hid hblk
      have HGL := Lib.hid hgl
      have HGB := Lib.hid hgB
      have C1 := ptok_any capx hbs2 (hE.below hbw2)
      have j1 : (n : Int) ≤ (capx : Int) := by omega
      have j0 : (0 : Int) ≤ (n : Int) := by omega
      clear hown2 hgrow hbw2 hget hgetn hbs2 c77 hblk hgl hgB hO2
      go_wp2_with fail
      refine C1.mono ?_
      rintro e w3 ⟨x, p, ts, ⟨tv, rfl, ho3, hb3⟩, hD⟩
      clear C1
      obtain ⟨ta, tc, rfl⟩ := ownsS_shape ho3
      have HO3 := Lib.hid ho3
      have HB3 := Lib.hid hb3
      have HD := Lib.hid hD
      clear ho3 hb3 hD
      have C2 := fun o => rtok_any (w := w3.alloc o) c (HB.out.below ((HBW2.out.trans (HB3.out.mono HBW2.out.size)).alloc (by have := HB3.out.size; have := HBW2.out.size; omega) o)) hc
      obtain ⟨wA, hwA⟩ : ∃ wA, w3.alloc (.cells #[.int .i64 x, .int .i64 p] 26) = wA := ⟨_, rfl⟩
      have C2 := C2 (.cells #[.int .i64 x, .int .i64 p] 26)
      rw [hwA] at C2
      have HWA := Lib.hid hwA
      go_wp2_with fail
      refine C2.mono ?_
      rintro e w4 ⟨x', p', ts', ⟨tv', rfl, ho4, hb4⟩, hD'⟩
      clear C2
      obtain ⟨rfl, rfl, rfl⟩ := HD.out.det hD'
      obtain ⟨tb, td, rfl⟩ := ownsS_shape ho4
      have HO4 := Lib.hid ho4
      have HB4 := Lib.hid hb4
      clear ho4 hb4 hD' hwA
      have hsA : wA.heap.size = w3.heap.size + 1 := by rw [← HWA.out]; simp
      have HSA := Lib.hid hsA
      obtain ⟨w5, hw5⟩ : ∃ w5, w4.alloc (.cells #[.int .i64 x, .int .i64 p] 26) = w5 := ⟨_, rfl⟩
      have hs5 : w5.heap.size = w4.heap.size + 1 := by rw [← hw5]; simp
      have b35 : Below w3.heap.size w3 w5 := by
        have h1 : Below w3.heap.size w3 wA := by rw [← HWA.out]; exact (Below.refl _ w3).alloc (Nat.le_refl _) _
        have h2 := h1.trans (HB4.out.mono (by omega))
        rw [← hw5]
        exact h2.alloc h2.size _
      have bA5 : Below wA.heap.size wA w5 := by rw [← hw5]; exact HB4.out.alloc HB4.out.size _
      have f1 : Blk w5 w3.heap.size 2 (fun j => if j = 0 then .int .i64 x else .int .i64 p) := by
        have h := (Blk.new w3 #[.int .i64 x, .int .i64 p] 26).congr (F' := fun j => if j = 0 then .int .i64 x else .int .i64 p) (fun j hj => by have hj : j < 2 := hj; rcases (by omega : j = 0 ∨ j = 1) with rfl | rfl <;> rfl)
        rw [HWA.out] at h
        exact h.same (bA5.block _ (by omega))
      have f2 : Blk w5 w4.heap.size 2 (fun j => if j = 0 then .int .i64 x else .int .i64 p) := by
        have h := (Blk.new w4 #[.int .i64 x, .int .i64 p] 26).congr (F' := fun j => if j = 0 then .int .i64 x else .int .i64 p) (fun j hj => by have hj : j < 2 := hj; rcases (by omega : j = 0 ∨ j = 1) with rfl | rfl <;> rfl)
        rw [hw5] at h
        exact h
      have b25 : Below w2.heap.size w2 w5 := HB3.out.trans (b35.mono HB3.out.size)
      have bs5 := HBS2.out.below b25
      have bsa5 : Bs w5 a n l := HB.out.below (HBW2.out.trans (b25.mono HBW2.out.size))
      have C3 := bytes_eq capx c bs5 bsa5 (by omega)
      have H25 := Lib.hid b25
      have H35 := Lib.hid b35
      have HA5 := Lib.hid bA5
      have HF1 := Lib.hid f1
      have HF2 := Lib.hid f2
      have HW5 := Lib.hid hw5
      have H5S := Lib.hid hs5
      clear b25 b35 bA5 f1 f2 bs5 bsa5 hsA hs5
      go_wp2_with fail
      refine C3.mono ?_
      rintro e w6 ⟨rfl, hb6⟩
      clear C3 hw5
      have c77 : w6.cell? ⟨gx, n, none⟩ = some (.int .u8 77) := ((hb6.cell (p := ⟨gx, n, none⟩) (by have := HGL.out; have := H25.out.size; show gx < _; omega)).trans (H25.out.cell (p := ⟨gx, n, none⟩) HGL.out)).trans H77.out
      have j2 : (n : Int) < ((n + 1 : Nat) : Int) := by omega
      have blk6 : Blk w6 gx (n + 1) (fun j => ((Lib.byteCells l ++ [Value.int .u8 77])[j]?).getD .nilFunc) := (HBK.out.same (H25.out.block gx HGL.out)).same (hb6.block gx (by have := HGL.out; have := H25.out.size; omega))
      have HB6 := Lib.hid hb6
      have HK6 := Lib.hid blk6
      clear hb6 blk6
      go_wp2_with fail
      clear c77
      go_loopg [8] (n + 1) (fun gk v8 wr => ∃ i : Nat, i + gk = n + 1 ∧ v8 = .int .i64 (i : Int) ∧ But1 gx w6 wr ∧ ∃ F, Blk wr gx (n + 1) F)
      case atStart => exact ⟨0, by omega, rfl, ⟨rfl, rfl, rfl, rfl, fun _ _ => rfl⟩, _, HK6.out⟩
      case round =>
        obtain ⟨i, hig, rfl, hbut, F, hbk⟩ := hrel
        have HBT := Lib.hid hbut
        have k0 : (0 : Int) ≤ (i : Int) := by omega
        by_cases hil : i < n + 1
        · have k1 : (i : Int) < ((n + 1 : Nat) : Int) := by omega
          have ci := hbk.c i hil
          have zi := hbk.z i
          have ei : IntKind.i64.wrap ((i : Int) + 1) = ((i + 1 : Nat) : Int) := by rw [i64_small (by omega) (by omega)]; omega
          have HBK2 := Lib.hid (hbk.put i (.int .u8 33))
          clear hbk hbut
          go_wp2_with fail
          go_roundg (gk - 1)
          case measure => omega
          case rel =>
            refine ⟨i + 1, by omega, rfl, ⟨HBT.out.os, HBT.out.tape, HBT.out.output, ?_, fun k hk => ?_⟩, _, HBK2.out⟩
            · rw [size_set]; exact HBT.out.size
            · rw [setCell_blk hk]; exact HBT.out.block k hk
        · have k1 : ¬ (i : Int) < ((n + 1 : Nat) : Int) := by omega
          have hb := HBT.out
          have l3 : w3.heap.size < w5.heap.size := by have := HB4.out.size; have := HSA.out; have := H5S.out; omega
          have l4 : w4.heap.size < w5.heap.size := by have := H5S.out; omega
          have n3 : w3.heap.size ≠ gx := by have := HGL.out; have := HB3.out.size; omega
          have n4 : w4.heap.size ≠ gx := by have := HGL.out; have := HB3.out.size; have := HB4.out.size; have := HSA.out; omega
          have q1 := (HF1.out.same (HB6.out.block _ l3)).same (hb.block _ n3)
          have q2 := (HF2.out.same (HB6.out.block _ l4)).same (hb.block _ n4)
          have p10 := q1.c 0 (by omega)
          have p11 := q1.c 1 (by omega)
          have p20 := q2.c 0 (by omega)
          have p21 := q2.c 1 (by omega)
          simp only [if_true] at p10 p20
          simp only [show ¬ (1 : Nat) = 0 by omega, if_false] at p11 p21
          have hfe := flt_eq x p
          have keep : ∀ {B : Nat} {v : Value} {w0 : World}, w0.ownsRow B 35 3 v ts.length (tkl ts) → w2.heap.size ≤ B → Below w0.heap.size w0 w5 → Tr wr v ts := fun {B} {v} {w0} h hB hb0 => by
            refine tr_of (B := B) (ownsS_same h (fun k hk => ?_))
            have hk2 := ownsS_base h k hk
            have hkg : k ≠ gx := by have := HGL.out; omega
            rw [hb.block k hkg, HB6.out.block k (by have := hb0.size; omega), hb0.block k hk2.2]
          have tr1 := keep HO3.out (Nat.le_refl _) H35.out
          have tr2 := keep HO4.out (by have := HB3.out.size; have := HSA.out; omega) (by rw [← HW5.out]; exact (Below.refl _ w4).alloc (Nat.le_refl _) _)
          have C4 := tokens_eq true tr1 tr2 (Al.refl _ _) (own_max HO3.out)
          have hbf : Below w.heap.size w wr := by
            have h1 := HBW2.out.trans (H25.out.mono HBW2.out.size)
            have h2 := h1.trans (HB6.out.mono h1.size)
            refine h2.trans ⟨hb.os, hb.tape, hb.output, by rw [hb.size]; exact Nat.le_refl _, fun k hk => hb.block k (by have := HGB.out; omega)⟩
          have HBF := Lib.hid hbf
          clear hbk hbut keep tr1 tr2 q1 q2 hb l3 l4 n3 n4 hbf
          go_wp2_with (go_at_call 13; refine C4.mono ?_; rintro e w7 ⟨rfl, hb7⟩; have C5 := awake_any w7 (hE.below (HBF.out.trans (hb7.mono HBF.out.size))))
          refine C5.mono ?_
          rintro e w8 ⟨rfl, hb8⟩
          go_wp2_with fail
          go_ret
          exact ⟨rfl, (HBF.out.trans (hb7.mono HBF.out.size)).trans (hb8.mono (by have := HBF.out.size; have := hb7.size; omega))⟩
end Lx
end Go.Proofs.YtkppnncpejohgaaDoor
