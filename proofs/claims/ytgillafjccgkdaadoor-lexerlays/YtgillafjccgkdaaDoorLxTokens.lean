/-
  Tokens; what the document fixes.
-/
import Derived.Test.YtgillafjccgkdaaDoorLxTop
import Derived.Test.YtgillafjccgkdaaDoorLeBytes
namespace Go.Proofs.YtgillafjccgkdaaDoor
open Go.RowKit Go.WideShapes
namespace Lx

/-- Bytes that can be read. -/
def Bs (w : World) (a : Option Addr) (n : Nat) (l : List UInt8) : Prop := n = l.length ∧ ∃ b off, (0 < n → a = some ⟨b, off, none⟩ ∧ b < w.heap.size) ∧ ∀ j, j < n → w.cell? ⟨b, off + j, none⟩ = some (.int .u8 ((l.getD j 0).toNat : Int))
theorem Bs.below {w w' : World} {a : Option Addr} {n : Nat} {l : List UInt8} (h : Bs w a n l) (hb : Below w.heap.size w w') : Bs w' a n l := by
  obtain ⟨h1, b, off, h2, h3⟩ := h
  exact ⟨h1, b, off, fun h0 => ⟨(h2 h0).1, Nat.lt_of_lt_of_le (h2 h0).2 hb.size⟩, fun j hj => (hb.cell (p := ⟨b, off + j, none⟩) (h2 (by omega)).2).trans (h3 j hj)⟩
theorem conv_none (w : World) (a : Option Addr) (c : Nat) : (convert 25 9 (.slice a 0 c)).run Tryd.prog w = .ok (.string ⟨#[]⟩) w := by
  cases a with
  | none => exact run_convert_bytes_nil w _ 5 Tryd.underlying25 Tryd.underlying5 _ _ _ Tryd.underlying9
  | some p => kernel_rfl
theorem conv_bs {w : World} {a : Option Addr} {n : Nat} {l : List UInt8} (h : Bs w a n l) (c : Nat) : (convert 25 9 (.slice a n c)).run Tryd.prog w = .ok (.string ⟨l.toArray⟩) w := by
  obtain ⟨rfl, b, off, h2, h3⟩ := h
  rcases Nat.eq_zero_or_pos l.length with z | z
  · rw [z]
    obtain rfl := List.eq_nil_of_length_eq_zero z
    exact conv_none w a c
  · obtain ⟨rfl, -⟩ := h2 z
    rw [run_convert_bytes_arg w _ 5 Tryd.underlying25 Tryd.underlying5 b off l.length c (l.map fun b => ((b.toNat : Nat) : Int)) (by simp) ?_ _ Tryd.underlying9, str_nums]
    intro j hj
    rw [h3 j hj]
    simp [List.getD, hj]
theorem AnsR.up {N M : Nat} {l : List UInt8} {w : World} {e : Ending} {w' : World} (h : AnsR M l w e w') (hNM : N ≤ M) : AnsR N l w e w' := by
  obtain ⟨o, h1, h2, h3⟩ := h
  refine ⟨o, h1, h2.mono hNM, ?_⟩
  cases o with
  | bad c p => exact h3
  | ok ts =>
    obtain ⟨tv, e1, e2⟩ := h3
    refine ⟨tv, e1, e2.1, ?_⟩
    rcases e2.2 with h0 | ⟨g, c, cur, e, h1, h2⟩
    · exact Or.inl h0
    · exact Or.inr ⟨g, c, cur, e, by omega, h2⟩
set_option maxRecDepth 100000 in
set_option maxHeartbeats 1000000 in
theorem tokens_long (w : World) (a : Option Addr) (n c : Nat) (h : 65536 < n) :
    Calls Tryd.prog 6 #[.slice a n c] w fun e w' => e = .returned (.tuple #[.slice none 0 0, .agg #[.int .i64 101, .int .i64 65536]]) ∧ Below w.heap.size w w' := by
  have t1 : (65536 : Int) < (n : Int) := by omega
  go_enter Tryd.func6, Tryd.ntmps6
  go_wp2
  refine bodyPost_ret (v := .tuple #[.slice none 0 0, .agg #[.int .i64 101, .int .i64 65536]]) (by simp [results, Tryd.results6, go_sem]) rfl ?_
  exact ⟨rfl, (Below.refl _ w).alloc (Nat.le_refl _) _⟩
set_option maxRecDepth 100000 in
set_option maxHeartbeats 1000000 in
theorem tokens_any {w : World} {a : Option Addr} {n : Nat} {l : List UInt8} (hB : Bs w a n l) (c : Nat) (hn : n ≤ 65536) (hE : Env w) :
    Calls Tryd.prog 6 #[.slice a n c] w fun e w' => AnsR w.heap.size l w e w' := by
  have t1 : ¬ (65536 : Int) < (n : Int) := by omega
  have hnl := hB.1
  obtain ⟨W, hW⟩ : ∃ W, w.alloc (.cells #[.int .i64 0, .int .i64 0] 35) = W := ⟨_, rfl⟩
  have hbW : Below w.heap.size w W := by rw [← hW]; exact (Below.refl _ w).alloc (Nat.le_refl _) _
  have hcv := conv_bs (hB.below hbW) c
  have hs : W.heap.size = w.heap.size + 1 := by rw [← hW]; simp
  have b0 : Blk W w.heap.size 2 (fun _ => .int .i64 0) := by
    rw [← hW]
    exact (Blk.new w #[.int .i64 0, .int .i64 0] 35).congr (F' := fun _ => .int .i64 0) (fun j hj => by have hj : j < 2 := hj; rcases (by omega : j = 0 ∨ j = 1) with rfl | rfl <;> rfl)
  have C := read_any ⟨l.toArray⟩ W (by rw [arr_size]; omega) (hE.below hbW)
  have HBW := Lib.hid hbW
  have HS := Lib.hid hs
  have HB0 := Lib.hid b0
  clear hbW hs b0 hnl hE hB
  go_enter Tryd.func6, Tryd.ntmps6
  go_wp2_with fail
  refine C.mono ?_
  rintro e w1 hA
  clear C
  obtain ⟨o, hL, hb, hm⟩ := hA
  have k0 := HB0.out.same (hb.block _ (by have := HS.out; omega))
  have p0 := k0.c 0 (by omega)
  have p1 := k0.c 1 (by omega)
  have z0 := k0.z 0
  have z1 := k0.z 1
  have HK := Lib.hid k0
  have HL := Lib.hid hL
  have HB := Lib.hid hb
  clear k0 hL hb hW
  have key : ∀ x y : Int, Hid (((w1.setCell ⟨w.heap.size, 0, none⟩ (.int .i64 x)).setCell ⟨w.heap.size, 1, none⟩ (.int .i64 y)).cell? ⟨w.heap.size, 0, none⟩ = some (.int .i64 x) ∧ ((w1.setCell ⟨w.heap.size, 0, none⟩ (.int .i64 x)).setCell ⟨w.heap.size, 1, none⟩ (.int .i64 y)).cell? ⟨w.heap.size, 1, none⟩ = some (.int .i64 y) ∧ Below w.heap.size w ((w1.setCell ⟨w.heap.size, 0, none⟩ (.int .i64 x)).setCell ⟨w.heap.size, 1, none⟩ (.int .i64 y))) := fun x y => by
    have h := (HK.out.put 0 (.int .i64 x)).put 1 (.int .i64 y)
    refine ⟨h.c 0 (by omega), h.c 1 (by omega), ?_⟩
    exact (((HBW.out.trans (HB.out.mono (by have := HS.out; omega))).setCell (p := ⟨w.heap.size, 0, none⟩) (Nat.le_refl _) _).setCell (p := ⟨w.heap.size, 1, none⟩) (Nat.le_refl _) _)
  have HKEY := Lib.hid key
  clear key
  cases o with
  | ok ts =>
    obtain ⟨tv, rfl, ho⟩ := hm
    obtain ⟨ta, cap, rfl⟩ := ownsS_shape ho
    have HO := Lib.hid ho
    clear ho
    go_wp2_with fail
    obtain ⟨r0, r1, r2⟩ := (HKEY.out 0 0).out
    refine bodyPost_ret (v := .tuple #[.slice ta ts.length cap, .agg #[.int .i64 0, .int .i64 0]]) (by simp [results, Tryd.results6, go_sem, r0, r1]) rfl ?_
    refine ⟨.ok ts, HL.out, r2, _, rfl, ?_⟩
    have hto : w1.ownsRow w.heap.size 29 3 (.slice ta ts.length cap) ts.length (tkl ts) := by
      have h := HO.out
      have := HS.out
      refine ⟨h.1, ?_⟩
      rcases h.2 with h0 | ⟨g, c, cur, e, h1, h2⟩
      · exact Or.inl h0
      · exact Or.inr ⟨g, c, cur, e, by omega, h2⟩
    refine ownsS_same hto (fun k hk => ?_)
    have hk2 := (ownsS_base HO.out k hk).1
    have := HS.out
    rw [setCell_blk (by omega), setCell_blk (by omega)]
  | bad c p =>
    obtain rfl := hm
    go_wp2_with fail
    obtain ⟨r0, r1, r2⟩ := (HKEY.out (c : Int) (p : Int)).out
    refine bodyPost_ret (v := .tuple #[.slice none 0 0, .agg #[.int .i64 (c : Int), .int .i64 (p : Int)]]) (by simp [results, Tryd.results6, go_sem, r0, r1]) rfl ?_
    exact ⟨.bad c p, HL.out, r2, rfl⟩
/-- The machine, gone through. -/
def lexN (l : List UInt8) : Nat → Cf → Option Out
  | 0, _ => none
  | n + 1, c => match stp l c with
    | .inl r => some r
    | .inr c' => lexN l n c'
theorem lexN_lex {l : List UInt8} : ∀ (n : Nat) (c : Cf) (r : Out), lexN l n c = some r → Lex l c r
  | 0, c, r, h => by cases h
  | n + 1, c, r, h => by
    unfold lexN at h
    cases hs : stp l c with
    | inl x => rw [hs] at h; injection h with h; subst h; exact .done hs
    | inr c' => rw [hs] at h; exact .more hs (lexN_lex n c' r h)
def awT : List Tok := [⟨1, [97], 0⟩, ⟨5, [61], 1⟩, ⟨3, [49], 2⟩, ⟨6, [], 3⟩, ⟨9, [], 3⟩]
theorem lex_aw : Lex [97, 61, 49] cf0 (.ok awT) := lexN_lex 10 _ _ (by rfl)
end Lx
end Go.Proofs.YtgillafjccgkdaaDoor
