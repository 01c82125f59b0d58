/-
  Lists of ints in memory; Tuple and Frozen, of the code and of the reference.
-/
import Derived.Test.YtfcnljdededdjaaDgLaw1
namespace Go.Proofs.Ytfcnljdededdjaa
open Go.RowKit Go.Shelf

/-- Ints in a row, at block b from off on. -/
def SegI (w : World) (b off : Nat) (l : List Int) : Prop := ∀ j, j < l.length → w.cell? ⟨b, off + j, none⟩ = some (.int .i64 (l[j]?.getD 0))
def SlI (w : World) (a : Option Addr) (n cap : Nat) (l : List Int) : Prop := n = l.length ∧ l.length ≤ cap ∧ ∃ b off, (0 < l.length → a = some ⟨b, off, none⟩ ∧ b < w.heap.size) ∧ SegI w b off l
theorem SlI.below {w w' : World} {a : Option Addr} {n cap : Nat} {l : List Int} (h : SlI w a n cap l) (hb : Below w.heap.size w w') : SlI w' a n cap l := by
  obtain ⟨h1, h2, b, off, h3, h4⟩ := h
  refine ⟨h1, h2, b, off, fun h0 => ⟨(h3 h0).1, Nat.lt_of_lt_of_le (h3 h0).2 hb.size⟩, fun j hj => ?_⟩
  exact (hb.cell (p := ⟨b, off + j, none⟩) (h3 (by omega)).2).trans (h4 j hj)

/-- A word, and each part in its turn. -/
def folded (f : Int → Int → Int) (s : Int) (l : List Int) (k : Nat) : Int := (l.take k).foldl (fun s p => f s (IntKind.u64.wrap p)) s
theorem folded_zero (f : Int → Int → Int) (s : Int) (l : List Int) : folded f s l 0 = s := rfl
theorem folded_succ (f : Int → Int → Int) (s : Int) (l : List Int) (k : Nat) (h : k < l.length) : folded f s l (k + 1) = f (folded f s l k) (IntKind.u64.wrap (l[k]?.getD 0)) := by
  unfold folded
  rw [List.take_add_one, List.foldl_append, List.getElem?_eq_getElem h]
  rfl
def rot (x : Int) : Int := bits BinOp.or IntKind.u64 (IntKind.u64.wrap (x * 2147483648)) (x / 8589934592)
def tstep (s p : Int) : Int := IntKind.u64.wrap (rot (IntKind.u64.wrap (s + IntKind.u64.wrap (p * 14029467366897019727))) * 11400714785074694791)
def fstep (s p : Int) : Int := bits BinOp.xor IntKind.u64 s (IntKind.u64.wrap (bits BinOp.xor IntKind.u64 (bits BinOp.xor IntKind.u64 p 89869747) (IntKind.u64.wrap (p * 65536)) * 3644798167))

theorem tstep_any (s p : Int) (w : World) : Calls Try.prog 31 #[.int .u64 s, .int .u64 p] w fun e w' => e = .returned (.int .u64 (tstep s p)) ∧ w' = w := by
  go_enter Try.func31, Try.ntmps31
  go_wp2_with fail
  refine (rot31_any _ _).mono ?_
  rintro e w1 ⟨rfl, rfl⟩
  go_wp2
  go_ret
  exact ⟨rfl, rfl⟩
theorem fstep_any (s p : Int) (w : World) : Calls Try.prog 33 #[.int .u64 s, .int .u64 p] w fun e w' => e = .returned (.int .u64 (fstep s p)) ∧ w' = w := by
  go_enter Try.func33, Try.ntmps33
  go_wp2
  go_ret
  exact ⟨rfl, rfl⟩

set_option maxRecDepth 100000 in
set_option maxHeartbeats 1000000 in
theorem fold_tuple (s : Int) (a : Option Addr) (n cap : Nat) (l : List Int) (w : World) (h : SlI w a n cap l) (hl : l.length ≤ 3000) :
    Calls Try.prog 30 #[.int .u64 s, .func (.func 31) #[] #[], .slice a n cap] w fun e w' => e = .returned (.int .u64 (folded tstep s l l.length)) ∧ w' = w := by
  obtain ⟨rfl, hcap, b, off, ha, sg⟩ := h
  go_enter Try.func30, Try.ntmps30
  go_wp2_with fail
  go_loop [7, 13] (fun t i => ∃ k : Nat, k ≤ l.length ∧ i = .int .i64 (k : Int) ∧ t = .int .u64 (folded tstep s l k)) (fun _ i => l.length - (intOf i).toNat)
  case atStart => exact ⟨0, Nat.zero_le _, rfl, by rw [folded_zero]⟩
  case round =>
    obtain ⟨k, hk, rfl, rfl⟩ := hrel
    by_cases hlt : k < l.length
    · have t2 : (k : Int) < l.length := by omega
      obtain ⟨ea, hb⟩ := ha (by omega)
      have hc := sg k hlt
      have HF : Hid (folded tstep s l (k + 1) = tstep (folded tstep s l k) (IntKind.u64.wrap (l[k]?.getD 0))) := folded_succ _ _ _ _ hlt
      obtain ⟨p, hp⟩ : ∃ p, l[k]?.getD 0 = p := ⟨_, rfl⟩
      rw [hp] at hc HF
      obtain ⟨T, hT⟩ : ∃ T, folded tstep s l k = T := ⟨_, rfl⟩
      rw [hT] at HF ⊢
      clear hp hT
      subst ea
      go_wp2_with (go_at_call 31; refine (tstep_any _ _ _).mono ?_; rintro e w' ⟨rfl, rfl⟩)
      refine ⟨⟨k + 1, by omega, by go_num, by rw [HF.out]⟩, by simp [intOf]; omega⟩
    · obtain rfl : k = l.length := by omega
      have t2 : ¬ (l.length : Int) < l.length := by omega
      clear sg ha
      obtain ⟨T, hT⟩ : ∃ T, folded tstep s l l.length = T := ⟨_, rfl⟩
      have HT : Hid (folded tstep s l l.length = T) := hT
      clear hT
      rw [HT.out]
      go_wp2
      go_ret
      exact ⟨by rw [HT.out]; rfl, rfl⟩

set_option maxRecDepth 100000 in
set_option maxHeartbeats 1000000 in
theorem fold_frozen (s : Int) (a : Option Addr) (n cap : Nat) (l : List Int) (w : World) (h : SlI w a n cap l) (hl : l.length ≤ 3000) :
    Calls Try.prog 30 #[.int .u64 s, .func (.func 33) #[] #[], .slice a n cap] w fun e w' => e = .returned (.int .u64 (folded fstep s l l.length)) ∧ w' = w := by
  obtain ⟨rfl, hcap, b, off, ha, sg⟩ := h
  go_enter Try.func30, Try.ntmps30
  go_wp2_with fail
  go_loop [7, 13] (fun t i => ∃ k : Nat, k ≤ l.length ∧ i = .int .i64 (k : Int) ∧ t = .int .u64 (folded fstep s l k)) (fun _ i => l.length - (intOf i).toNat)
  case atStart => exact ⟨0, Nat.zero_le _, rfl, by rw [folded_zero]⟩
  case round =>
    obtain ⟨k, hk, rfl, rfl⟩ := hrel
    by_cases hlt : k < l.length
    · have t2 : (k : Int) < l.length := by omega
      obtain ⟨ea, hb⟩ := ha (by omega)
      have hc := sg k hlt
      have HF : Hid (folded fstep s l (k + 1) = fstep (folded fstep s l k) (IntKind.u64.wrap (l[k]?.getD 0))) := folded_succ _ _ _ _ hlt
      obtain ⟨p, hp⟩ : ∃ p, l[k]?.getD 0 = p := ⟨_, rfl⟩
      rw [hp] at hc HF
      obtain ⟨T, hT⟩ : ∃ T, folded fstep s l k = T := ⟨_, rfl⟩
      rw [hT] at HF ⊢
      clear hp hT
      subst ea
      go_wp2_with (go_at_call 33; refine (fstep_any _ _ _).mono ?_; rintro e w' ⟨rfl, rfl⟩)
      refine ⟨⟨k + 1, by omega, by go_num, by rw [HF.out]⟩, by simp [intOf]; omega⟩
    · obtain rfl : k = l.length := by omega
      have t2 : ¬ (l.length : Int) < l.length := by omega
      clear sg ha
      obtain ⟨T, hT⟩ : ∃ T, folded fstep s l l.length = T := ⟨_, rfl⟩
      have HT : Hid (folded fstep s l l.length = T) := hT
      clear hT
      rw [HT.out]
      go_wp2
      go_ret
      exact ⟨by rw [HT.out]; rfl, rfl⟩

def tupleZ (l : List Int) : Int := hashed (IntKind.u64.wrap (folded tstep 2870177450012600261 l l.length + bits BinOp.xor IntKind.u64 (bits BinOp.xor IntKind.u64 (l.length : Int) 2870177450012600261) 3527539)) 1546275796
def fmix (s : Int) : Int := bits BinOp.xor IntKind.u64 s (bits BinOp.xor IntKind.u64 (s / 2048) (s / 33554432))
def frozenZ (l : List Int) : Int := hashed (IntKind.u64.wrap (IntKind.u64.wrap (fmix (bits BinOp.xor IntKind.u64 (folded fstep 0 l l.length) (((l.length : Int) + 1) * 1927868237)) * 69069) + 907133923)) 590923713

set_option maxRecDepth 100000 in
theorem tuple_any (a : Option Addr) (n cap : Nat) (l : List Int) (w : World) (h : SlI w a n cap l) (hl : l.length ≤ 3000) :
    Calls Try.prog 16 #[.slice a n cap] w fun e w' => e = .returned (.int .i64 (tupleZ l)) ∧ w' = w := by
  unfold tupleZ
  have C := fold_tuple 2870177450012600261 a n cap l w h hl
  have hn := h.1
  subst hn
  obtain ⟨T, hT⟩ : ∃ T, folded tstep 2870177450012600261 l l.length = T := ⟨_, rfl⟩
  rw [hT] at C ⊢
  clear hT h
  go_enter Try.func16, Try.ntmps16
  go_wp2_with fail
  refine C.mono ?_
  rintro e w1 ⟨rfl, rfl⟩
  go_wp2_with fail
  refine (sealed_tuple _ _).mono ?_
  rintro e w1 ⟨rfl, rfl⟩
  go_wp2
  go_ret
  exact ⟨rfl, rfl⟩

set_option maxRecDepth 100000 in
theorem frozen_any (a : Option Addr) (n cap : Nat) (l : List Int) (w : World) (h : SlI w a n cap l) (hl : l.length ≤ 3000) :
    Calls Try.prog 17 #[.slice a n cap] w fun e w' => e = .returned (.int .i64 (frozenZ l)) ∧ w' = w := by
  unfold frozenZ
  have C := fold_frozen 0 a n cap l w h hl
  have hn := h.1
  subst hn
  obtain ⟨T, hT⟩ : ∃ T, folded fstep 0 l l.length = T := ⟨_, rfl⟩
  rw [hT] at C ⊢
  clear hT h
  go_enter Try.func17, Try.ntmps17
  go_wp2_with fail
  refine C.mono ?_
  rintro e w1 ⟨rfl, rfl⟩
  go_wp2_with fail
  refine (sealed_frozen _ _).mono ?_
  rintro e w1 ⟨rfl, rfl⟩
  go_wp2
  go_ret
  exact ⟨rfl, rfl⟩

set_option maxRecDepth 100000 in
set_option maxHeartbeats 1000000 in
theorem rtuple_any (a : Option Addr) (n cap : Nat) (l : List Int) (w : World) (h : SlI w a n cap l) (hl : l.length ≤ 3000) :
    Calls Try.prog 18 #[.slice a n cap] w fun e w' => e = .returned (.int .i64 (tupleZ l)) ∧ w' = w := by
  obtain ⟨rfl, hcap, b, off, ha, sg⟩ := h
  go_enter Try.func18, Try.ntmps18
  go_wp2_with fail
  go_loop [3, 4] (fun t i => ∃ k : Nat, k ≤ l.length ∧ i = .int .i64 (k : Int) ∧ t = .int .u64 (folded tstep 2870177450012600261 l k)) (fun _ i => l.length - (intOf i).toNat)
  case atStart => exact ⟨0, Nat.zero_le _, rfl, by rw [folded_zero]⟩
  case round =>
    obtain ⟨k, hk, rfl, rfl⟩ := hrel
    by_cases hlt : k < l.length
    · have t2 : (k : Int) < l.length := by omega
      obtain ⟨ea, hb⟩ := ha (by omega)
      have hc := sg k hlt
      have HF : Hid (folded tstep 2870177450012600261 l (k + 1) = tstep (folded tstep 2870177450012600261 l k) (IntKind.u64.wrap (l[k]?.getD 0))) := folded_succ _ _ _ _ hlt
      obtain ⟨p, hp⟩ : ∃ p, l[k]?.getD 0 = p := ⟨_, rfl⟩
      rw [hp] at hc HF
      obtain ⟨T, hT⟩ : ∃ T, folded tstep 2870177450012600261 l k = T := ⟨_, rfl⟩
      rw [hT] at HF ⊢
      clear hp hT
      subst ea
      go_wp2_with fail
      refine ⟨⟨k + 1, by omega, by go_num, by rw [HF.out]; rfl⟩, by simp [intOf]; omega⟩
    · obtain rfl : k = l.length := by omega
      have t2 : ¬ (l.length : Int) < l.length := by omega
      clear sg ha
      obtain ⟨T, hT⟩ : ∃ T, folded tstep 2870177450012600261 l l.length = T := ⟨_, rfl⟩
      have HT : Hid (folded tstep 2870177450012600261 l l.length = T) := hT
      clear hT
      rw [HT.out]
      go_wp2_with (go_at_call 29; refine (instead_any _ _ _).mono ?_; rintro e w' ⟨rfl, rfl⟩)
      go_ret
      exact ⟨by show _ = Ending.returned (.int .i64 (tupleZ l)); unfold tupleZ; rw [HT.out]; rfl, rfl⟩

set_option maxRecDepth 100000 in
set_option maxHeartbeats 1000000 in
theorem rfrozen_any (a : Option Addr) (n cap : Nat) (l : List Int) (w : World) (h : SlI w a n cap l) (hl : l.length ≤ 3000) :
    Calls Try.prog 19 #[.slice a n cap] w fun e w' => e = .returned (.int .i64 (frozenZ l)) ∧ w' = w := by
  obtain ⟨rfl, hcap, b, off, ha, sg⟩ := h
  go_enter Try.func19, Try.ntmps19
  go_wp2_with fail
  go_loop [3, 4] (fun t i => ∃ k : Nat, k ≤ l.length ∧ i = .int .i64 (k : Int) ∧ t = .int .u64 (folded fstep 0 l k)) (fun _ i => l.length - (intOf i).toNat)
  case atStart => exact ⟨0, Nat.zero_le _, rfl, by rw [folded_zero]⟩
  case round =>
    obtain ⟨k, hk, rfl, rfl⟩ := hrel
    by_cases hlt : k < l.length
    · have t2 : (k : Int) < l.length := by omega
      obtain ⟨ea, hb⟩ := ha (by omega)
      have hc := sg k hlt
      have HF : Hid (folded fstep 0 l (k + 1) = fstep (folded fstep 0 l k) (IntKind.u64.wrap (l[k]?.getD 0))) := folded_succ _ _ _ _ hlt
      obtain ⟨p, hp⟩ : ∃ p, l[k]?.getD 0 = p := ⟨_, rfl⟩
      rw [hp] at hc HF
      obtain ⟨T, hT⟩ : ∃ T, folded fstep 0 l k = T := ⟨_, rfl⟩
      rw [hT] at HF ⊢
      clear hp hT
      subst ea
      go_wp2_with fail
      refine ⟨⟨k + 1, by omega, by go_num, by rw [HF.out]; rfl⟩, by simp [intOf]; omega⟩
    · obtain rfl : k = l.length := by omega
      have t2 : ¬ (l.length : Int) < l.length := by omega
      clear sg ha
      obtain ⟨T, hT⟩ : ∃ T, folded fstep 0 l l.length = T := ⟨_, rfl⟩
      have HT : Hid (folded fstep 0 l l.length = T) := hT
      clear hT
      rw [HT.out]
      go_wp2_with (go_at_call 29; refine (instead_any _ _ _).mono ?_; rintro e w' ⟨rfl, rfl⟩)
      go_ret
      exact ⟨by show _ = Ending.returned (.int .i64 (frozenZ l)); unfold frozenZ; rw [HT.out]; rfl, rfl⟩
end Go.Proofs.Ytfcnljdededdjaa
