/-
  A dictionary more; a machine more.
  A dictionary of one's own, without a meter, and its machines, as the laws need them.
  A machine that is told the same; turns compared; awake.
-/
import Derived.Test.YtfhpkoakalihkaaGreatGo
import Derived.Test.YtfhpkoakalihkaaGreatGj
import Derived.Test.YtfhpkoakalihkaaGreatGl
import Derived.Defers
namespace Go.Proofs.YtfhpkoakalihkaaGreat
open Go.RowKit Go.WideShapes

def St8.more (S : St8) (p : Dp) : St8 := ⟨S.nd + 1, updA S.ds S.nd p, S.nm, S.ms, S.rm, S.rn⟩
def St8.push (S : St8) (q : Mp) (vm vn : Value) : St8 := ⟨S.nd, S.ds, S.nm + 1, updA S.ms S.nm q, vm, vn⟩
theorem more_fin {w w1 w2 w3 : World} {X : Nat} {S : St8} {mv mr : Value} {M : Int → Int → World → Prop} {a b most : Int} {c : Nat} (hP : P8 w X S mv mr M a b most c) (hMo : MtOk mv M) {p : Dp} {w1' : World}
    (x1 : Ex (mB mv) w w1) (hw1 : Ex (fun i => i = X) w1 w1') (x2 : Ex (mB mr) w1' w2) (hw3 : Ex (fun i => i = X) w2 w3)
    (hD : Dc w1 p.d p.g p.gi p.r p.h p.ev p.t mv most p.v) (hR : Rdc w2 p.d2 p.g2 p.q2 p.ev2 p.t mr most p.v) (fP : ∀ i, p.P i → w.heap.size ≤ i) (fR : ∀ i, p.R i → w1'.heap.size ≤ i)
    (hm : M (a + 1) b w1) (hms : Ms w2 mr (a + 1) b 0 0) (hb : Bp p (c + 1)) (hX : Blk w3 X 4 (x8F (S.more p))) :
    ∃ S' a' b', D8 w X S mv mr M most (c + 1) S' a' b' w3 ∧ S'.nm = S.nm ∧ S'.nd = S.nd + 1 := by
  obtain ⟨lab, sp⟩ := hP.sep
  have s1 := x1.size
  have s2 := hw1.size
  have s3 := x2.size
  have s4 := hw3.size
  have hlD := hD.lt
  have hlR := hR.lt
  have old : ∀ i, i < w.heap.size → lab i ≠ 0 → lab i ≠ 1 → lab i ≠ 2 → w3.heap[i]? = w.heap[i]? := fun i hi h0 h1 h2 => by
    rw [hw3.block i (by omega) (fun e => h0 (by rw [e]; exact sp.x.1)), x2.block i (by omega) (fun e => h2 (sp.r i e).1), hw1.block i (by omega) (fun e => h0 (by rw [e]; exact sp.x.1)), x1.block i hi (fun e => h1 (sp.m i e).1)]
  have newP : ∀ i, w.heap.size ≤ i → i < w1.heap.size → w3.heap[i]? = w1.heap[i]? := fun i hi hl => by
    have hxn : i ≠ X := by have := sp.x.2; omega
    rw [hw3.block i (by omega) hxn, x2.block i (by omega) (fun e => by have := (sp.r i e).2; omega), hw1.block i hl hxn]
  have newR : ∀ i, w1'.heap.size ≤ i → i < w2.heap.size → w3.heap[i]? = w2.heap[i]? := fun i hi hl => hw3.block i hl (fun e => by have := sp.x.2; omega)
  have ab := hP.ab
  have ok : ∀ i, i < S.nd → i ≠ S.nd := fun i h => by omega
  refine ⟨S.more p, a + 1, b, ⟨⟨hX, ?_, ?_, Nat.succ_pos _, hP.nm, ?_, ?_, ?_, ?_, ⟨by omega, by push_cast; omega, by omega, by push_cast; omega⟩, ?_⟩, ?_, ?_⟩, rfl, rfl⟩
  · exact owns_same hP.rm fun i hi => by have := sp.rm i hi; exact old i this.2 (by omega) (by omega) (by omega)
  · exact owns_same hP.rn fun i hi => by have := sp.rn i hi; exact old i this.2 (by omega) (by omega) (by omega)
  · intro i hi
    show Dk w3 w3 (updA S.ds S.nd p i) mv mr most (c + 1)
    by_cases e : i = S.nd
    · rw [e, updA_at]
      exact ⟨hD.same fun i hi => newP i (fP i hi) (hlD i hi), hR.same fun i hi => newR i (fR i hi) (hlR i hi), hb⟩
    · rw [updA_ne _ _ e]
      have hi' : i < S.nd := by have : i < S.nd + 1 := hi; omega
      exact ((hP.dk i hi').le (Nat.le_succ c)).same (fun b hb => by have := sp.dp i hi' b hb; exact old b this.2 (by omega) (by omega) (by omega)) (fun b hb => by have := sp.dr i hi' b hb; exact old b this.2 (by omega) (by omega) (by omega))
  · intro j hj
    have h := hP.mh j hj
    show (S.ms j).k < S.nd + 1 ∧ Mk w3 w3 (updA S.ds S.nd p (S.ms j).k) (S.ms j) (c + 1)
    rw [updA_ne _ _ (ok _ h.1)]
    exact ⟨by omega, (h.2.le (Nat.le_succ c)).same (fun b hb => by have := sp.mp j hj b hb; exact old b this.2 (by omega) (by omega) (by omega)) (fun b hb => by have := sp.mr j hj b hb; exact old b this.2 (by omega) (by omega) (by omega))⟩
  · refine hMo.same _ _ _ _ hm fun i hi => ?_
    have hmi := sp.m i hi
    have hx := sp.x
    rw [hw3.block i (by omega) (fun e => by rw [e] at hmi; omega), x2.block i (by omega) (fun e => by have := sp.r i e; omega), hw1.block i (by omega) (fun e => by rw [e] at hmi; omega)]
  · refine hms.same fun i hi => ?_
    have hmi := sp.r i hi
    have hx := sp.x
    exact hw3.block i (by omega) (fun e => by rw [e] at hmi; omega)
  · refine ⟨fun i => if i < w.heap.size then lab i else if i < w1'.heap.size then 5 + 4 * S.nd else 6 + 4 * S.nd, ⟨?_, by have := sp.x.2; omega⟩, fun b hb => ?_, fun b hb => ?_, fun b hb => ?_, fun b hb => ?_, fun i hi b hb => ?_, fun i hi b hb => ?_, fun i hi b hb => ?_, fun i hi b hb => ?_⟩
    · show (if X < w.heap.size then lab X else _) = 0
      rw [if_pos sp.x.2]; exact sp.x.1
    · show (if b < w.heap.size then lab b else _) = 1 ∧ _
      have := sp.m b hb; rw [if_pos this.2]; exact ⟨this.1, by omega⟩
    · show (if b < w.heap.size then lab b else _) = 2 ∧ _
      have := sp.r b hb; rw [if_pos this.2]; exact ⟨this.1, by omega⟩
    · show (if b < w.heap.size then lab b else _) = 3 ∧ _
      have := sp.rm b hb; rw [if_pos this.2]; exact ⟨this.1, by omega⟩
    · show (if b < w.heap.size then lab b else _) = 4 ∧ _
      have := sp.rn b hb; rw [if_pos this.2]; exact ⟨this.1, by omega⟩
    · show (if b < w.heap.size then lab b else if b < w1'.heap.size then 5 + 4 * S.nd else 6 + 4 * S.nd) = 5 + 4 * i ∧ _
      have hb' : (updA S.ds S.nd p i).P b := hb
      by_cases e : i = S.nd
      · rw [e, updA_at] at hb'
        have g1 := fP b hb'
        have g2 := hlD b hb'
        rw [if_neg (by omega), if_pos (by omega), e]; exact ⟨rfl, by omega⟩
      · rw [updA_ne _ _ e] at hb'
        have hi' : i < S.nd := by have : i < S.nd + 1 := hi; omega
        have := sp.dp i hi' b hb'
        rw [if_pos this.2]; exact ⟨this.1, by omega⟩
    · show (if b < w.heap.size then lab b else if b < w1'.heap.size then 5 + 4 * S.nd else 6 + 4 * S.nd) = 6 + 4 * i ∧ _
      have hb' : (updA S.ds S.nd p i).R b := hb
      by_cases e : i = S.nd
      · rw [e, updA_at] at hb'
        have g1 := fR b hb'
        have g2 := hlR b hb'
        rw [if_neg (by omega), if_neg (by omega), e]; exact ⟨rfl, by omega⟩
      · rw [updA_ne _ _ e] at hb'
        have hi' : i < S.nd := by have : i < S.nd + 1 := hi; omega
        have := sp.dr i hi' b hb'
        rw [if_pos this.2]; exact ⟨this.1, by omega⟩
    · show (if b < w.heap.size then lab b else _) = 7 + 4 * i ∧ _
      have := sp.mp i hi b hb; rw [if_pos this.2]; exact ⟨this.1, by omega⟩
    · show (if b < w.heap.size then lab b else _) = 8 + 4 * i ∧ _
      have := sp.mr i hi b hb; rw [if_pos this.2]; exact ⟨this.1, by omega⟩
  · rintro b (rfl | y | y | ⟨i, hi, y⟩ | y)
    · exact .inl (.inl rfl)
    · exact .inl (.inr (.inl y))
    · exact .inl (.inr (.inr (.inl y)))
    · have y' : (updA S.ds S.nd p i).P b ∨ (updA S.ds S.nd p i).R b := y
      by_cases e : i = S.nd
      · rw [e, updA_at] at y'
        exact .inr (y'.elim (fun z => fP b z) (fun z => by have := fR b z; omega))
      · rw [updA_ne _ _ e] at y'
        exact .inl (.inr (.inr (.inr (.inl ⟨i, by have : i < S.nd + 1 := hi; omega, y'⟩))))
    · exact .inl (.inr (.inr (.inr (.inr y))))
  · exact (((x1.mono (fun _ _ h => .inr (.inl h))).next hw1 (fun _ _ e => .inl (.inl e))).next x2 (fun _ _ h => .inr (.inr h))).next hw3 (fun _ _ e => .inl (.inl e))
/-- A machine more: it lies in x, the document's in y, the rows have grown. -/
theorem push_fin {w w' : World} {X : Nat} {S : St8} {mv mr : Value} {M : Int → Int → World → Prop} {a b most : Int} {c : Nat} (hP : P8 w X S mv mr M a b most c) (hMo : MtOk mv M) (hnm : S.nm < 40) {x y n1 n2 n3 : Nat} {goal : Nat} (hg : 1 ≤ goal ∧ goal ≤ 4) {u k v : Int} {vm vn : Value}
    (hx : Ex (fun i => i = X ∨ S.rm.ownBlock = some i ∨ S.rn.ownBlock = some i) w w') (hn : w.heap.size ≤ x ∧ x < n1 ∧ n1 ≤ y ∧ y < n2 ∧ n2 ≤ n3 ∧ n3 ≤ w'.heap.size)
    (hmc : Mc w' x (.pointer none) S.cur.d ⟨goal, u, k, v, 0, 0, Tu.zero, 0, false⟩) (hrm : Rm w' y (.pointer none) S.cur.d2 ⟨goal, u, k, v, 0, 0, Tu.zero, 0, false⟩ ⟨0, false, false, false, Tu.zero⟩)
    (hvm : w'.ownsRow 0 86 1 vm (S.nm + 1) (ptrs (fun j => (S.ms j).x) S.nm ++ [.pointer (some ⟨x, 0, none⟩)])) (hvn : w'.ownsRow 0 104 1 vn (S.nm + 1) (ptrs (fun j => (S.ms j).y) S.nm ++ [.pointer (some ⟨y, 0, none⟩)]))
    (hbm : ∀ i, vm.ownBlock = some i → S.rm.ownBlock = some i ∨ (n2 ≤ i ∧ i < n3)) (hbn : ∀ i, vn.ownBlock = some i → S.rn.ownBlock = some i ∨ (n3 ≤ i ∧ i < w'.heap.size))
    (hX : Blk w' X 4 (x8F (S.push ⟨S.nd - 1, x, .pointer none, y, .pointer none, ⟨goal, u, k, v, 0, 0, Tu.zero, 0, false⟩, ⟨0, false, false, false, Tu.zero⟩⟩ vm vn))) :
    ∃ S' a' b', D8 w X S mv mr M most (c + 1) S' a' b' w' := by
  obtain ⟨lab, sp⟩ := hP.sep
  have hsz := hx.size
  have hnd := hP.nd
  have old : ∀ i, i < w.heap.size → lab i ≠ 0 → lab i ≠ 3 → lab i ≠ 4 → w'.heap[i]? = w.heap[i]? := fun i hi h0 h1 h2 => hx.block i hi (fun h => by
    rcases h with h | h | h
    · exact h0 (by rw [h]; exact sp.x.1)
    · exact h1 (sp.rm i h).1
    · exact h2 (sp.rn i h).1)
  have ab := hP.ab
  refine ⟨S.push ⟨S.nd - 1, x, .pointer none, y, .pointer none, ⟨goal, u, k, v, 0, 0, Tu.zero, 0, false⟩, ⟨0, false, false, false, Tu.zero⟩⟩ vm vn, a, b, ⟨hX, ?_, ?_, hP.nd, hnm, ?_, ?_, ?_, ?_, ⟨by omega, by push_cast; omega, by omega, by push_cast; omega⟩, ?_⟩, ?_, ?_⟩
  · have e : ptrs (fun j => (updA S.ms S.nm (⟨S.nd - 1, x, .pointer none, y, .pointer none, ⟨goal, u, k, v, 0, 0, Tu.zero, 0, false⟩, ⟨0, false, false, false, Tu.zero⟩⟩ : Mp) j).x) (S.nm + 1) = ptrs (fun j => (S.ms j).x) S.nm ++ [.pointer (some ⟨x, 0, none⟩)] := by
      rw [ptrs, updA_at, ptrs_congr (g := fun j => (S.ms j).x) S.nm (fun i hi => by rw [updA_ne _ _ (by omega)])]
    show w'.ownsRow 0 _ 1 vm (S.nm + 1) (ptrs (fun j => (updA S.ms S.nm _ j).x) (S.nm + 1))
    rw [e]
    exact hvm
  · have e : ptrs (fun j => (updA S.ms S.nm (⟨S.nd - 1, x, .pointer none, y, .pointer none, ⟨goal, u, k, v, 0, 0, Tu.zero, 0, false⟩, ⟨0, false, false, false, Tu.zero⟩⟩ : Mp) j).y) (S.nm + 1) = ptrs (fun j => (S.ms j).y) S.nm ++ [.pointer (some ⟨y, 0, none⟩)] := by
      rw [ptrs, updA_at, ptrs_congr (g := fun j => (S.ms j).y) S.nm (fun i hi => by rw [updA_ne _ _ (by omega)])]
    show w'.ownsRow 0 _ 1 vn (S.nm + 1) (ptrs (fun j => (updA S.ms S.nm _ j).y) (S.nm + 1))
    rw [e]
    exact hvn
  · intro i hi
    exact ((hP.dk i hi).le (Nat.le_succ c)).same (fun b hb => by have := sp.dp i hi b hb; exact old b this.2 (by omega) (by omega) (by omega)) (fun b hb => by have := sp.dr i hi b hb; exact old b this.2 (by omega) (by omega) (by omega))
  · intro j hj
    show (updA S.ms S.nm _ j).k < S.nd ∧ Mk w' w' (S.ds (updA S.ms S.nm _ j).k) (updA S.ms S.nm _ j) (c + 1)
    by_cases e : j = S.nm
    · rw [e, updA_at]
      exact ⟨by show S.nd - 1 < S.nd; omega, hmc, hrm, hg, Nat.zero_le _, Nat.zero_le _, .inl ⟨rfl, rfl, rfl⟩, .inl ⟨rfl, rfl, rfl, rfl⟩⟩
    · rw [updA_ne _ _ e]
      have hj' : j < S.nm := by have : j < S.nm + 1 := hj; omega
      have h := hP.mh j hj'
      exact ⟨h.1, (h.2.le (Nat.le_succ c)).same (fun b hb => by have := sp.mp j hj' b hb; exact old b this.2 (by omega) (by omega) (by omega)) (fun b hb => by have := sp.mr j hj' b hb; exact old b this.2 (by omega) (by omega) (by omega))⟩
  · exact hMo.same _ _ _ _ hP.m fun i hi => by have := sp.m i hi; exact old i this.2 (by omega) (by omega) (by omega)
  · exact hP.ms.same fun i hi => by have := sp.r i hi; exact old i this.2 (by omega) (by omega) (by omega)
  · refine ⟨fun i => if i < w.heap.size then lab i else if i < n1 then 7 + 4 * S.nm else if i < n2 then 8 + 4 * S.nm else if i < n3 then 3 else 4, ⟨?_, by have := sp.x.2; omega⟩, fun b hb => ?_, fun b hb => ?_, fun b hb => ?_, fun b hb => ?_, fun i hi b hb => ?_, fun i hi b hb => ?_, fun i hi b hb => ?_, fun i hi b hb => ?_⟩
    · show (if X < w.heap.size then lab X else _) = 0
      rw [if_pos sp.x.2]; exact sp.x.1
    · show (if b < w.heap.size then lab b else _) = 1 ∧ _
      have := sp.m b hb; rw [if_pos this.2]; exact ⟨this.1, by omega⟩
    · show (if b < w.heap.size then lab b else _) = 2 ∧ _
      have := sp.r b hb; rw [if_pos this.2]; exact ⟨this.1, by omega⟩
    · show (if b < w.heap.size then lab b else if b < n1 then 7 + 4 * S.nm else if b < n2 then 8 + 4 * S.nm else if b < n3 then 3 else 4) = 3 ∧ _
      rcases hbm b hb with z | z
      · have := sp.rm b z; rw [if_pos this.2]; exact ⟨this.1, by omega⟩
      · rw [if_neg (by omega), if_neg (by omega), if_neg (by omega), if_pos z.2]; exact ⟨rfl, by omega⟩
    · show (if b < w.heap.size then lab b else if b < n1 then 7 + 4 * S.nm else if b < n2 then 8 + 4 * S.nm else if b < n3 then 3 else 4) = 4 ∧ _
      rcases hbn b hb with z | z
      · have := sp.rn b z; rw [if_pos this.2]; exact ⟨this.1, by omega⟩
      · rw [if_neg (by omega), if_neg (by omega), if_neg (by omega), if_neg (by omega)]; exact ⟨rfl, z.2⟩
    · show (if b < w.heap.size then lab b else _) = 5 + 4 * i ∧ _
      have := sp.dp i hi b hb; rw [if_pos this.2]; exact ⟨this.1, by omega⟩
    · show (if b < w.heap.size then lab b else _) = 6 + 4 * i ∧ _
      have := sp.dr i hi b hb; rw [if_pos this.2]; exact ⟨this.1, by omega⟩
    · show (if b < w.heap.size then lab b else if b < n1 then 7 + 4 * S.nm else if b < n2 then 8 + 4 * S.nm else if b < n3 then 3 else 4) = 7 + 4 * i ∧ _
      have hb' : (updA S.ms S.nm (⟨S.nd - 1, x, .pointer none, y, .pointer none, ⟨goal, u, k, v, 0, 0, Tu.zero, 0, false⟩, ⟨0, false, false, false, Tu.zero⟩⟩ : Mp) i).P b := hb
      by_cases e : i = S.nm
      · rw [e, updA_at] at hb'
        rcases hb' with z | z
        · have z' : b = x := z
          rw [if_neg (by omega), if_pos (by omega), e]; exact ⟨rfl, by omega⟩
        · cases z
      · rw [updA_ne _ _ e] at hb'
        have := sp.mp i (by have : i < S.nm + 1 := hi; omega) b hb'
        rw [if_pos this.2]; exact ⟨this.1, by omega⟩
    · show (if b < w.heap.size then lab b else if b < n1 then 7 + 4 * S.nm else if b < n2 then 8 + 4 * S.nm else if b < n3 then 3 else 4) = 8 + 4 * i ∧ _
      have hb' : (updA S.ms S.nm (⟨S.nd - 1, x, .pointer none, y, .pointer none, ⟨goal, u, k, v, 0, 0, Tu.zero, 0, false⟩, ⟨0, false, false, false, Tu.zero⟩⟩ : Mp) i).R b := hb
      by_cases e : i = S.nm
      · rw [e, updA_at] at hb'
        rcases hb' with z | z
        · have z' : b = y := z
          rw [if_neg (by omega), if_neg (by omega), if_pos (by omega), e]; exact ⟨rfl, by omega⟩
        · cases z
      · rw [updA_ne _ _ e] at hb'
        have := sp.mr i (by have : i < S.nm + 1 := hi; omega) b hb'
        rw [if_pos this.2]; exact ⟨this.1, by omega⟩
  · rintro b (rfl | z | z | z | ⟨i, hi, z⟩)
    · exact .inl (.inl rfl)
    · exact (hbm b z).elim (fun z => .inl (.inr (.inl z))) (fun z => .inr (by omega))
    · exact (hbn b z).elim (fun z => .inl (.inr (.inr (.inl z)))) (fun z => .inr (by omega))
    · exact .inl (.inr (.inr (.inr (.inl z))))
    · have z' : (updA S.ms S.nm (⟨S.nd - 1, x, .pointer none, y, .pointer none, ⟨goal, u, k, v, 0, 0, Tu.zero, 0, false⟩, ⟨0, false, false, false, Tu.zero⟩⟩ : Mp) i).P b ∨ (updA S.ms S.nm (⟨S.nd - 1, x, .pointer none, y, .pointer none, ⟨goal, u, k, v, 0, 0, Tu.zero, 0, false⟩, ⟨0, false, false, false, Tu.zero⟩⟩ : Mp) i).R b := z
      by_cases e : i = S.nm
      · rw [e, updA_at] at z'
        rcases z' with (z | z) | (z | z)
        · have z' : b = x := z
          exact .inr (by omega)
        · cases z
        · have z' : b = y := z
          exact .inr (by omega)
        · cases z
      · rw [updA_ne _ _ e] at z'
        exact .inl (.inr (.inr (.inr (.inr ⟨i, by have : i < S.nm + 1 := hi; omega, z'⟩))))
  · exact hx.mono fun i _ h => by
      rcases h with h | h | h
      · exact .inl (.inl h)
      · exact .inl (.inr (.inl h))
      · exact .inl (.inr (.inr (.inl h)))
end Go.Proofs.YtfhpkoakalihkaaGreat
namespace Go.Proofs.YtfhpkoakalihkaaGreat
open Go.RowKit Go.WideShapes

set_option maxRecDepth 100000 in
set_option maxHeartbeats 1600000 in
theorem ncount_nil (k n : Int) (w : World) :
    Calls Tryz.prog 139 #[.pointer none, .int .i64 k, .int .i64 n] w fun e w' => e = .returned (.tuple #[]) ∧ w' = w := by
  go_enter_defers Tryz.func139, Tryz.ntmps139
  go_wp2_with fail
  exact ⟨_, results_none rfl _ _ _, rfl, rfl⟩
theorem ntable_nil (w : World) : Calls Tryz.prog 110 #[.pointer none] w fun e w' => e = .returned (.tuple #[]) ∧ w' = w := by
  go_enter Tryz.func110, Tryz.ntmps110
  go_wp2_with fail
  refine (ncount_nil 0 1 w).mono ?_
  rintro e w' ⟨rfl, rfl⟩
  go_wp2
  go_end0
  exact ⟨rfl, rfl⟩
/-- A meter that is none. -/
def noM : Int → Int → World → Prop := fun _ _ _ => True
theorem mtOk_nil : MtOk (.pointer none) noM :=
  ⟨fun a b w _ _ _ => (ntable_nil w).mono fun e w' ⟨h1, h2⟩ => ⟨h1, trivial, by rw [h2]; exact Ex.refl _ _⟩, fun _ _ _ _ _ _ => trivial, fun a b w k _ h => by cases h⟩
theorem nvisit_nil (n : Int) (w : World) : Calls Tryz.prog 156 #[.pointer none, .int .i64 n] w fun e w' => e = .returned (.tuple #[]) ∧ w' = w := by
  go_enter Tryz.func156, Tryz.ntmps156
  go_wp2_with fail
  refine (ncount_nil 1 n w).mono ?_
  rintro e w' ⟨rfl, rfl⟩
  go_wp2
  go_end0
  exact ⟨rfl, rfl⟩
theorem mvOk_nil : MvOk (.pointer none) noM := fun a b w _ _ _ => (nvisit_nil 1 w).mono fun e w' ⟨h1, h2⟩ => ⟨h1, trivial, by rw [h2]; exact Ex.refl _ _⟩
theorem noneB {k : Nat} (h : mB (.pointer none) k) : False := by cases h
theorem someB {s k : Nat} (h : mB (.pointer (some ⟨s, 0, none⟩)) k) : k = s := by cases h; rfl

/-- A dictionary of one's own: all of it lies behind B, and apart from the blocks K. -/
structure Pd (K : Nat → Prop) (B : Nat) (w0 w : World) (d g gi r h : Nat) (ev : Value) (t : Tb) (most : Int) (v : Nat) : Prop where
  dc : Dc w d g gi r h ev t (.pointer none) most v
  fr : ∀ k, cX d g gi r h ev k → B ≤ k
  bl : Below B w0 w
  kp : ∀ k, K k → k < w.heap.size ∧ ¬ cX d g gi r h ev k
/-- The blocks K are as they were. -/
def Kp (K : Nat → Prop) (w w' : World) : Prop := ∀ k, K k → w'.heap[k]? = w.heap[k]?
/-- What a step may meet. -/
structure Fit (t : Tb) (v : Nat) : Prop where
  made : t.made ≤ 1000000
  turn : t.turn ≤ 1000000
  births : t.births < 100000
  ver : v ≤ 1000000000
theorem Pd.size {K : Nat → Prop} {B : Nat} {w0 w : World} {d g gi r h : Nat} {ev : Value} {t : Tb} {most : Int} {v : Nat} (p : Pd K B w0 w d g gi r h ev t most v) : B ≤ w.heap.size := Nat.le_trans (p.fr d (.inl rfl)) (Nat.le_of_lt (p.dc.lt d (.inl rfl)))
theorem Pd.below {K : Nat → Prop} {B : Nat} {w0 w w' : World} {d g gi r h : Nat} {ev : Value} {t : Tb} {most : Int} {v : Nat} (p : Pd K B w0 w d g gi r h ev t most v) (hb : Below w.heap.size w w') : Pd K B w0 w' d g gi r h ev t most v := ⟨p.dc.below hb, p.fr, p.bl.trans (hb.mono p.size), fun k hk => ⟨Nat.lt_of_lt_of_le (p.kp k hk).1 hb.size, (p.kp k hk).2⟩⟩
theorem Pd.kept {K : Nat → Prop} {B : Nat} {w0 w w' : World} {d g gi r h : Nat} {ev : Value} {t : Tb} {most : Int} {v : Nat} (p : Pd K B w0 w d g gi r h ev t most v) (hb : Below w.heap.size w w') : Kp K w w' := fun k hk => hb.block k (p.kp k hk).1
/-- Other blocks are to be kept. -/
theorem Pd.withK {K K' : Nat → Prop} {B : Nat} {w0 w : World} {d g gi r h : Nat} {ev : Value} {t : Tb} {most : Int} {v : Nat} (p : Pd K B w0 w d g gi r h ev t most v) (hk : ∀ k, K' k → k < w.heap.size ∧ ¬ cX d g gi r h ev k) : Pd K' B w0 w d g gi r h ev t most v := ⟨p.dc, p.fr, p.bl, hk⟩
theorem Pd.noK {K : Nat → Prop} {B : Nat} {w0 w : World} {d g gi r h : Nat} {ev : Value} {t : Tb} {most : Int} {v : Nat} (p : Pd K B w0 w d g gi r h ev t most v) : Pd (fun _ => False) B w0 w d g gi r h ev t most v := p.withK (fun _ h => h.elim)
/-- Blocks of K were written. -/
theorem Pd.touch {K : Nat → Prop} {B : Nat} {w0 w w' : World} {d g gi r h : Nat} {ev : Value} {t : Tb} {most : Int} {v : Nat} (p : Pd K B w0 w d g gi r h ev t most v) (hx : Ex K w w') (hK : ∀ k, K k → B ≤ k) : Pd K B w0 w' d g gi r h ev t most v :=
  ⟨p.dc.same fun k hk => hx.block k (p.dc.lt k hk) (fun y => (p.kp k y).2 hk), p.fr, p.bl.trans (hx.below hK p.size), fun k hk => ⟨Nat.lt_of_lt_of_le (p.kp k hk).1 hx.size, (p.kp k hk).2⟩⟩
theorem Pd.cm {K : Nat → Prop} {B : Nat} {w0 w w' : World} {d g gi r h : Nat} {ev : Value} {t t' : Tb} {most : Int} {v v' : Nat} {x : Nat} {sv : Value} {a b : Int} {gi' r' h' : Nat} {ev' : Value} (p : Pd K B w0 w d g gi r h ev t most v) (hx : B ≤ x) (hs : ∀ k, mB sv k → B ≤ k) (c : Cm w d g gi r h ev (.pointer none) noM x sv a b most v' t' w' gi' r' h' ev') : Pd K B w0 w' d g gi' r' h' ev' t' most v' := by
  have hB := p.size
  refine ⟨c.dc, fun k hk => ?_, p.bl.trans (c.ex.below (fun k hk => ?_) hB), fun k hk => ⟨Nat.lt_of_lt_of_le (p.kp k hk).1 c.ex.size, fun hc => ?_⟩⟩
  · rcases hk with hk | hk
    · exact p.fr k (.inl hk)
    · rcases c.fx k hk with y | y
      · exact p.fr k (.inr y)
      · omega
  · rcases hk with y | y | y | y
    · exact p.fr k y
    · exact (noneB y).elim
    · omega
    · exact hs k y
  · obtain ⟨h1, h2⟩ := p.kp k hk
    rcases hc with hc | hc
    · exact h2 (.inl hc)
    · rcases c.fx k hc with y | y
      · exact h2 (.inr y)
      · omega
theorem Pd.cmk {K : Nat → Prop} {B : Nat} {w0 w w' : World} {d g gi r h : Nat} {ev : Value} {t t' : Tb} {most : Int} {v v' : Nat} {x : Nat} {sv : Value} {a b : Int} {gi' r' h' : Nat} {ev' : Value} (p : Pd K B w0 w d g gi r h ev t most v) (kx : ¬ K x) (ks : ∀ k, mB sv k → ¬ K k) (c : Cm w d g gi r h ev (.pointer none) noM x sv a b most v' t' w' gi' r' h' ev') : Kp K w w' := fun k hk => c.ex.block k (p.kp k hk).1 (fun y => by
  rcases y with y | y | y | y
  · exact (p.kp k hk).2 y
  · exact noneB y
  · exact kx (y ▸ hk)
  · exact ks k y hk)
/-- A machine that has asked about n: it waits, or was told. -/
structure Aw (K : Nat → Prop) (B : Nat) (w0 w : World) (d x : Nat) (t : Tb) (most : Int) (v : Nat) (m : Ma) (n : Nat) (g gi r h : Nat) (ev : Value) (s j f : Nat) : Prop where
  pd : Pd K B w0 w d g gi r h ev t most v
  hx : B ≤ x
  hs : B ≤ s
  mx : Mx w d g gi r h ev (.pointer none) x (.pointer (some ⟨s, 0, none⟩)) m
  sw : Sw w d g gi r h ev t (.pointer none) x s m.hash j (n : Int) f
  of : Of t.es m.hash n
  asked : m.asked = (n : Int)
  ver : m.ver = v
  scans : m.scans = 1
  kx : ¬ K x
  ks : ¬ K s
theorem Aw.withK {K K' : Nat → Prop} {B : Nat} {w0 w : World} {d x : Nat} {t : Tb} {most : Int} {v : Nat} {m : Ma} {n g gi r h : Nat} {ev : Value} {s j f : Nat} (p : Aw K B w0 w d x t most v m n g gi r h ev s j f) (hk : ∀ k, K' k → k < w.heap.size ∧ ¬ cX d g gi r h ev k) (kx : ¬ K' x) (ks : ¬ K' s) : Aw K' B w0 w d x t most v m n g gi r h ev s j f := ⟨p.pd.withK hk, p.hx, p.hs, p.mx, p.sw, p.of, p.asked, p.ver, p.scans, kx, ks⟩
theorem Aw.below {K : Nat → Prop} {B : Nat} {w0 w w' : World} {d x : Nat} {t : Tb} {most : Int} {v : Nat} {m : Ma} {n g gi r h : Nat} {ev : Value} {s j f : Nat} (p : Aw K B w0 w d x t most v m n g gi r h ev s j f) (hb : Below w.heap.size w w') : Aw K B w0 w' d x t most v m n g gi r h ev s j f := ⟨p.pd.below hb, p.hx, p.hs, p.mx.below hb, p.sw.of (hb.block s (p.sw.sk.lt (by omega))), p.of, p.asked, p.ver, p.scans, p.kx, p.ks⟩
theorem Aw.touch {K : Nat → Prop} {B : Nat} {w0 w w' : World} {d x : Nat} {t : Tb} {most : Int} {v : Nat} {m : Ma} {n g gi r h : Nat} {ev : Value} {s j f : Nat} (p : Aw K B w0 w d x t most v m n g gi r h ev s j f) (hx : Ex K w w') (hK : ∀ k, K k → B ≤ k) : Aw K B w0 w' d x t most v m n g gi r h ev s j f := ⟨p.pd.touch hx hK, p.hx, p.hs, ⟨p.mx.mc.same (hx.block x (p.mx.mc.lt (by omega)) p.kx), p.mx.ne, p.mx.nm⟩, p.sw.of (hx.block s (p.sw.sk.lt (by omega)) p.ks), p.of, p.asked, p.ver, p.scans, p.kx, p.ks⟩
/-- A machine that has ended, in its first scan. -/
structure En1 (w : World) (d x : Nat) (m : Ma) (L : Nat) (s j : Nat) : Prop where
  mc : Mc w x (.pointer (some ⟨s, 0, none⟩)) d m
  vi : Vi w s j
  le : j ≤ 2 ^ L + 13
  scans : m.scans = 1
/-- What a step of a machine tells in its first scan, its key being none of the keys of its hash. -/
def LwR (K : Nat → Prop) (B : Nat) (w0 : World) (d x : Nat) (t : Tb) (most : Int) (v : Nat) (m1 : Ma) (told : Int) (u : Tu) (w' : World) : Prop :=
  (∃ n : Nat, Of t.es m1.hash n ∧ told < (n : Int) ∧ (∀ k, Of t.es m1.hash k → told < (k : Int) → n ≤ k) ∧ u = ⟨1, (nth t.es n).key, false, 0, 0⟩ ∧ ∃ g gi r h ev s j f, Aw K B w0 w' d x t most v { m1 with asked := (n : Int), u := u } n g gi r h ev s j f) ∨
  ((∀ n, Of t.es m1.hash n → (n : Int) ≤ told) ∧ (∃ s j, En1 w' d x { m1 with u := u } t.L s j ∧ ¬ K s ∧ ¬ K x) ∧ MsR m1 t most u (fun _ dv t' => ∃ g gi' r' h' ev', Pd K B w0 w' d g gi' r' h' ev' t' most (v + dv)))
theorem aw_tell {K : Nat → Prop} {B : Nat} {w0 w : World} {d x : Nat} {t : Tb} {most : Int} {v : Nat} {m : Ma} {n g gi r h : Nat} {ev : Value} {s j f : Nat} (p : Aw K B w0 w d x t most v m n g gi r h ev s j f) (hk : m.u.kind = 1) (c : Bool) :
    Calls Tryz.prog 20 #[.pointer (some ⟨x, 0, none⟩), .bool c] w fun e w' => e = .returned (.int .i64 0) ∧ Aw K B w0 w' d x t most v { m with u := Tu.zero, same := c } n g gi r h ev s j f ∧ Kp K w w' := by
  refine (tell_yes p.mx.mc hk c).mono ?_
  rintro e w' ⟨rfl, hm, hx⟩
  have hb : Below B w w' := hx.below (fun k hk => by have := p.hx; omega) p.pd.size
  refine ⟨rfl, ⟨⟨p.pd.dc.same fun k hk => hx.block k (p.pd.dc.lt k hk) (fun e => p.mx.ne (e ▸ hk)), p.pd.fr, p.pd.bl.trans hb, fun k hk => ⟨Nat.lt_of_lt_of_le (p.pd.kp k hk).1 hx.size, (p.pd.kp k hk).2⟩⟩, p.hx, p.hs, ⟨hm, p.mx.ne, p.mx.nm⟩, p.sw.of (hx.block s (p.sw.sk.lt (by omega)) p.sw.nx), p.of, p.asked, p.ver, p.scans, p.kx, p.ks⟩, fun k hk => hx.block k (p.pd.kp k hk).1 (fun e => p.kx (e ▸ hk))⟩
theorem SoR.lw {K : Nat → Prop} {B : Nat} {w0 w : World} {d g gi r h : Nat} {ev : Value} {t : Tb} {x : Nat} {sv : Value} {most : Int} {v : Nat} {m1 : Ma} {s i : Nat} {told : Int} {f : Nat} {u : Tu} {w' : World} (q : SoR w d g gi r h ev t (.pointer none) noM x sv 0 0 most v m1 s i told f u w') (p : Pd K B w0 w d g gi r h ev t most v) (hx : B ≤ x) (hsv : ∀ k, mB sv k → B ≤ k) (hs : B ≤ s) (hf : f < 2 ^ t.L + 13) (hne : ¬ cX d g gi r h ev x) (kx : ¬ K x) (ks : ¬ K s) (ksv : ∀ k, mB sv k → ¬ K k) (h1 : m1.scans = 1) (hv : m1.ver = v) (hk : ∀ n, Of t.es m1.hash n → (nth t.es n).key ≠ m1.key) : LwR K B w0 d x t most v m1 told u w' ∧ Kp K w w' := by
  obtain ⟨j, _, h2, (⟨n, h3, h4, h5, (⟨h6, h7, h8, h9, h10⟩ | ⟨h6, h7, h8, h9, h10⟩)⟩ | ⟨h3, h4, h5, h6, h7⟩)⟩ := q
  · exact absurd h6 (hk n h3)
  · exact ⟨.inl ⟨n, h3, h4, h5.1, h7, g, gi, r, h, ev, s, _, f, p.cm hx hsv h8, hx, hs, ⟨h9, hne, fun y => noneB y⟩, h10, h3, rfl, hv, h1, kx, ks⟩, p.cmk kx ksv h8⟩
  · refine ⟨.inr ⟨h4, ⟨s, _, ⟨h6, h7, by omega, h1⟩, ks, kx⟩, h5.mono (fun _ _ _ ⟨gi', r', h', ev', c, _⟩ => ⟨g, gi', r', h', ev', p.cm hx hsv c⟩)⟩, ?_⟩
    obtain ⟨_, _, _, _, _, _, _, c, _⟩ := h5.any
    exact p.cmk kx ksv c
theorem aw_step {K : Nat → Prop} {B : Nat} {w0 w : World} {d x : Nat} {t : Tb} {most : Int} {v : Nat} {m : Ma} {n g gi r h : Nat} {ev : Value} {s j f : Nat} (p : Aw K B w0 w d x t most v m n g gi r h ev s j f) (hk : m.u.kind = 0) (hsame : m.same = false) (ft : Fit t v) (hkey : ∀ n, Of t.es m.hash n → (nth t.es n).key ≠ m.key) :
    Calls Tryz.prog 19 #[.pointer (some ⟨x, 0, none⟩)] w fun e w' => ∃ u, e = .returned (tuV u) ∧ LwR K B w0 d x t most v m (n : Int) u w' ∧ Kp K w w' := by
  have hsv : ∀ k, mB (.pointer (some ⟨s, 0, none⟩)) k → k < w.heap.size := fun k hk => by rw [someB hk]; exact p.sw.sk.lt (by omega)
  refine (step_next p.pd.dc mtOk_nil mvOk_nil (a := 0) (b := 0) trivial ft.made (by decide) (by decide) ft.turn ft.births ft.ver p.mx hk hsv (by rw [p.scans]; decide) (by rw [p.ver]; exact ft.ver) (.inr ⟨by rw [p.scans]; decide, p.ver, hsame, s, j, _, f, rfl, p.sw⟩)).mono ?_
  rintro e w' ⟨u, s', i, told, f', sc, rfl, hS, q⟩
  refine ⟨u, rfl, ?_⟩
  have hsc := p.scans
  have hve := p.ver
  rcases hS with ⟨y, _⟩ | ⟨_, y2, y3, y4⟩
  · rcases y with y | y
    · omega
    · exact absurd hve y
  · have e1 : s' = s := by cases y2; rfl
    subst e1
    have e2 : told = (n : Int) := by
      have h1 := p.sw.sk.c 6 (by omega)
      have h2 := y4.sk.c 6 (by omega)
      rw [h1] at h2
      injection h2 with h2
      injection h2 with _ h2
      exact h2.symm
    subst e2
    have em : ({ m with ver := v, scans := sc } : Ma) = m := by cases m; simp at hve y3; simp [hve, y3]
    rw [em] at q
    exact q.lw p.pd p.hx (fun k hk => by rw [someB hk]; exact p.hs) p.hs y4.lt p.mx.ne p.kx p.ks (fun k hk => by rw [someB hk]; exact p.ks) hsc hve hkey
theorem fresh_step {K : Nat → Prop} {B : Nat} {w0 w : World} {d x g gi r h : Nat} {ev : Value} {t : Tb} {most : Int} {v : Nat} (p : Pd K B w0 w d g gi r h ev t most v) (hx : B ≤ x) {goal : Nat} {uh key value : Int} (hm : Mc w x (.pointer none) d ⟨goal, uh, key, value, 0, 0, Tu.zero, 0, false⟩) (hne : ¬ cX d g gi r h ev x) (kx : ¬ K x) (ft : Fit t v) (hkey : ∀ n, Of t.es uh n → (nth t.es n).key ≠ key) :
    Calls Tryz.prog 19 #[.pointer (some ⟨x, 0, none⟩)] w fun e w' => ∃ u, e = .returned (tuV u) ∧ LwR K B w0 d x t most v ⟨goal, uh, key, value, v, 1, Tu.zero, 0, false⟩ (-1) u w' ∧ Kp K w w' := by
  refine (step_next p.dc mtOk_nil mvOk_nil (a := 0) (b := 0) trivial ft.made (by decide) (by decide) ft.turn ft.births ft.ver ⟨hm, hne, fun y => noneB y⟩ rfl (fun k y => (noneB y).elim) (Nat.zero_le _) (Nat.zero_le _) (.inl (.inl rfl))).mono ?_
  rintro e w' ⟨u, s', i, told, f', sc, rfl, hS, q⟩
  refine ⟨u, rfl, ?_⟩
  rcases hS with ⟨_, rfl, rfl, rfl, y, hf, _⟩ | ⟨⟨y, _⟩, _⟩
  · exact SoR.lw q p hx (fun k y => (noneB y).elim) (Nat.le_trans p.size y) hf hne kx (fun hk => by have := (p.kp s' hk).1; omega) (fun k y => (noneB y).elim) rfl rfl hkey
  · exact absurd rfl y
end Go.Proofs.YtfhpkoakalihkaaGreat
namespace Go.Proofs.YtfhpkoakalihkaaGreat
open Go.RowKit Go.WideShapes

theorem aw_same {K : Nat → Prop} {B : Nat} {w0 w : World} {d x : Nat} {t : Tb} {most : Int} {v : Nat} {m : Ma} {n g gi r h : Nat} {ev : Value} {s j f : Nat} (p : Aw K B w0 w d x t most v m n g gi r h ev s j f) (hk : m.u.kind = 0) (hsame : m.same = true) (ft : Fit t v) (hg : m.goal = 1) :
    Calls Tryz.prog 19 #[.pointer (some ⟨x, 0, none⟩)] w fun e w' => e = .returned (tuV ⟨2, 0, true, (nth t.es n).value, (n : Int)⟩) ∧ En1 w' d x { m with u := ⟨2, 0, true, (nth t.es n).value, (n : Int)⟩ } t.L s j ∧ Pd K B w0 w' d g gi r h ev t most v ∧ Kp K w w' := by
  have hsv : ∀ k, mB (.pointer (some ⟨s, 0, none⟩)) k → k < w.heap.size := fun k hk => by rw [someB hk]; exact p.sw.sk.lt (by omega)
  refine (step_told p.pd.dc mtOk_nil (a := 0) (b := 0) trivial ft.turn ft.ver p.mx hk hsv (by rw [p.scans]; decide) p.ver hsame n p.asked p.of.1 p.of.2.1).mono ?_
  rintro e w' ⟨rfl, hc, hm, hks⟩
  have eT : hitT m t n = t := by rw [hitT, hg]; rfl
  have eN : hitN m.goal v = v := by rw [hitN, hg]; rfl
  rw [eT, eN] at hc
  have hle := p.sw.le
  have hlt := p.sw.lt
  exact ⟨rfl, ⟨hm, Vi.same ⟨_, _, _, _, _, _, p.sw.sk⟩ (hks s (p.sw.sk.lt (by omega)) p.sw.nc p.sw.nm p.sw.nx), by omega, p.scans⟩, p.pd.cm p.hx (fun k hk => by rw [someB hk]; exact p.hs) hc, p.pd.cmk p.kx (fun k hk => by rw [someB hk]; exact p.ks) hc⟩
/-- Two turns that are the same. -/
def tuE (x y : Tu) : Bool := x.kind == y.kind && (x.key == y.key && (x.found == y.found && (x.value == y.value && x.entry == y.entry)))
theorem tu_eq (x y : Tu) (w : World) : (binOp .eql 81 (tuV x) (tuV y)).run Tryz.prog w = .ok (.bool (tuE x y)) w := by
  unfold tuV tuE
  have hu : Tryz.prog.underlying 81 = some (.struct (Tryz.prog.fieldsOf 81)) := by kernel_rfl
  have hp : Tryz.prog.stoodInHeld 81 = false := by kernel_rfl
  rw [run_eql_struct, run_equalIn_agg w 9999 _ _ _ hu hp]
  have hF : (Tryz.prog.fieldsOf 81).toList = [⟨"Kind", 3, 0, false, "", "", 0⟩, ⟨"Key", 3, 1, false, "", "", 8⟩, ⟨"Found", 4, 2, false, "", "", 16⟩, ⟨"Value", 3, 3, false, "", "", 24⟩, ⟨"Entry", 3, 4, false, "", "", 32⟩] := by kernel_rfl
  rw [hF]
  by_cases h0 : x.kind = y.kind
  · by_cases h1 : x.key = y.key
    · by_cases h2 : x.found = y.found
      · by_cases h3 : x.value = y.value
        · by_cases h4 : x.entry = y.entry
          · simp [Op.eqFields, go_sem, h0, h1, h2, h3, h4]
          · simp [Op.eqFields, go_sem, h0, h1, h2, h3, h4]
        · simp [Op.eqFields, go_sem, h0, h1, h2, h3]
      · simp [Op.eqFields, go_sem, h0, h1, h2]
    · simp [Op.eqFields, go_sem, h0, h1]
  · simp [Op.eqFields, go_sem, h0]
theorem tu_ne (x y : Tu) (w : World) : (binOp .neq 81 (tuV x) (tuV y)).run Tryz.prog w = .ok (.bool (!tuE x y)) w := by
  have h := tu_eq x y w
  unfold tuV at h ⊢
  rw [run_eql_struct] at h
  rw [run_neq_struct]
  cases hr : (Op.equalIn 10000 81 (.agg #[.int .i64 x.kind, .int .i64 x.key, .bool x.found, .int .i64 x.value, .int .i64 x.entry]) (.agg #[.int .i64 y.kind, .int .i64 y.key, .bool y.found, .int .i64 y.value, .int .i64 y.entry])).run Tryz.prog w with
  | ok b w' =>
    rw [hr] at h
    simp [Result.andThen] at h ⊢
    obtain ⟨rfl, rfl⟩ := h
    exact ⟨rfl, rfl⟩
  | halt a w' => rw [hr] at h; simp [Result.andThen] at h
theorem neMa (x : Nat) (w : World) : (binOp .neq 86 (.pointer (some ⟨x, 0, none⟩)) (.pointer none)).run Tryz.prog w = .ok (.bool true) w := by kernel_rfl
/-- The machine of a dictionary of one's own that was begun. -/
theorem lw_begin {K : Nat → Prop} {B : Nat} {w0 w : World} {d g gi r h : Nat} {ev : Value} {t : Tb} {most : Int} {v : Nat} (p : Pd K B w0 w d g gi r h ev t most v) (goal : Nat) (hg1 : 1 ≤ goal) (hg4 : goal ≤ 4) (u k x : Int) :
    Calls Tryz.prog 18 #[.pointer (some ⟨d, 0, none⟩), .int .i64 (goal : Int), .int .i64 u, .int .i64 k, .int .i64 x] w fun e w' => ∃ b, e = .returned (.pointer (some ⟨b, 0, none⟩)) ∧ B ≤ b ∧ ¬ K b ∧ ¬ cX d g gi r h ev b ∧ Mc w' b (.pointer none) d ⟨goal, u, k, x, 0, 0, Tu.zero, 0, false⟩ ∧ Pd K B w0 w' d g gi r h ev t most v ∧ Kp K w w' := by
  refine (begin_yes d goal hg1 hg4 u k x w).mono ?_
  rintro e w' ⟨b, rfl, hb, hm, hbl⟩
  exact ⟨b, rfl, Nat.le_trans p.size hb, fun hk => by have := (p.kp b hk).1; omega, fun hk => by have := p.dc.lt b hk; omega, hm, p.below hbl, p.kept hbl⟩
theorem lw_new (w : World) (most : Int) (h0 : 0 ≤ most) (h1 : most ≤ 65536) :
    Calls Tryz.prog 14 #[.int .i64 most, .pointer none] w fun e w' => ∃ d g gi r h, e = .returned (.tuple #[.pointer (some ⟨d, 0, none⟩), .int .i64 0]) ∧ Pd (fun _ => False) w.heap.size w w' d g gi r h (.slice none 0 0) Tb.new most 0 := by
  refine (pnew_any (w := w) (pm := none) (a := 0) (b := 0) mtOk_nil trivial (by decide) most h0 h1).mono ?_
  rintro e w' ⟨d, g, gi, r, h, rfl, hf, hD, _, hX⟩
  exact ⟨d, g, gi, r, h, rfl, hD, hf, hX.below (fun k hk => (noneB hk).elim) (Nat.le_refl _), fun _ h => h.elim⟩
theorem new_none (u : Int) (n : Nat) : ¬ Of Tb.new.es u n := fun h => absurd h.1 (Nat.not_lt_zero _)
theorem awake_add : (Tb.new.add 7 1 10).es = [⟨true, 7, 1, 10, 0⟩] := by
  have h1 : Tb.new.add 7 1 10 = Tb.new.push 7 1 10 := by unfold Tb.add; rw [if_pos (by show 0 < rm (2 ^ 3); decide)]
  rw [h1]
  rfl
set_option maxRecDepth 100000 in
set_option maxHeartbeats 4000000 in
theorem awake8_any (w : World) : Calls Tryz.prog 7 #[] w fun e w' => e = .returned (.bool true) ∧ Below w.heap.size w w' := by
  have CN := lw_new w 3 (by decide) (by decide)
  go_enter Tryz.func7, Tryz.ntmps7
  go_wp2_with fail
  refine CN.mono ?_
  rintro e w1 ⟨d, g, gi, r, h, rfl, hP⟩
  clear CN
  have CB := lw_begin hP 2 (by decide) (by decide) 7 1 10
  have h1 := eqD d
  clear hP
  go_wp2_with fail
  refine CB.mono ?_
  rintro e w2 ⟨x, rfl, hx, hkx, hnx, hm, hP, _⟩
  clear CB h1
  have h1 := eqMa x
  have CS := fresh_step hP hx hm hnx hkx ⟨by decide, by decide, by decide, by decide⟩ (fun n hn => (new_none _ n hn).elim)
  clear hP hm
  go_wp2_with fail
  refine CS.mono ?_
  rintro e w3 ⟨u, rfl, hL, _⟩
  clear CS
  obtain ⟨hu, g2, gi2, r2, h2, ev2, hP⟩ : u = ⟨2, 0, false, 10, 0⟩ ∧ ∃ g gi' r' h' ev', Pd (fun _ => False) w.heap.size w w3 d g gi' r' h' ev' (Tb.new.add 7 1 10) 3 1 := by
    rcases hL with ⟨n, hO, _⟩ | ⟨_, _, hM⟩
    · exact (new_none _ n hO).elim
    · rcases hM with ⟨_, _, q, y⟩ | ⟨_, q, _⟩ | ⟨q, _⟩
      · refine ⟨?_, y⟩
        rw [q, awake_add]
        rfl
      · exact absurd (by decide) q
      · exact absurd (.inl rfl) q
  subst hu
  clear hL
  have e1 := tu_ne ⟨2, 0, false, 10, 0⟩ ⟨2, 0, false, 10, 0⟩
  have e1' : (!tuE ⟨2, 0, false, 10, 0⟩ ⟨2, 0, false, 10, 0⟩) = false := by decide
  rw [e1'] at e1
  unfold tuV at e1 ⊢
  have CB := lw_begin hP 1 (by decide) (by decide) 7 2 0
  clear hP
  go_wp2_with fail
  refine CB.mono ?_
  rintro e w4 ⟨y, rfl, hy, hky, hny, hm, hP, _⟩
  clear CB h1 e1 e1'
  have h1 := neMa y
  have r0 := Tb.new.add_rest 7 1 10
  have hes := awake_add
  have hft : Fit (Tb.new.add 7 1 10) 1 := ⟨Nat.le_trans r0.2.1 (by decide), by rw [r0.2.2.2]; decide, by rw [r0.1]; decide, by decide⟩
  generalize Tb.new.add 7 1 10 = T at *
  have CS := fresh_step hP hy hm hny hky hft (fun n hn => by
    have hl := hn.1
    rw [hes] at hl ⊢
    have : n = 0 := by simp at hl; exact hl
    subst this
    decide)
  have HT := Lib.hid hes
  have HF := Lib.hid hft
  clear hP hm r0 hes hft
  go_wp2_with fail
  refine CS.mono ?_
  rintro e w5 ⟨u, rfl, hL, _⟩
  clear CS
  obtain ⟨hu, g3, gi3, r3, h3, ev3, s3, j3, f3, hA⟩ : u = ⟨1, 1, false, 0, 0⟩ ∧ ∃ g gi r h ev s j f, Aw (fun _ => False) w.heap.size w w5 d y T 3 1 ⟨1, 7, 2, 0, 1, 1, ⟨1, 1, false, 0, 0⟩, 0, false⟩ 0 g gi r h ev s j f := by
    have h0 : Of T.es 7 0 := by rw [HT.out]; exact ⟨by decide, rfl, rfl⟩
    rcases hL with ⟨n, hO, _, hmin, q, hh⟩ | ⟨q, _⟩
    · have : n = 0 := Nat.le_zero.1 (hmin 0 h0 (by decide))
      subst this
      have hk : (nth T.es 0).key = 1 := by rw [HT.out]; rfl
      rw [hk] at q
      subst q
      exact ⟨rfl, hh⟩
    · exact absurd (q 0 h0) (by decide)
  subst hu
  clear hL
  have e1 := tu_eq ⟨1, 1, false, 0, 0⟩ ⟨1, 1, false, 0, 0⟩
  have e1' : tuE ⟨1, 1, false, 0, 0⟩ ⟨1, 1, false, 0, 0⟩ = true := by decide
  rw [e1'] at e1
  unfold tuV at e1 ⊢
  have CT := aw_tell hA rfl true
  clear hA
  go_wp2_with fail
  refine CT.mono ?_
  rintro e w6 ⟨rfl, hA, _⟩
  clear CT e1 e1'
  have CS := aw_same hA rfl rfl HF.out rfl
  have hk : (nth T.es 0).value = 10 := by rw [HT.out]; rfl
  rw [hk] at CS
  clear hA hk
  go_wp2_with fail
  refine CS.mono ?_
  rintro e w7 ⟨rfl, _, hP, _⟩
  clear CS
  have e1 := tu_eq ⟨2, 0, true, 10, 0⟩ ⟨2, 0, true, 10, 0⟩
  have e1' : tuE ⟨2, 0, true, 10, 0⟩ ⟨2, 0, true, 10, 0⟩ = true := by decide
  rw [e1'] at e1
  unfold tuV at e1 ⊢
  have HB := Lib.hid hP.bl
  clear hP
  simp only [Int.cast_ofNat_Int]
  go_wp2_with fail
  go_ret
  exact ⟨rfl, HB.out⟩
end Go.Proofs.YtfhpkoakalihkaaGreat
