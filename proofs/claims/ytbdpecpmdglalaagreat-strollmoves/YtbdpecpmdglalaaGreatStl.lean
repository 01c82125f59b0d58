/-
  What a walk still has to tell, as a list of keys. No program.
  A dictionary of numbered keys of which one is taken out and put in again; the keys that a walk is to tell. No program.
-/
import Derived.Test.YtbdpecpmdglalaaGreatBas
import Derived.Test.YtbdpecpmdglalaaGreatLdMath
import Derived.Test.YtbdpecpmdglalaaGreatPoFl
namespace Go.Proofs.YtbdpecpmdglalaaGreat

/-- b comes behind a on the way. -/
def rl (back : Bool) (a b : Int) : Bool := if back = true then decide (b < a) else decide (a < b)
def sq1 (back : Bool) (ws : List En) : List En := if back = true then ws.reverse else ws
/-- The keys that are still to be told. -/
def kk1 (back : Bool) (told : Int) (ws : List En) : List Int := ((sq1 back ws).filter (fun e => rl back told e.birth)).map En.key
theorem rl_trans {back : Bool} {a b c : Int} (h1 : rl back a b = true) (h2 : rl back b c = true) : rl back a c = true := by
  unfold rl at *
  cases back with
  | true => simp at *; omega
  | false => simp at *; omega
theorem rl_irr {back : Bool} {a : Int} : rl back a a = false := by
  unfold rl
  cases back <;> simp
theorem rl_asym {back : Bool} {a b : Int} (h1 : rl back a b = true) : rl back b a = false := by
  unfold rl at *
  cases back with
  | true => simp at *; omega
  | false => simp at *; omega
theorem sq1_pair {back : Bool} {ws : List En} {n : Nat} (h : Born ws n) : (sq1 back ws).Pairwise (fun a b => rl back a.birth b.birth = true) := by
  have hp : ws.Pairwise (fun a b => a.birth < b.birth) := by
    have := h.up
    unfold bths at this
    rwa [List.pairwise_map] at this
  unfold sq1 rl
  cases back with
  | true =>
    simp only [if_true]
    rw [List.pairwise_reverse]
    exact hp.imp fun {a b} hab => by simp; omega
  | false =>
    simp only [Bool.false_eq_true, if_false]
    exact hp.imp fun {a b} hab => by simp; omega
theorem sq1_mem {back : Bool} {ws : List En} {e : En} : e ∈ sq1 back ws ↔ e ∈ ws := by
  unfold sq1
  cases back <;> simp
/-- The next one, and what is left behind it. -/
theorem kk1_next {back : Bool} {ws : List En} {n : Nat} (h : Born ws n) {told : Int} {k : Int} {rest : List Int} (hk : kk1 back told ws = k :: rest) :
    ∃ e, e ∈ ws ∧ e.key = k ∧ rl back told e.birth = true ∧ (∀ x ∈ ws, rl back told x.birth = true → x = e ∨ rl back e.birth x.birth = true) ∧ kk1 back e.birth ws = rest := by
  unfold kk1 at hk ⊢
  have hp := sq1_pair (back := back) h
  obtain ⟨e, tl, hF, rfl, hr⟩ : ∃ e tl, (sq1 back ws).filter (fun e => rl back told e.birth) = e :: tl ∧ e.key = k ∧ tl.map En.key = rest := by
    cases hF : (sq1 back ws).filter (fun e => rl back told e.birth) with
    | nil => rw [hF] at hk; simp at hk
    | cons e tl =>
      rw [hF] at hk
      simp at hk
      exact ⟨e, tl, rfl, hk.1, hk.2⟩
  have hpf : (e :: tl).Pairwise (fun a b => rl back a.birth b.birth = true) := by rw [← hF]; exact hp.filter _
  have hall := (List.pairwise_cons.1 hpf).1
  have he : e ∈ sq1 back ws ∧ rl back told e.birth = true := by
    have : e ∈ (sq1 back ws).filter (fun e => rl back told e.birth) := by rw [hF]; exact List.mem_cons_self ..
    simpa using this
  refine ⟨e, sq1_mem.1 he.1, rfl, he.2, fun x hx hrx => ?_, ?_⟩
  · have : x ∈ (sq1 back ws).filter (fun e => rl back told e.birth) := by simp; exact ⟨sq1_mem.2 hx, hrx⟩
    rw [hF] at this
    rcases List.mem_cons.1 this with y | y
    · exact .inl y
    · exact .inr (hall x y)
  · rw [← hr]
    have h1 : (sq1 back ws).filter (fun x => rl back e.birth x.birth) = ((sq1 back ws).filter (fun x => rl back told x.birth)).filter (fun x => rl back e.birth x.birth) := by
      rw [List.filter_filter]
      refine List.filter_congr fun x _ => ?_
      cases hq : rl back e.birth x.birth with
      | false => simp
      | true => simp [rl_trans he.2 hq]
    rw [h1, hF, List.filter_cons, rl_irr]
    simp only [Bool.false_eq_true, if_false]
    rw [List.filter_eq_self.2 fun x hx => hall x hx]
/-- In a table. -/
def Nz1 (back : Bool) (es : List En) (told : Int) (n : Nat) : Prop := if back = true then Nb es told n else Nf es told n
def Nz0 (back : Bool) (es : List En) (told : Int) : Prop := if back = true then Fb es told else Ff es told
theorem kk1_nx {back : Bool} {t : Tb} {ws : List En} (hb : t.Born) (hw : liveL t.es = ws) {told : Int} {k : Int} {rest : List Int} (hk : kk1 back told ws = k :: rest) :
    ∃ n, n < t.es.length ∧ Nz1 back t.es told n ∧ (nth t.es n).key = k ∧ kk1 back (nth t.es n).birth ws = rest := by
  subst hw
  obtain ⟨e, he, hke, hre, hall, hrest⟩ := kk1_next (Go.Proofs.YtbdpecpmdglalaaGreat.Born.lives hb) hk
  have hel := liveL_live t.es e he
  obtain ⟨n, hn, hx⟩ := nth_index (mem_liveL he)
  subst hx
  refine ⟨n, hn, ?_, hke, hrest⟩
  have hmem : ∀ j, j < t.es.length → (nth t.es j).live = true → nth t.es j ∈ liveL t.es := fun j hj hl => by
    rw [liveL_cut hj hl]
    simp
  unfold Nz1
  cases back with
  | true =>
    show Nb t.es told n
    have h1 : (nth t.es n).birth < told := by simpa [rl] using hre
    refine ⟨hn, hel, h1, fun j hj hjl hl => ?_⟩
    have hlt := Go.Proofs.YtbdpecpmdglalaaGreat.Born.lt hb hj hjl
    rcases (by omega : (nth t.es j).birth < told ∨ told ≤ (nth t.es j).birth) with y | y
    · have := hall _ (hmem j hjl hl) (by simpa [rl] using y)
      rcases this with z | z
      · rw [z] at hlt; omega
      · have : (nth t.es j).birth < (nth t.es n).birth := by simpa [rl] using z
        omega
    · exact y
  | false =>
    show Nf t.es told n
    have h1 : told < (nth t.es n).birth := by simpa [rl] using hre
    refine ⟨hn, hel, h1, fun j hj hl => ?_⟩
    have hlt := Go.Proofs.YtbdpecpmdglalaaGreat.Born.lt hb hj hn
    rcases (by omega : told < (nth t.es j).birth ∨ (nth t.es j).birth ≤ told) with y | y
    · have := hall _ (hmem j (by omega) hl) (by simpa [rl] using y)
      rcases this with z | z
      · rw [z] at hlt; omega
      · have : (nth t.es n).birth < (nth t.es j).birth := by simpa [rl] using z
        omega
    · exact y
theorem kk1_end {back : Bool} {t : Tb} {ws : List En} (hw : liveL t.es = ws) {told : Int} (hk : kk1 back told ws = []) : Nz0 back t.es told := by
  subst hw
  unfold kk1 at hk
  have hF : (sq1 back (liveL t.es)).filter (fun e => rl back told e.birth) = [] := List.map_eq_nil_iff.1 hk
  have hno : ∀ j, j < t.es.length → (nth t.es j).live = true → rl back told (nth t.es j).birth = false := fun j hj hl => by
    have hm : nth t.es j ∈ sq1 back (liveL t.es) := sq1_mem.2 (by rw [liveL_cut hj hl]; simp)
    have := List.filter_eq_nil_iff.1 hF _ hm
    simpa using this
  unfold Nz0
  cases back with
  | true =>
    show Fb t.es told
    intro j hj hl
    have := hno j hj hl
    simp [rl] at this
    exact this
  | false =>
    show Ff t.es told
    intro j hj hl
    have := hno j hj hl
    simp [rl] at this
    exact this
end Go.Proofs.YtbdpecpmdglalaaGreat
namespace Go.Proofs.YtbdpecpmdglalaaGreat

def e0 (l : List Int) (k : Nat) : En := ⟨true, l[k]?.getD 0, (k : Int), 5 * (k : Int), (k : Int)⟩
def W0 (l : List Int) (N : Nat) : List En := (List.range N).map (e0 l)
def noKey (key : Nat) (e : En) : Bool := decide (e.key ≠ (key : Int))
/-- Behind m moves. -/
def wsM (l : List Int) (N key : Nat) : Nat → List En
  | 0 => W0 l N
  | m + 1 => (W0 l N).filter (noKey key) ++ [⟨true, l[key]?.getD 0, (key : Int), 7, ((N + m : Nat) : Int)⟩]
theorem W0_len (l : List Int) (N : Nat) : (W0 l N).length = N := by simp [W0]
theorem wsM_no (l : List Int) (N key m : Nat) : (wsM l N key m).filter (noKey key) = (W0 l N).filter (noKey key) := by
  cases m with
  | zero => rfl
  | succ m =>
    show ((W0 l N).filter (noKey key) ++ [_]).filter (noKey key) = _
    rw [List.filter_append, List.filter_filter]
    have h1 : (W0 l N).filter (fun a => noKey key a && noKey key a) = (W0 l N).filter (noKey key) := List.filter_congr fun x _ => by simp
    rw [h1]
    have h2 : List.filter (noKey key) [(⟨true, l[key]?.getD 0, (key : Int), 7, ((N + m : Nat) : Int)⟩ : En)] = [] := by simp [noKey]
    rw [h2, List.append_nil]
/-- There is just one pair of the key. -/
theorem W0_split (l : List Int) {N key : Nat} (hk : key < N) : W0 l N = (W0 l N).take key ++ e0 l key :: (W0 l N).drop (key + 1) := by
  have hl : key < (W0 l N).length := by rw [W0_len]; exact hk
  have h1 := (List.take_append_drop key (W0 l N)).symm
  rw [List.drop_eq_getElem_cons hl] at h1
  have h2 : (W0 l N)[key] = e0 l key := by simp [W0]
  rw [h2] at h1
  exact h1
theorem wsM_has (l : List Int) {N key : Nat} (hk : key < N) (m : Nat) : ∃ e A C, wsM l N key m = A ++ e :: C ∧ e.live = true ∧ e.hash = l[key]?.getD 0 ∧ e.key = (key : Int) ∧ (∀ x ∈ A ++ C, x.key ≠ (key : Int)) := by
  cases m with
  | zero =>
    refine ⟨e0 l key, (W0 l N).take key, (W0 l N).drop (key + 1), W0_split l hk, rfl, rfl, rfl, fun x hx => ?_⟩
    rcases List.mem_append.1 hx with h | h
    · obtain ⟨j, hj, hx⟩ := List.getElem_of_mem h
      rw [← hx]
      have hj' : j < key := by rw [List.length_take] at hj; omega
      simp [W0, e0]
      omega
    · obtain ⟨j, hj, hx⟩ := List.getElem_of_mem h
      rw [← hx]
      simp [W0, e0]
      omega
  | succ m =>
    refine ⟨_, (W0 l N).filter (noKey key), [], rfl, rfl, rfl, rfl, fun x hx => ?_⟩
    rw [List.append_nil] at hx
    have := (List.mem_filter.1 hx).2
    simpa [noKey] using this
theorem Fl.w0 {l : List Int} {N : Nat} {t : Tb} (h : Fl l (fun i => 5 * (i : Int)) N t) : liveL t.es = W0 l N := by
  rw [liveL_all h.dead]
  apply List.ext_getElem (by rw [h.len, W0_len])
  intro j h1 h2
  have := h.at' j (by rw [← h.len]; exact h1)
  unfold nth at this
  rw [List.getD_eq_getElem?_getD, List.getElem?_eq_getElem h1, Option.getD_some] at this
  rw [this]
  simp [W0, e0]
/-- The way's own numbering. -/
def kx (back : Bool) (N j : Nat) : Nat := if back = true then N - 1 - j else j
theorem rev_range {α : Type} (N : Nat) (f : Nat → α) : ((List.range N).map f).reverse = (List.range N).map (fun j => f (N - 1 - j)) := by
  apply List.ext_getElem (by simp)
  intro j h1 h2
  simp at h2
  simp
theorem sq1_W0 (back : Bool) (l : List Int) (N key : Nat) : sq1 back ((W0 l N).filter (noKey key)) = ((List.range N).map (fun j => e0 l (kx back N j))).filter (noKey key) := by
  unfold sq1 kx
  cases back with
  | true =>
    simp only [if_true]
    rw [← List.filter_reverse]
    unfold W0
    rw [rev_range]
  | false =>
    simp only [Bool.false_eq_true, if_false]
    rfl
/-- What the law's first loop lays down. -/
def wl0 (back : Bool) (N at' key i : Nat) : List Int := ((List.range i).filter (fun j => decide (j < at' ∨ kx back N j ≠ key))).map (fun j => (kx back N j : Int))
theorem wl0_yes {back : Bool} {N at' key i : Nat} (h : i < at' ∨ kx back N i ≠ key) : wl0 back N at' key (i + 1) = wl0 back N at' key i ++ [(kx back N i : Int)] := by
  unfold wl0
  rw [List.range_succ, List.filter_append, List.map_append]
  simp [h]
theorem wl0_no {back : Bool} {N at' key i : Nat} (h : ¬ (i < at' ∨ kx back N i ≠ key)) : wl0 back N at' key (i + 1) = wl0 back N at' key i := by
  unfold wl0
  rw [List.range_succ, List.filter_append, List.map_append]
  simp [h]
/-- What is told behind the move. -/
def wr1 (back : Bool) (N at' key : Nat) : List Int := (((List.range (N - at')).map (fun j => at' + j)).filter (fun j => decide (kx back N j ≠ key))).map (fun j => (kx back N j : Int))
theorem wl0_split {back : Bool} {N at' key : Nat} (h : at' ≤ N) : wl0 back N at' key N = (List.range at').map (fun j => (kx back N j : Int)) ++ wr1 back N at' key := by
  unfold wl0 wr1
  have h1 : List.range N = List.range at' ++ (List.range (N - at')).map (fun j => at' + j) := by
    conv => lhs; rw [show N = at' + (N - at') by omega]
    rw [List.range_add]
  rw [h1, List.filter_append, List.map_append]
  congr 1
  · rw [List.filter_eq_self.2 fun j hj => by simp at hj; simp [hj]]
  · congr 1
    refine List.filter_congr fun j hj => ?_
    simp at hj
    obtain ⟨a, _, rfl⟩ := hj
    simp
    intro hc
    omega
/-- All that the law wants. -/
def wl (back : Bool) (N at' key : Nat) : List Int := if back = true then (if at' = 0 then (key : Int) :: wl0 back N at' key N else wl0 back N at' key N) else wl0 back N at' key N ++ [(key : Int)]
theorem wl_lo {back : Bool} {N at' key i : Nat} (hi : i < at') (ha : at' ≤ N) : (wl back N at' key)[i]?.getD 0 = (kx back N i : Int) := by
  unfold wl
  rw [wl0_split ha]
  cases back with
  | true =>
    simp only [if_true]
    rw [if_neg (by omega), List.getElem?_append_left (by simp; omega)]
    simp [hi]
  | false =>
    simp only [Bool.false_eq_true, if_false]
    rw [List.append_assoc, List.getElem?_append_left (by simp; omega)]
    simp [hi]
/-- The birth told last ahead of the n-th Next of a walk that has not been disturbed. -/
def tdAt (back : Bool) (N n : Nat) : Int := if back = true then (if n = 0 then 9223372036854775807 else (N : Int) - (n : Int)) else (n : Int) - 1
theorem wr1_eq {back : Bool} (l : List Int) {N at' key : Nat} (h : at' ≤ N) (hN : N ≤ 1000) : (((List.range N).map (fun j => e0 l (kx back N j))).filter (noKey key)).filter (fun e => rl back (tdAt back N at') e.birth) = ((((List.range (N - at')).map (fun j => at' + j)).filter (fun j => decide (kx back N j ≠ key))).map (fun j => e0 l (kx back N j))) := by
  have h1 : List.range N = List.range at' ++ (List.range (N - at')).map (fun j => at' + j) := by
    conv => lhs; rw [show N = at' + (N - at') by omega]
    rw [List.range_add]
  rw [List.filter_filter, h1, List.map_append, List.filter_append]
  have hrl : ∀ j, j < N → (rl back (tdAt back N at') ((kx back N j : Nat) : Int) = decide (at' ≤ j)) := fun j hj => by
    unfold rl tdAt kx
    cases back with
    | true =>
      simp only [if_true]
      by_cases h0 : at' = 0
      · rw [if_pos h0]
        have : ((N - 1 - j : Nat) : Int) < 9223372036854775807 := by omega
        simp [this, h0]
      · rw [if_neg h0]
        by_cases hc : at' ≤ j
        · have : ((N - 1 - j : Nat) : Int) < (N : Int) - (at' : Int) := by omega
          simp [this, hc]
        · have : ¬ ((N - 1 - j : Nat) : Int) < (N : Int) - (at' : Int) := by omega
          simp [this, hc]
    | false =>
      simp only [Bool.false_eq_true, if_false]
      by_cases hc : at' ≤ j
      · have : (at' : Int) - 1 < (j : Int) := by omega
        simp [this, hc]
      · have : ¬ (at' : Int) - 1 < (j : Int) := by omega
        simp [this, hc]
  have hA : ((List.range at').map (fun j => e0 l (kx back N j))).filter (fun a => rl back (tdAt back N at') a.birth && noKey key a) = [] := by
    rw [List.filter_eq_nil_iff]
    intro x hx
    obtain ⟨j, hj, rfl⟩ := List.mem_map.1 hx
    have hj' : j < at' := by simpa using hj
    have := hrl j (by omega)
    have hb : (e0 l (kx back N j)).birth = ((kx back N j : Nat) : Int) := rfl
    rw [hb, this]
    simp
    intro hc
    omega
  rw [hA, List.nil_append, List.filter_map]
  congr 1
  refine List.filter_congr fun j hj => ?_
  obtain ⟨a, ha, rfl⟩ := List.mem_map.1 hj
  have ha' : a < N - at' := by simpa using ha
  have := hrl (at' + a) (by omega)
  have hb : (e0 l (kx back N (at' + a))).birth = ((kx back N (at' + a) : Nat) : Int) := rfl
  show (rl back (tdAt back N at') (e0 l (kx back N (at' + a))).birth && noKey key (e0 l (kx back N (at' + a)))) = _
  rw [hb, this]
  have hk : (e0 l (kx back N (at' + a))).key = ((kx back N (at' + a) : Nat) : Int) := rfl
  unfold noKey
  rw [hk]
  simp
  omega
theorem wl_drop {back : Bool} (l : List Int) {N at' key m : Nat} (h : at' ≤ N) (hN : N ≤ 1000) (hm : m ≤ 1000) : (wl back N at' key).drop at' = kk1 back (tdAt back N at') (wsM l N key (m + 1)) := by
  have hw := wr1_eq (back := back) l (key := key) h hN
  have hkey : ((((List.range (N - at')).map (fun j => at' + j)).filter (fun j => decide (kx back N j ≠ key))).map (fun j => e0 l (kx back N j))).map En.key = wr1 back N at' key := by
    unfold wr1
    rw [List.map_map]
    rfl
  unfold kk1 wsM
  cases back with
  | true =>
    have hsq : sq1 true ((W0 l N).filter (noKey key) ++ [⟨true, l[key]?.getD 0, (key : Int), 7, ((N + m : Nat) : Int)⟩]) = ⟨true, l[key]?.getD 0, (key : Int), 7, ((N + m : Nat) : Int)⟩ :: ((List.range N).map (fun j => e0 l (kx true N j))).filter (noKey key) := by
      rw [← sq1_W0]
      simp [sq1]
    rw [hsq, List.filter_cons, hw]
    unfold wl
    simp only [if_true]
    rw [wl0_split h]
    by_cases h0 : at' = 0
    · subst h0
      have hr : rl true (tdAt true N 0) (((N + m : Nat)) : Int) = true := by
        unfold rl tdAt
        simp
        omega
      simp only [hr, if_true]
      rw [List.map_cons, hkey]
      simp
    · have hr : rl true (tdAt true N at') (((N + m : Nat)) : Int) = false := by
        unfold rl tdAt
        simp [h0]
        omega
      simp only [hr, Bool.false_eq_true, if_false]
      rw [hkey, if_neg h0]
      exact List.drop_left' (by simp)
  | false =>
    have hsq : sq1 false ((W0 l N).filter (noKey key) ++ [⟨true, l[key]?.getD 0, (key : Int), 7, ((N + m : Nat) : Int)⟩]) = ((List.range N).map (fun j => e0 l (kx false N j))).filter (noKey key) ++ [⟨true, l[key]?.getD 0, (key : Int), 7, ((N + m : Nat) : Int)⟩] := by
      rw [← sq1_W0]
      simp [sq1]
    have hr : rl false (tdAt false N at') (((N + m : Nat)) : Int) = true := by
      unfold rl tdAt
      simp
      omega
    rw [hsq, List.filter_append, hw, List.filter_cons]
    simp only [hr, if_true, List.filter_nil]
    rw [List.map_append, hkey]
    unfold wl
    simp only [Bool.false_eq_true, if_false]
    rw [wl0_split h, List.append_assoc]
    exact List.drop_left' (by simp)
end Go.Proofs.YtbdpecpmdglalaaGreat
