/-
  Births rise along the entries, dead ones too. No program.
  Dictionaries and machines, and the document's, in memory: the state of the law's scripts.
  A call on both sides, of which each has turned its own.
  A machine's Step, on both sides.
-/
import Derived.Test.YtejfmajbggmghaaGreatTbModel
import Derived.Test.YtejfmajbggmghaaGreatGl
import Derived.Test.YtejfmajbggmghaaGreatGm
namespace Go.Proofs.YtejfmajbggmghaaGreat

def bths (es : List En) : List Int := es.map En.birth
structure Born (es : List En) (n : Nat) : Prop where
  up : (bths es).Pairwise (fun a b => a < b)
  lo : ∀ b ∈ bths es, 0 ≤ b ∧ b < (n : Int)
theorem liveL_sub (es : List En) : (liveL es).Sublist es := by
  induction es with
  | nil => exact List.Sublist.slnil
  | cons e r ih =>
    rw [liveL]
    by_cases h : e.live = true
    · rw [if_pos h]; exact ih.cons_cons e
    · rw [if_neg h]; exact ih.cons e
theorem bl_set {es : List En} {n : Nat} {e : En} (h : e.birth = (nth es n).birth) : bths (es.set n e) = bths es := by
  unfold bths
  rw [List.map_set]
  apply List.ext_getElem (by simp)
  intro i h1 h2
  rw [List.getElem_set]
  by_cases x : n = i
  · subst x
    rw [if_pos rfl, h]
    have h3 : n < es.length := by simpa using h2
    unfold nth
    rw [List.getD_eq_getElem?_getD, List.getElem?_eq_getElem h3, Option.getD_some, List.getElem_map]
  · rw [if_neg x]
theorem Born.nil (n : Nat) : Born [] n := ⟨List.Pairwise.nil, fun b h => by simp [bths] at h⟩
theorem Born.lives {es : List En} {n : Nat} (h : Born es n) : Born (liveL es) n := by
  have hs : (bths (liveL es)).Sublist (bths es) := (liveL_sub es).map _
  exact ⟨h.up.sublist hs, fun b hb => h.lo b (hs.subset hb)⟩
theorem Born.snoc {es : List En} {n : Nat} (h : Born es n) (e : En) (he : e.birth = (n : Int)) : Born (es ++ [e]) (n + 1) := by
  have hb : bths (es ++ [e]) = bths es ++ [(n : Int)] := by unfold bths; rw [List.map_append, List.map_cons, List.map_nil, he]
  refine ⟨?_, fun b hbm => ?_⟩
  · rw [hb, List.pairwise_append]
    refine ⟨h.up, List.pairwise_singleton _ _, fun a ha b hbm => ?_⟩
    rw [List.mem_singleton.1 hbm]
    exact (h.lo a ha).2
  · rw [hb] at hbm
    rcases List.mem_append.1 hbm with x | x
    · have := h.lo b x; omega
    · rw [List.mem_singleton.1 x]; omega
theorem Born.set {es : List En} {n m : Nat} (h : Born es m) {e : En} (he : e.birth = (nth es n).birth) : Born (es.set n e) m := by
  have hb := bl_set he
  exact ⟨by rw [hb]; exact h.up, fun b hbm => h.lo b (by rw [hb] at hbm; exact hbm)⟩
/-- Of a table. -/
def Tb.Born (t : Tb) : Prop := Go.Proofs.YtejfmajbggmghaaGreat.Born t.es t.births
theorem Tb.Born.add {t : Tb} (h : t.Born) (u k v : Int) : (t.add u k v).Born := by
  unfold Tb.add
  by_cases e : t.es.length < rm (2 ^ t.L)
  · rw [if_pos e]
    exact Go.Proofs.YtejfmajbggmghaaGreat.Born.snoc h _ rfl
  · rw [if_neg e]
    exact Go.Proofs.YtejfmajbggmghaaGreat.Born.snoc (Go.Proofs.YtejfmajbggmghaaGreat.Born.lives h) _ rfl
theorem Tb.Born.kill {t : Tb} (h : t.Born) (n : Nat) : (t.kill n).Born := Go.Proofs.YtejfmajbggmghaaGreat.Born.set h rfl
theorem Tb.Born.putv {t : Tb} (h : t.Born) (n : Nat) (v : Int) : (t.putv n v).Born := Go.Proofs.YtejfmajbggmghaaGreat.Born.set h rfl
theorem Tb.Born.clear {t : Tb} : t.clear.Born := Go.Proofs.YtejfmajbggmghaaGreat.Born.nil _
theorem Born.lt {es : List En} {n : Nat} (h : Born es n) {i j : Nat} (hij : i < j) (hj : j < es.length) : (nth es i).birth < (nth es j).birth := by
  have h1 := List.pairwise_iff_getElem.1 h.up i j (by simp [bths]; omega) (by simpa [bths] using hj) hij
  have hi : i < es.length := by omega
  unfold nth
  rw [List.getD_eq_getElem?_getD, List.getD_eq_getElem?_getD, List.getElem?_eq_getElem hi, List.getElem?_eq_getElem hj, Option.getD_some, Option.getD_some]
  simpa [bths] using h1
theorem Born.at {es : List En} {n : Nat} (h : Born es n) {i : Nat} (hi : i < es.length) : 0 ≤ (nth es i).birth ∧ (nth es i).birth < (n : Int) :=
  h.lo _ (List.mem_map_of_mem (nth_mem hi))
/-- How many entries were born ahead of b. -/
def Bef (es : List En) (b : Int) (r : Nat) : Prop := r ≤ es.length ∧ (∀ k, k < r → (nth es k).birth < b) ∧ ∀ k, r ≤ k → k < es.length → b ≤ (nth es k).birth
/-- The next entry behind the birth told; the next one ahead of it. -/
def Nf (es : List En) (told : Int) (n : Nat) : Prop := n < es.length ∧ (nth es n).live = true ∧ told < (nth es n).birth ∧ ∀ k, k < n → (nth es k).live = true → (nth es k).birth ≤ told
def Nb (es : List En) (told : Int) (n : Nat) : Prop := n < es.length ∧ (nth es n).live = true ∧ (nth es n).birth < told ∧ ∀ k, n < k → k < es.length → (nth es k).live = true → told ≤ (nth es k).birth
def Ff (es : List En) (told : Int) : Prop := ∀ k, k < es.length → (nth es k).live = true → (nth es k).birth ≤ told
def Fb (es : List En) (told : Int) : Prop := ∀ k, k < es.length → (nth es k).live = true → told ≤ (nth es k).birth
end Go.Proofs.YtejfmajbggmghaaGreat
namespace Go.Proofs.YtejfmajbggmghaaGreat
open Go.RowKit Go.WideShapes

/-- A dictionary, and the document's. -/
structure Dp where
  d : Nat
  g : Nat
  gi : Nat
  r : Nat
  h : Nat
  ev : Value
  d2 : Nat
  g2 : Nat
  q2 : Nat
  ev2 : Value
  t : Tb
  v : Nat
/-- A machine, and the document's: the number of its dictionary, where it lies, its Seekers, what it is. -/
structure Mp where
  k : Nat
  x : Nat
  sv : Value
  y : Nat
  sw : Value
  m : Ma
  z : Rz
def Dp.P (p : Dp) (b : Nat) : Prop := cX p.d p.g p.gi p.r p.h p.ev b
def Dp.R (p : Dp) (b : Nat) : Prop := rX p.d2 p.g2 p.q2 p.ev2 b
def Mp.P (q : Mp) (b : Nat) : Prop := b = q.x ∨ mB q.sv b
def Mp.R (q : Mp) (b : Nat) : Prop := b = q.y ∨ mB q.sw b
/-- How much was done. -/
structure Bp (p : Dp) (c : Nat) : Prop where
  births : p.t.births ≤ c
  made : p.t.made ≤ c + 1
  turn : p.t.turn ≤ c
  ver : p.v ≤ c
theorem Bp.le {p : Dp} {c c' : Nat} (h : Bp p c) (hc : c ≤ c') : Bp p c' := ⟨Nat.le_trans h.births hc, by have := h.made; omega, Nat.le_trans h.turn hc, Nat.le_trans h.ver hc⟩
structure Dk (w w' : World) (p : Dp) (mv mr : Value) (most : Int) (c : Nat) : Prop where
  dc : Dc w p.d p.g p.gi p.r p.h p.ev p.t mv most p.v
  rc : Rdc w' p.d2 p.g2 p.q2 p.ev2 p.t mr most p.v
  bd : Bp p c
  born : p.t.Born
/-- A machine's scan holds still: it was told the same, or its Seeker stands where the document's does. -/
def Live (w w' : World) (p : Dp) (q : Mp) (s s2 : Nat) : Prop :=
  (q.m.u.kind = 0 ∧ q.m.same = true ∧ q.z.same = true ∧ ∃ n : Nat, q.m.asked = (n : Int) ∧ q.z.at_ = (n : Int) ∧ n < p.t.es.length ∧ (nth p.t.es n).live = true) ∨
  (((q.m.u.kind = 0 ∧ q.m.same = false ∧ q.z.same = false) ∨ (q.m.u.kind = 1 ∧ ∃ n : Nat, q.m.asked = (n : Int) ∧ q.z.at_ = (n : Int) ∧ n < p.t.es.length ∧ (nth p.t.es n).live = true)) ∧
    ∃ (i : Nat) (told : Int) (f : Nat), Sk w s (.pointer (some ⟨p.g, 0, none⟩)) p.t.turn q.m.hash p.t.L i told i ∧ S2 w' s2 p.g2 p.t q.m.hash i told ∧ Told p.t.es p.t.L p.t.c q.m.hash i told ∧ IsF p.t.c (uw q.m.hash) p.t.L f ∧ i ≤ f ∧ f < 2 ^ p.t.L + 13 ∧ -1 ≤ told)
structure Mk (w w' : World) (p : Dp) (q : Mp) (c : Nat) : Prop where
  mc : Mc w q.x q.sv p.d q.m
  rm : Rm w' q.y q.sw p.d2 q.m q.z
  goal : 1 ≤ q.m.goal ∧ q.m.goal ≤ 4
  ver : q.m.ver ≤ p.v
  scans : q.m.scans ≤ c
  tn : (q.m.u.kind = 0 ∧ q.z.waits = false ∧ q.z.over = false) ∨ (q.m.u.kind = 1 ∧ q.z.waits = true ∧ q.z.over = false ∧ q.z.u = q.m.u) ∨ (q.m.u.kind ≠ 0 ∧ q.m.u.kind ≠ 1 ∧ q.z.over = true ∧ q.z.u = q.m.u)
  sk : (q.m.scans = 0 ∧ q.sv = .pointer none ∧ q.sw = .pointer none ∧ q.m.u.kind = 0) ∨ ∃ s s2 vis, q.sv = .pointer (some ⟨s, 0, none⟩) ∧ q.sw = .pointer (some ⟨s2, 0, none⟩) ∧ q.m.scans ≠ 0 ∧ Vi w s vis ∧ V2 w' s2 vis ∧ (q.m.ver = p.v → Live w w' p q s s2 ∨ (q.m.u.kind ≠ 0 ∧ q.m.u.kind ≠ 1))
theorem Live.same {w w' v v' : World} {p : Dp} {q : Mp} {s s2 : Nat} (h : Live w w' p q s s2) (e1 : v.heap[s]? = w.heap[s]?) (e2 : v'.heap[s2]? = w'.heap[s2]?) : Live v v' p q s s2 := by
  rcases h with h | ⟨h, i, told, f, h1, h2, h3⟩
  · exact .inl h
  · exact .inr ⟨h, i, told, f, Blk.same h1 e1, Blk.same h2 e2, h3⟩
theorem Mk.same {w w' v v' : World} {p : Dp} {q : Mp} {c : Nat} (h : Mk w w' p q c) (e1 : ∀ b, q.P b → v.heap[b]? = w.heap[b]?) (e2 : ∀ b, q.R b → v'.heap[b]? = w'.heap[b]?) : Mk v v' p q c := by
  refine ⟨Blk.same h.mc (e1 _ (.inl rfl)), Blk.same h.rm (e2 _ (.inl rfl)), h.goal, h.ver, h.scans, h.tn, ?_⟩
  rcases h.sk with y | ⟨s, s2, vis, h1, h2, h3, h4, h5, h6⟩
  · exact .inl y
  · have a1 := e1 s (.inr h1)
    have a2 := e2 s2 (.inr h2)
    exact .inr ⟨s, s2, vis, h1, h2, h3, h4.same a1, h5.same a2, fun hv => (h6 hv).elim (fun y => .inl (y.same a1 a2)) .inr⟩
/-- Its dictionary was turned, or not. -/
theorem Mk.turn {w w' : World} {p p' : Dp} {q : Mp} {c : Nat} (h : Mk w w' p q c) (hd : p'.d = p.d) (hd2 : p'.d2 = p.d2) (hg : p'.g = p.g) (hg2 : p'.g2 = p.g2) (hv : p.v ≤ p'.v) (ht : p'.v = p.v → p'.t = p.t) : Mk w w' p' q c := by
  refine ⟨by rw [hd]; exact h.mc, by rw [hd2]; exact h.rm, h.goal, Nat.le_trans h.ver hv, h.scans, h.tn, ?_⟩
  rcases h.sk with y | ⟨s, s2, vis, h1, h2, h3, h4, h5, h6⟩
  · exact .inl y
  · refine .inr ⟨s, s2, vis, h1, h2, h3, h4, h5, fun hver => ?_⟩
    have e1 : p'.v = p.v := by have := h.ver; omega
    have e2 := ht e1
    rcases h6 (hver.trans e1) with y | y
    · refine .inl ?_
      unfold Live at y ⊢
      rw [hg, hg2, e2]
      exact y
    · exact .inr y
theorem Mk.le {w w' : World} {p : Dp} {q : Mp} {c c' : Nat} (h : Mk w w' p q c) (hc : c ≤ c') : Mk w w' p q c' := ⟨h.mc, h.rm, h.goal, h.ver, Nat.le_trans h.scans hc, h.tn, h.sk⟩
theorem Mk.lt {w w' : World} {p : Dp} {q : Mp} {c : Nat} (h : Mk w w' p q c) : (∀ b, q.P b → b < w.heap.size) ∧ ∀ b, q.R b → b < w'.heap.size := by
  refine ⟨?_, ?_⟩
  · rintro b (rfl | hb)
    · exact Blk.lt h.mc (by omega)
    · rcases h.sk with ⟨_, y, _⟩ | ⟨s, s2, vis, h1, _, _, ⟨_, _, _, _, _, _, h4⟩, _⟩
      · rw [y] at hb; cases hb
      · rw [h1] at hb; cases hb; exact Blk.lt h4 (by omega)
  · rintro b (rfl | hb)
    · exact Blk.lt h.rm (by omega)
    · rcases h.sk with ⟨_, _, y, _⟩ | ⟨s, s2, vis, _, h1, _, _, ⟨_, _, _, _, _, _, _, h4⟩, _⟩
      · rw [y] at hb; cases hb
      · rw [h1] at hb; cases hb; exact h4.lt (by omega)
theorem Dk.le {w w' : World} {p : Dp} {mv mr : Value} {most : Int} {c c' : Nat} (h : Dk w w' p mv mr most c) (hc : c ≤ c') : Dk w w' p mv mr most c' := ⟨h.dc, h.rc, h.bd.le hc, h.born⟩
theorem Dk.same {w w' v v' : World} {p : Dp} {mv mr : Value} {most : Int} {c : Nat} (h : Dk w w' p mv mr most c) (e1 : ∀ b, p.P b → v.heap[b]? = w.heap[b]?) (e2 : ∀ b, p.R b → v'.heap[b]? = w'.heap[b]?) : Dk v v' p mv mr most c := ⟨h.dc.same e1, h.rc.same e2, h.bd, h.born⟩
/-- A walk: where it lies, where the document's does, where the function that it keeps has its dictionary. -/
structure Wk where
  s : Nat
  k : Nat
  b : Nat
/-- The law's state: dictionaries (the last one is gone on with), machines, the two rows of machines. -/
structure St8 where
  nd : Nat
  ds : Nat → Dp
  nm : Nat
  ms : Nat → Mp
  rm : Value
  rn : Value
  nw : Nat
  ws : Nat → Wk
def St8.cur (S : St8) : Dp := S.ds (S.nd - 1)
def x8F (S : St8) : Nat → Value
  | 0 => .pointer (some ⟨S.cur.d, 0, none⟩)
  | 1 => .pointer (some ⟨S.cur.d2, 0, none⟩)
  | 2 => S.rm
  | _ => S.rn
def ptrs (f : Nat → Nat) : Nat → List Value
  | 0 => []
  | n + 1 => ptrs f n ++ [.pointer (some ⟨f n, 0, none⟩)]
theorem ptrs_len (f : Nat → Nat) : ∀ n, (ptrs f n).length = n
  | 0 => rfl
  | n + 1 => by rw [ptrs, List.length_append, ptrs_len f n]; rfl
theorem ptrs_get (f : Nat → Nat) : ∀ n j, j < n → (ptrs f n)[j]? = some (.pointer (some ⟨f j, 0, none⟩))
  | 0, j, h => by omega
  | n + 1, j, h => by
    by_cases e : j < n
    · rw [ptrs, List.getElem?_append_left (by rw [ptrs_len]; exact e)]
      exact ptrs_get f n j e
    · obtain rfl : j = n := by omega
      rw [ptrs, List.getElem?_append_right (by rw [ptrs_len]; omega), ptrs_len]
      simp
theorem ptrs_congr {f g : Nat → Nat} : ∀ n, (∀ i, i < n → f i = g i) → ptrs f n = ptrs g n
  | 0, _ => rfl
  | n + 1, h => by rw [ptrs, ptrs, ptrs_congr n (fun i hi => h i (by omega)), h n (by omega)]
/-- All blocks of it. -/
def St8.all (S : St8) (X b : Nat) : Prop := b = X ∨ S.rm.ownBlock = some b ∨ S.rn.ownBlock = some b ∨ (∃ i, i < S.nd ∧ ((S.ds i).P b ∨ (S.ds i).R b)) ∨ ∃ j, j < S.nm ∧ ((S.ms j).P b ∨ (S.ms j).R b)
/-- They have nothing in common. -/
structure Sep8 (n X : Nat) (S : St8) (mv mr : Value) (lab : Nat → Nat) : Prop where
  x : lab X = 0 ∧ X < n
  m : ∀ b, mB mv b → lab b = 1 ∧ b < n
  r : ∀ b, mB mr b → lab b = 2 ∧ b < n
  rm : ∀ b, S.rm.ownBlock = some b → lab b = 3 ∧ b < n
  rn : ∀ b, S.rn.ownBlock = some b → lab b = 4 ∧ b < n
  dp : ∀ i, i < S.nd → ∀ b, (S.ds i).P b → lab b = 5 + 4 * i ∧ b < n
  dr : ∀ i, i < S.nd → ∀ b, (S.ds i).R b → lab b = 6 + 4 * i ∧ b < n
  mp : ∀ j, j < S.nm → ∀ b, (S.ms j).P b → lab b = 7 + 4 * j ∧ b < n
  mr : ∀ j, j < S.nm → ∀ b, (S.ms j).R b → lab b = 8 + 4 * j ∧ b < n
structure P8 (w : World) (X : Nat) (S : St8) (mv mr : Value) (M : Int → Int → World → Prop) (a b : Int) (most : Int) (c : Nat) : Prop where
  hx : Blk w X 4 (x8F S)
  rm : w.ownsRow 0 42 1 S.rm S.nw (ptrs (fun j => (S.ws j).s) S.nw)
  rn : w.ownsRow 0 63 1 S.rn S.nw (ptrs (fun j => (S.ws j).k) S.nw)
  nd : 0 < S.nd
  nm : S.nm ≤ 40
  dk : ∀ i, i < S.nd → Dk w w (S.ds i) mv mr most c
  mh : ∀ j, j < S.nm → (S.ms j).k < S.nd ∧ Mk w w (S.ds (S.ms j).k) (S.ms j) c
  m : M a b w
  ms : Ms w mr a b 0 0
  ab : 0 ≤ a ∧ a ≤ (c : Int) + 1 ∧ 0 ≤ b ∧ b ≤ (c : Int) * 1048600
  sep : ∃ lab, Sep8 w.heap.size X S mv mr lab
theorem owns_same {w w' : World} {B st n : Nat} {T : TypeId} {v : Value} {xs : List Value} (h : w.ownsRow B T st v n xs) (e : ∀ k, v.ownBlock = some k → w'.heap[k]? = w.heap[k]?) : w'.ownsRow B T st v n xs := by
  refine ⟨h.1, ?_⟩
  rcases h.2 with h0 | ⟨g, cap, cur, rfl, h1, h2, h3⟩
  · exact .inl h0
  · exact .inr ⟨g, cap, cur, rfl, h1, (e g rfl).trans h2, h3⟩
theorem P8.lt {w : World} {X : Nat} {S : St8} {mv mr : Value} {M : Int → Int → World → Prop} {a b most : Int} {c : Nat} (h : P8 w X S mv mr M a b most c) : ∀ k, S.all X k ∨ mB mv k ∨ mB mr k → k < w.heap.size := by
  obtain ⟨lab, sp⟩ := h.sep
  rintro k ((rfl | y | y | ⟨i, hi, y | y⟩ | ⟨j, hj, y | y⟩) | y | y)
  · exact sp.x.2
  · exact (sp.rm k y).2
  · exact (sp.rn k y).2
  · exact (sp.dp i hi k y).2
  · exact (sp.dr i hi k y).2
  · exact (sp.mp j hj k y).2
  · exact (sp.mr j hj k y).2
  · exact (sp.m k y).2
  · exact (sp.r k y).2
/-- Other blocks turned. -/
theorem P8.keep {w w' : World} {X : Nat} {S : St8} {mv mr : Value} {M : Int → Int → World → Prop} {a b most : Int} {c : Nat} (h : P8 w X S mv mr M a b most c) (hMo : MtOk mv M) (hs : w.heap.size ≤ w'.heap.size) (e : ∀ k, S.all X k ∨ mB mv k ∨ mB mr k → w'.heap[k]? = w.heap[k]?) : P8 w' X S mv mr M a b most c := by
  obtain ⟨lab, sp⟩ := h.sep
  refine ⟨h.hx.same (e _ (.inl (.inl rfl))), owns_same h.rm (fun k hk => e k (.inl (.inr (.inl hk)))), owns_same h.rn (fun k hk => e k (.inl (.inr (.inr (.inl hk))))), h.nd, h.nm,
    fun i hi => (h.dk i hi).same (fun b hb => e b (.inl (.inr (.inr (.inr (.inl ⟨i, hi, .inl hb⟩)))))) (fun b hb => e b (.inl (.inr (.inr (.inr (.inl ⟨i, hi, .inr hb⟩)))))),
    fun j hj => ⟨(h.mh j hj).1, (h.mh j hj).2.same (fun b hb => e b (.inl (.inr (.inr (.inr (.inr ⟨j, hj, .inl hb⟩)))))) (fun b hb => e b (.inl (.inr (.inr (.inr (.inr ⟨j, hj, .inr hb⟩))))))⟩,
    hMo.same _ _ _ _ h.m fun k hk => e k (.inr (.inl hk)), h.ms.same fun k hk => e k (.inr (.inr hk)), h.ab, lab, ?_⟩
  exact ⟨⟨sp.x.1, Nat.lt_of_lt_of_le sp.x.2 hs⟩, fun b hb => ⟨(sp.m b hb).1, Nat.lt_of_lt_of_le (sp.m b hb).2 hs⟩, fun b hb => ⟨(sp.r b hb).1, Nat.lt_of_lt_of_le (sp.r b hb).2 hs⟩, fun b hb => ⟨(sp.rm b hb).1, Nat.lt_of_lt_of_le (sp.rm b hb).2 hs⟩, fun b hb => ⟨(sp.rn b hb).1, Nat.lt_of_lt_of_le (sp.rn b hb).2 hs⟩,
    fun i hi b hb => ⟨(sp.dp i hi b hb).1, Nat.lt_of_lt_of_le (sp.dp i hi b hb).2 hs⟩, fun i hi b hb => ⟨(sp.dr i hi b hb).1, Nat.lt_of_lt_of_le (sp.dr i hi b hb).2 hs⟩, fun i hi b hb => ⟨(sp.mp i hi b hb).1, Nat.lt_of_lt_of_le (sp.mp i hi b hb).2 hs⟩, fun i hi b hb => ⟨(sp.mr i hi b hb).1, Nat.lt_of_lt_of_le (sp.mr i hi b hb).2 hs⟩⟩
theorem P8.below {w w' : World} {X : Nat} {S : St8} {mv mr : Value} {M : Int → Int → World → Prop} {a b most : Int} {c : Nat} (h : P8 w X S mv mr M a b most c) (hMo : MtOk mv M) (hb : Below w.heap.size w w') : P8 w' X S mv mr M a b most c := h.keep hMo hb.size fun k hk => hb.block k (h.lt k hk)
theorem P8.le {w : World} {X : Nat} {S : St8} {mv mr : Value} {M : Int → Int → World → Prop} {a b most : Int} {c c' : Nat} (h : P8 w X S mv mr M a b most c) (hc : c ≤ c') : P8 w X S mv mr M a b most c' :=
  ⟨h.hx, h.rm, h.rn, h.nd, h.nm, fun i hi => (h.dk i hi).le hc, fun j hj => ⟨(h.mh j hj).1, (h.mh j hj).2.le hc⟩, h.m, h.ms, ⟨h.ab.1, by have := h.ab.2.1; omega, h.ab.2.2.1, by have := h.ab.2.2.2; omega⟩, h.sep⟩
/-- What a step of the law leaves. -/
structure D8 (w : World) (X : Nat) (S : St8) (mv mr : Value) (M : Int → Int → World → Prop) (most : Int) (c : Nat) (S' : St8) (a' b' : Int) (w' : World) : Prop where
  p : P8 w' X S' mv mr M a' b' most c
  fx : ∀ k, S'.all X k → S.all X k ∨ w.heap.size ≤ k
  ex : Ex (fun k => S.all X k ∨ mB mv k ∨ mB mr k) w w'
end Go.Proofs.YtejfmajbggmghaaGreat
namespace Go.Proofs.YtejfmajbggmghaaGreat
open Go.RowKit Go.WideShapes

/-- A function but for one place. -/
def updA {A : Type} (f : Nat → A) (k : Nat) (x : A) (i : Nat) : A := if i = k then x else f i
theorem updA_at {A : Type} (f : Nat → A) (k : Nat) (x : A) : updA f k x k = x := if_pos rfl
theorem updA_ne {A : Type} (f : Nat → A) {k i : Nat} (x : A) (h : i ≠ k) : updA f k x i = f i := if_neg h
/-- What a call of the program, and of the document, may turn. -/
def St8.A (S : St8) (k j : Nat) (mv : Value) (b : Nat) : Prop := (S.ds k).P b ∨ mB mv b ∨ (j < S.nm ∧ (S.ms j).P b)
def St8.B (S : St8) (k j : Nat) (mr : Value) (b : Nat) : Prop := (S.ds k).R b ∨ mB mr b ∨ (j < S.nm ∧ (S.ms j).R b)
def St8.to (S : St8) (k j : Nat) (p : Dp) (q : Mp) : St8 := ⟨S.nd, updA S.ds k p, S.nm, updA S.ms j q, S.rm, S.rn, S.nw, S.ws⟩
/-- What a call keeps. -/
structure Kept (S S' : St8) : Prop where
  nd : S'.nd = S.nd
  nm : S'.nm = S.nm
  nw : S'.nw = S.nw
  ws : S'.ws = S.ws
  rm : S'.rm = S.rm
  rn : S'.rn = S.rn
  d : ∀ i, (S'.ds i).d = (S.ds i).d ∧ (S'.ds i).d2 = (S.ds i).d2
  ms : ∀ j, (S'.ms j).x = (S.ms j).x ∧ (S'.ms j).y = (S.ms j).y ∧ (S'.ms j).k = (S.ms j).k
theorem Kept.refl (S : St8) : Kept S S := ⟨rfl, rfl, rfl, rfl, rfl, rfl, fun _ => ⟨rfl, rfl⟩, fun _ => ⟨rfl, rfl, rfl⟩⟩
theorem Kept.trans {S S' S'' : St8} (h : Kept S S') (g : Kept S' S'') : Kept S S'' := ⟨g.nd.trans h.nd, g.nm.trans h.nm, g.nw.trans h.nw, g.ws.trans h.ws, g.rm.trans h.rm, g.rn.trans h.rn, fun i => ⟨(g.d i).1.trans (h.d i).1, (g.d i).2.trans (h.d i).2⟩, fun j => ⟨(g.ms j).1.trans (h.ms j).1, (g.ms j).2.1.trans (h.ms j).2.1, (g.ms j).2.2.trans (h.ms j).2.2⟩⟩
theorem Kept.to {S : St8} {k j : Nat} {p : Dp} {q : Mp} (pd : p.d = (S.ds k).d) (pd2 : p.d2 = (S.ds k).d2) (qx : q.x = (S.ms j).x) (qy : q.y = (S.ms j).y) (qk : q.k = (S.ms j).k) : Kept S (S.to k j p q) := by
  refine ⟨rfl, rfl, rfl, rfl, rfl, rfl, fun i => ?_, fun i => ?_⟩
  · show (updA S.ds k p i).d = _ ∧ (updA S.ds k p i).d2 = _
    by_cases e : i = k
    · rw [e, updA_at]; exact ⟨pd, pd2⟩
    · rw [updA_ne _ _ e]; exact ⟨rfl, rfl⟩
  · show (updA S.ms j q i).x = _ ∧ (updA S.ms j q i).y = _ ∧ (updA S.ms j q i).k = _
    by_cases e : i = j
    · rw [e, updA_at]; exact ⟨qx, qy, qk⟩
    · rw [updA_ne _ _ e]; exact ⟨rfl, rfl, rfl⟩
/-- By how much the bounds rose. -/
def UpN (n : Nat) (S S' : St8) : Prop := ∀ i c, Bp (S.ds i) c → Bp (S'.ds i) (c + n)
theorem UpN.refl (n : Nat) (S : St8) : UpN n S S := fun _ _ h => h.le (Nat.le_add_right _ _)
theorem UpN.to {n : Nat} {S : St8} {k j : Nat} {p : Dp} {q : Mp} (h : ∀ c, Bp (S.ds k) c → Bp p (c + n)) : UpN n S (S.to k j p q) := fun i c hb => by
  show Bp (updA S.ds k p i) (c + n)
  by_cases e : i = k
  · rw [e] at hb ⊢; rw [updA_at]; exact h c hb
  · rw [updA_ne _ _ e]; exact hb.le (Nat.le_add_right _ _)
theorem P8.both {w w1 w2 : World} {X : Nat} {S : St8} {mv mr : Value} {M : Int → Int → World → Prop} {a b most : Int} {c : Nat} (hP : P8 w X S mv mr M a b most c) (hMo : MtOk mv M) {k j : Nat} (hk : k < S.nd) {p : Dp} {q : Mp} {a' b' : Int} {c' : Nat} (hc : c ≤ c')
    (x1 : Ex (S.A k j mv) w w1) (x2 : Ex (S.B k j mr) w1 w2)
    (pd : p.d = (S.ds k).d) (pd2 : p.d2 = (S.ds k).d2) (pg : p.g = (S.ds k).g) (pg2 : p.g2 = (S.ds k).g2) (pv : (S.ds k).v ≤ p.v) (pt : p.v = (S.ds k).v → p.t = (S.ds k).t)
    (hd : Dk w1 w2 p mv mr most c') (fP : ∀ i, p.P i → (S.ds k).P i ∨ w.heap.size ≤ i) (fR : ∀ i, p.R i → (S.ds k).R i ∨ w1.heap.size ≤ i)
    (hm : M a' b' w1) (hms : Ms w2 mr a' b' 0 0) (ab : 0 ≤ a' ∧ a' ≤ (c' : Int) + 1 ∧ 0 ≤ b' ∧ b' ≤ (c' : Int) * 1048600)
    (hq : j < S.nm → q.x = (S.ms j).x ∧ q.y = (S.ms j).y ∧ q.k = k ∧ (S.ms j).k = k ∧ Mk w1 w2 p q c' ∧ (∀ i, mB q.sv i → mB (S.ms j).sv i ∨ w.heap.size ≤ i) ∧ (∀ i, mB q.sw i → mB (S.ms j).sw i ∨ w1.heap.size ≤ i) ∧ (∀ i, q.P i → ¬ p.P i) ∧ (∀ i, q.R i → ¬ p.R i)) :
    P8 w2 X (S.to k j p q) mv mr M a' b' most c' ∧ (∀ i, (S.to k j p q).all X i → S.all X i ∨ w.heap.size ≤ i) ∧ Ex (fun i => S.all X i ∨ mB mv i ∨ mB mr i) w w2 := by
  obtain ⟨lab, sp⟩ := hP.sep
  have s1 := x1.size
  have s2 := x2.size
  -- what the calls kept
  have n1 : ∀ i, i < w.heap.size → lab i ≠ 5 + 4 * k → lab i ≠ 1 → (j < S.nm → lab i ≠ 7 + 4 * j) → w1.heap[i]? = w.heap[i]? := fun i hi h1 h2 h3 => x1.block i hi (fun hx => by
    rcases hx with y | y | ⟨hj, y⟩
    · exact h1 (sp.dp k hk i y).1
    · exact h2 (sp.m i y).1
    · exact h3 hj (sp.mp j hj i y).1)
  have n2 : ∀ i, i < w.heap.size → lab i ≠ 6 + 4 * k → lab i ≠ 2 → (j < S.nm → lab i ≠ 8 + 4 * j) → w2.heap[i]? = w1.heap[i]? := fun i hi h1 h2 h3 => x2.block i (by omega) (fun hx => by
    rcases hx with y | y | ⟨hj, y⟩
    · exact h1 (sp.dr k hk i y).1
    · exact h2 (sp.r i y).1
    · exact h3 hj (sp.mr j hj i y).1)
  have n3 : ∀ i, w.heap.size ≤ i → i < w1.heap.size → w2.heap[i]? = w1.heap[i]? := fun i hi hl => x2.block i hl (fun hx => by
    rcases hx with y | y | ⟨hj, y⟩
    · have := (sp.dr k hk i y).2; omega
    · have := (sp.r i y).2; omega
    · have := (sp.mr j hj i y).2; omega)
  -- the new program parts at w2
  have kP : ∀ i, p.P i → w2.heap[i]? = w1.heap[i]? := fun i hi => by
    have hl := hd.dc.lt i hi
    rcases fP i hi with y | y
    · have := sp.dp k hk i y
      exact n2 i this.2 (by omega) (by omega) (by omega)
    · exact n3 i y hl
  have hd2 : Dk w2 w2 p mv mr most c' := hd.same kP (fun _ _ => rfl)
  have labels : ∀ i, i < w.heap.size → lab i = 0 ∨ lab i = 3 ∨ lab i = 4 → w2.heap[i]? = w.heap[i]? := fun i hi h => (n2 i hi (by omega) (by omega) (by omega)).trans (n1 i hi (by omega) (by omega) (by omega))
  have hlq := fun hj => (hq hj).2.2.2.2.1.lt
  have qP : ∀ (_ : j < S.nm) i, q.P i → (S.ms j).P i ∨ (w.heap.size ≤ i ∧ i < w1.heap.size) := fun hj i hi => by
    have hl := (hlq hj).1 i hi
    obtain ⟨e1, _, _, _, _, e2, _⟩ := hq hj
    rcases hi with y | y
    · exact .inl (.inl (y.trans e1))
    · rcases e2 i y with z | z
      · exact .inl (.inr z)
      · exact .inr ⟨z, hl⟩
  have qR : ∀ (_ : j < S.nm) i, q.R i → (S.ms j).R i ∨ (w1.heap.size ≤ i ∧ i < w2.heap.size) := fun hj i hi => by
    have hl := (hlq hj).2 i hi
    obtain ⟨_, e1, _, _, _, _, e2, _⟩ := hq hj
    rcases hi with y | y
    · exact .inl (.inl (y.trans e1))
    · rcases e2 i y with z | z
      · exact .inl (.inr z)
      · exact .inr ⟨z, hl⟩
  have hdP : ∀ i, i < S.nd → i ≠ k → ∀ b, (S.ds i).P b ∨ (S.ds i).R b → w2.heap[b]? = w.heap[b]? := fun i hi hik b hb => by
    rcases hb with hb | hb
    · have := sp.dp i hi b hb
      exact (n2 b this.2 (by omega) (by omega) (by omega)).trans (n1 b this.2 (by omega) (by omega) (by omega))
    · have := sp.dr i hi b hb
      exact (n2 b this.2 (by omega) (by omega) (by omega)).trans (n1 b this.2 (by omega) (by omega) (by omega))
  have hmP : ∀ i, i < S.nm → i ≠ j → ∀ b, (S.ms i).P b ∨ (S.ms i).R b → w2.heap[b]? = w.heap[b]? := fun i hi hij b hb => by
    rcases hb with hb | hb
    · have := sp.mp i hi b hb
      exact (n2 b this.2 (by omega) (by omega) (by omega)).trans (n1 b this.2 (by omega) (by omega) (by omega))
    · have := sp.mr i hi b hb
      exact (n2 b this.2 (by omega) (by omega) (by omega)).trans (n1 b this.2 (by omega) (by omega) (by omega))
  have ex : ∀ i, (S.ms i).x = (updA S.ms j q i).x ∨ ¬ i < S.nm := fun i => by
    by_cases e : i = j
    · by_cases hi : i < S.nm
      · left
        rw [e, updA_at]
        exact ((hq (e ▸ hi)).1).symm
      · exact .inr hi
    · left; rw [updA_ne _ _ e]
  have ey : ∀ i, (S.ms i).y = (updA S.ms j q i).y ∨ ¬ i < S.nm := fun i => by
    by_cases e : i = j
    · by_cases hi : i < S.nm
      · left
        rw [e, updA_at]
        exact ((hq (e ▸ hi)).2.1).symm
      · exact .inr hi
    · left; rw [updA_ne _ _ e]
  refine ⟨⟨?_, ?_, ?_, hP.nd, hP.nm, ?_, ?_, ?_, hms, ab, ?_⟩, ?_, ?_⟩
  · refine (hP.hx.same (labels X sp.x.2 (.inl sp.x.1))).congr fun i hi => ?_
    have ec : (S.to k j p q).cur = updA S.ds k p (S.nd - 1) := rfl
    have e1 : (S.to k j p q).cur.d = S.cur.d ∧ (S.to k j p q).cur.d2 = S.cur.d2 := by
      rw [ec]
      by_cases e : S.nd - 1 = k
      · rw [e, updA_at]; unfold St8.cur; rw [e]; exact ⟨pd, pd2⟩
      · rw [updA_ne _ _ e]; exact ⟨rfl, rfl⟩
    have : i = 0 ∨ i = 1 ∨ i = 2 ∨ i = 3 := by omega
    rcases this with rfl | rfl | rfl | rfl
    · show Value.pointer (some ⟨(S.to k j p q).cur.d, 0, none⟩) = Value.pointer (some ⟨S.cur.d, 0, none⟩)
      rw [e1.1]
    · show Value.pointer (some ⟨(S.to k j p q).cur.d2, 0, none⟩) = Value.pointer (some ⟨S.cur.d2, 0, none⟩)
      rw [e1.2]
    · rfl
    · rfl
  · have h := owns_same hP.rm (fun b hb => labels b (sp.rm b hb).2 (.inr (.inl (sp.rm b hb).1)))
    exact h
  · have h := owns_same hP.rn (fun b hb => labels b (sp.rn b hb).2 (.inr (.inr (sp.rn b hb).1)))
    exact h
  · intro i hi
    show Dk w2 w2 (updA S.ds k p i) mv mr most c'
    by_cases e : i = k
    · rw [e, updA_at]; exact hd2
    · rw [updA_ne _ _ e]
      exact ((hP.dk i hi).le hc).same (fun b hb => hdP i hi e b (.inl hb)) (fun b hb => hdP i hi e b (.inr hb))
  · intro i hi
    show (updA S.ms j q i).k < S.nd ∧ Mk w2 w2 (updA S.ds k p (updA S.ms j q i).k) (updA S.ms j q i) c'
    by_cases e : i = j
    · have hj : j < S.nm := e ▸ hi
      obtain ⟨_, _, e3, _, e4, _⟩ := hq hj
      rw [e, updA_at, e3, updA_at]
      refine ⟨hk, e4.same (fun b hb => ?_) (fun _ _ => rfl)⟩
      rcases qP hj b hb with y | y
      · have := sp.mp j hj b y
        exact n2 b this.2 (by omega) (by omega) (by omega)
      · exact n3 b y.1 y.2
    · rw [updA_ne _ _ e]
      have h1 := hP.mh i hi
      have h2 := (h1.2.le hc).same (v := w2) (v' := w2) (fun b hb => hmP i hi e b (.inl hb)) (fun b hb => hmP i hi e b (.inr hb))
      refine ⟨h1.1, ?_⟩
      by_cases e2 : (S.ms i).k = k
      · rw [e2, updA_at]
        rw [e2] at h2
        exact h2.turn pd pd2 pg pg2 pv pt
      · rw [updA_ne _ _ e2]; exact h2
  · refine hMo.same _ _ _ _ hm fun i hi => ?_
    have := sp.m i hi
    exact n2 i this.2 (by omega) (by omega) (by omega)
  · have dP : ∀ i, Decidable (p.P i) := fun i => Classical.propDecidable _
    have dR : ∀ i, Decidable (p.R i) := fun i => Classical.propDecidable _
    refine ⟨fun i => if i < w.heap.size then lab i else if i < w1.heap.size then (if p.P i then 5 + 4 * k else 7 + 4 * j) else (if p.R i then 6 + 4 * k else 8 + 4 * j), ?_⟩
    have hlP := hd.dc.lt
    have hlR := hd.rc.lt
    refine ⟨⟨?_, by have := sp.x.2; omega⟩, fun b hb => ?_, fun b hb => ?_, fun b hb => ?_, fun b hb => ?_, fun i hi b hb => ?_, fun i hi b hb => ?_, fun i hi b hb => ?_, fun i hi b hb => ?_⟩
    · show (if X < w.heap.size then lab X else _) = 0
      rw [if_pos sp.x.2]; exact sp.x.1
    · show (if b < w.heap.size then lab b else _) = 1 ∧ _
      have := sp.m b hb
      rw [if_pos this.2]; exact ⟨this.1, by omega⟩
    · show (if b < w.heap.size then lab b else _) = 2 ∧ _
      have := sp.r b hb
      rw [if_pos this.2]; exact ⟨this.1, by omega⟩
    · show (if b < w.heap.size then lab b else _) = 3 ∧ _
      have := sp.rm b hb
      rw [if_pos this.2]; exact ⟨this.1, by omega⟩
    · show (if b < w.heap.size then lab b else _) = 4 ∧ _
      have := sp.rn b hb
      rw [if_pos this.2]; exact ⟨this.1, by omega⟩
    · show (if b < w.heap.size then lab b else if b < w1.heap.size then (if p.P b then 5 + 4 * k else 7 + 4 * j) else (if p.R b then 6 + 4 * k else 8 + 4 * j)) = 5 + 4 * i ∧ _
      have hb' : (updA S.ds k p i).P b := hb
      by_cases e : i = k
      · rw [e, updA_at] at hb'
        have hl := hlP b hb'
        rcases fP b hb' with y | y
        · have := sp.dp k hk b y
          rw [if_pos this.2, e]; exact ⟨this.1, by omega⟩
        · rw [if_neg (by omega), if_pos hl, if_pos hb', e]; exact ⟨rfl, by omega⟩
      · rw [updA_ne _ _ e] at hb'
        have := sp.dp i hi b hb'
        rw [if_pos this.2]; exact ⟨this.1, by omega⟩
    · show (if b < w.heap.size then lab b else if b < w1.heap.size then (if p.P b then 5 + 4 * k else 7 + 4 * j) else (if p.R b then 6 + 4 * k else 8 + 4 * j)) = 6 + 4 * i ∧ _
      have hb' : (updA S.ds k p i).R b := hb
      by_cases e : i = k
      · rw [e, updA_at] at hb'
        have hl := hlR b hb'
        rcases fR b hb' with y | y
        · have := sp.dr k hk b y
          rw [if_pos this.2, e]; exact ⟨this.1, by omega⟩
        · rw [if_neg (by omega), if_neg (by omega), if_pos hb', e]; exact ⟨rfl, hl⟩
      · rw [updA_ne _ _ e] at hb'
        have := sp.dr i hi b hb'
        rw [if_pos this.2]; exact ⟨this.1, by omega⟩
    · show (if b < w.heap.size then lab b else if b < w1.heap.size then (if p.P b then 5 + 4 * k else 7 + 4 * j) else (if p.R b then 6 + 4 * k else 8 + 4 * j)) = 7 + 4 * i ∧ _
      have hb' : (updA S.ms j q i).P b := hb
      by_cases e : i = j
      · have hj : j < S.nm := e ▸ hi
        rw [e, updA_at] at hb'
        rcases qP hj b hb' with y | y
        · have := sp.mp j hj b y
          rw [if_pos this.2, e]; exact ⟨this.1, by omega⟩
        · rw [if_neg (by omega), if_pos y.2, if_neg ((hq hj).2.2.2.2.2.2.2.1 b hb'), e]; exact ⟨rfl, by omega⟩
      · rw [updA_ne _ _ e] at hb'
        have := sp.mp i hi b hb'
        rw [if_pos this.2]; exact ⟨this.1, by omega⟩
    · show (if b < w.heap.size then lab b else if b < w1.heap.size then (if p.P b then 5 + 4 * k else 7 + 4 * j) else (if p.R b then 6 + 4 * k else 8 + 4 * j)) = 8 + 4 * i ∧ _
      have hb' : (updA S.ms j q i).R b := hb
      by_cases e : i = j
      · have hj : j < S.nm := e ▸ hi
        rw [e, updA_at] at hb'
        rcases qR hj b hb' with y | y
        · have := sp.mr j hj b y
          rw [if_pos this.2, e]; exact ⟨this.1, by omega⟩
        · rw [if_neg (by omega), if_neg (by omega), if_neg ((hq hj).2.2.2.2.2.2.2.2 b hb'), e]; exact ⟨rfl, y.2⟩
      · rw [updA_ne _ _ e] at hb'
        have := sp.mr i hi b hb'
        rw [if_pos this.2]; exact ⟨this.1, by omega⟩
  · rintro b (rfl | y | y | ⟨i, hi, y⟩ | ⟨i, hi, y⟩)
    · exact .inl (.inl rfl)
    · exact .inl (.inr (.inl y))
    · exact .inl (.inr (.inr (.inl y)))
    · have y' : (updA S.ds k p i).P b ∨ (updA S.ds k p i).R b := y
      by_cases e : i = k
      · rw [e, updA_at] at y'
        rcases y' with z | z
        · exact (fP b z).elim (fun z => .inl (.inr (.inr (.inr (.inl ⟨k, hk, .inl z⟩))))) .inr
        · exact (fR b z).elim (fun z => .inl (.inr (.inr (.inr (.inl ⟨k, hk, .inr z⟩))))) (fun z => .inr (by omega))
      · rw [updA_ne _ _ e] at y'
        exact .inl (.inr (.inr (.inr (.inl ⟨i, hi, y'⟩))))
    · have y' : (updA S.ms j q i).P b ∨ (updA S.ms j q i).R b := y
      by_cases e : i = j
      · have hj : j < S.nm := e ▸ hi
        rw [e, updA_at] at y'
        rcases y' with z | z
        · exact (qP hj b z).elim (fun z => .inl (.inr (.inr (.inr (.inr ⟨j, hj, .inl z⟩))))) (fun z => .inr z.1)
        · exact (qR hj b z).elim (fun z => .inl (.inr (.inr (.inr (.inr ⟨j, hj, .inr z⟩))))) (fun z => .inr (by omega))
      · rw [updA_ne _ _ e] at y'
        exact .inl (.inr (.inr (.inr (.inr ⟨i, hi, y'⟩))))
  · refine (x1.mono (fun b _ hb => ?_)).next x2 (fun b _ hb => ?_)
    · rcases hb with y | y | ⟨hj, y⟩
      · exact .inl (.inr (.inr (.inr (.inl ⟨k, hk, .inl y⟩))))
      · exact .inr (.inl y)
      · exact .inl (.inr (.inr (.inr (.inr ⟨j, hj, .inl y⟩))))
    · rcases hb with y | y | ⟨hj, y⟩
      · exact .inl (.inr (.inr (.inr (.inl ⟨k, hk, .inr y⟩))))
      · exact .inr (.inr y)
      · exact .inl (.inr (.inr (.inr (.inr ⟨j, hj, .inr y⟩))))
end Go.Proofs.YtejfmajbggmghaaGreat
namespace Go.Proofs.YtejfmajbggmghaaGreat
open Go.RowKit Go.WideShapes

theorem pin_eq {es : List En} {L : Nat} {c : Nat → Int} {u : Int} {told : Int} {n j : Nat} (hI : Inv es L c) (ho : Of es u n) (hl : told < (n : Int)) (hc : c (trl (uw u) L j) = (n : Int)) (hT : Told es L c u j told) : Pos es L c n j := by
  obtain ⟨p, hp⟩ := hI.pos n ho.1 ho.2.1
  have : p = j := by
    rcases Nat.lt_trichotomy p j with e | e | e
    · have := (hT n ho p hp).1 e; omega
    · exact e
    · have := (hp.2 j e).2; rw [ho.2.2, hc] at this; omega
  rw [← this]
  exact hp
theorem P8.mid {w w1 : World} {X : Nat} {S : St8} {mv mr : Value} {M : Int → Int → World → Prop} {a b most : Int} {c : Nat} (hP : P8 w X S mv mr M a b most c) {k j : Nat} (hk : k < S.nd) (x1 : Ex (S.A k j mv) w w1) :
    Blk w1 X 4 (x8F S) ∧ w1.ownsRow 0 42 1 S.rm S.nw (ptrs (fun j => (S.ws j).s) S.nw) ∧ w1.ownsRow 0 63 1 S.rn S.nw (ptrs (fun j => (S.ws j).k) S.nw) ∧ (∀ i, i < S.nd → Rdc w1 (S.ds i).d2 (S.ds i).g2 (S.ds i).q2 (S.ds i).ev2 (S.ds i).t mr most (S.ds i).v) ∧ (∀ i, i < S.nm → ∀ b, (S.ms i).R b → w1.heap[b]? = w.heap[b]?) ∧ Ms w1 mr a b 0 0 := by
  obtain ⟨lab, sp⟩ := hP.sep
  have n1 : ∀ i, i < w.heap.size → lab i ≠ 5 + 4 * k → lab i ≠ 1 → (j < S.nm → lab i ≠ 7 + 4 * j) → w1.heap[i]? = w.heap[i]? := fun i hi h1 h2 h3 => x1.block i hi (fun hx => by
    rcases hx with y | y | ⟨hj, y⟩
    · exact h1 (sp.dp k hk i y).1
    · exact h2 (sp.m i y).1
    · exact h3 hj (sp.mp j hj i y).1)
  refine ⟨hP.hx.same ?_, owns_same hP.rm fun i hi => ?_, owns_same hP.rn fun i hi => ?_, fun i hi => (hP.dk i hi).rc.same fun i' hb => ?_, fun i hi b hb => ?_, hP.ms.same fun i hi => ?_⟩
  · have := sp.x; exact n1 X this.2 (by omega) (by omega) (by omega)
  · have := sp.rm i hi; exact n1 i this.2 (by omega) (by omega) (by omega)
  · have := sp.rn i hi; exact n1 i this.2 (by omega) (by omega) (by omega)
  · have := sp.dr i hi i' hb; exact n1 i' this.2 (by omega) (by omega) (by omega)
  · have := sp.mr i hi b hb; exact n1 b this.2 (by omega) (by omega) (by omega)
  · have := sp.r i hi; exact n1 i this.2 (by omega) (by omega) (by omega)
theorem msr_u {m m' : Ma} {t : Tb} {most : Int} {u u' : Tu} {P P' : Int → Nat → Tb → Prop} (h : MsR m t most u P) (h' : MsR m' t most u' P') (e1 : m'.goal = m.goal) (e2 : m'.hash = m.hash) (e3 : m'.key = m.key) (e4 : m'.value = m.value) : u = u' ∧ ∃ da dv t', P da dv t' ∧ P' da dv t' ∧ (u.kind = 2 ∨ u.kind = 3) ∧ ((da = (((t.add m.hash m.key m.value).made - t.made : Nat) : Int) ∧ dv = 1 ∧ t' = t.add m.hash m.key m.value) ∨ (da = 0 ∧ dv = 0 ∧ t' = t)) := by
  unfold MsR at h h'
  rw [e1, e2, e3, e4] at h'
  rcases h with ⟨h1, h2, h3, h4⟩ | ⟨h1, h2, h3, h4⟩ | ⟨h1, h2, h3⟩ <;> rcases h' with ⟨g1, g2, g3, g4⟩ | ⟨g1, g2, g3, g4⟩ | ⟨g1, g2, g3⟩
  · exact ⟨h3.trans g3.symm, _, _, _, h4, g4, .inl (by rw [h3]), .inl ⟨rfl, rfl, rfl⟩⟩
  · exact absurd h2 g2
  · exact absurd h1 g1
  · exact absurd g2 h2
  · exact ⟨h3.trans g3.symm, _, _, _, h4, g4, .inr (by rw [h3]), .inr ⟨rfl, rfl, rfl⟩⟩
  · exact absurd h1 g1
  · exact absurd g1 h1
  · exact absurd g1 h1
  · exact ⟨h2.trans g2.symm, _, _, _, h3, g3, .inl (by rw [h2]), .inr ⟨rfl, rfl, rfl⟩⟩
theorem Tb.add_up (t : Tb) (u k v : Int) : t.made ≤ (t.add u k v).made ∧ (t.add u k v).made ≤ t.made + 1 ∧ (t.add u k v).births = t.births + 1 ∧ (t.add u k v).turn = t.turn + 1 := by
  unfold Tb.add
  by_cases h : t.es.length < rm (2 ^ t.L)
  · rw [if_pos h]
    exact ⟨Nat.le_refl _, Nat.le_succ _, rfl, rfl⟩
  · rw [if_neg h]
    exact ⟨Nat.le_succ _, Nat.le_refl _, rfl, rfl⟩
theorem SoR.cm {w : World} {d g gi r h : Nat} {ev : Value} {t : Tb} {mv : Value} {M : Int → Int → World → Prop} {x : Nat} {sv : Value} {a b : Int} {most : Int} {v : Nat} {m1 : Ma} {s i : Nat} {told : Int} {f : Nat} {u : Tu} {w' : World} (q : SoR w d g gi r h ev t mv M x sv a b most v m1 s i told f u w') : Ex (fun j => cX d g gi r h ev j ∨ mB mv j ∨ j = x ∨ mB sv j) w w' := by
  obtain ⟨j, _, h2, (⟨n, h3, h4, h5, (⟨h6, h7, h8, h9, h10⟩ | ⟨h6, h7, h8, h9, h10⟩)⟩ | ⟨h3, h4, h5, h6, h7⟩)⟩ := q
  · exact h8.ex
  · exact h8.ex
  · obtain ⟨_, _, _, _, _, _, _, c, _⟩ := h5.any
    exact c.ex
theorem Cm.below {w : World} {d g gi r h : Nat} {ev : Value} {mv : Value} {M : Int → Int → World → Prop} {x : Nat} {sv : Value} {a b : Int} {most : Int} {v : Nat} {t' : Tb} {w' V : World} {gi' r' h' : Nat} {ev' : Value} (hMo : MtOk mv M) (c : Cm w d g gi r h ev mv M x sv a b most v t' w' gi' r' h' ev') (hb : Below w'.heap.size w' V) : Cm w d g gi r h ev mv M x sv a b most v t' V gi' r' h' ev' := ⟨c.dc.below hb, hMo.below c.m hb, c.fx, c.ex.next (ex_of hb (X := fun _ => False)) (fun _ _ h => h.elim)⟩
theorem SoR.below {w : World} {d g gi r h : Nat} {ev : Value} {t : Tb} {mv : Value} {M : Int → Int → World → Prop} {x : Nat} {sv : Value} {a b : Int} {most : Int} {v : Nat} {m1 : Ma} {s i : Nat} {told : Int} {f : Nat} {u : Tu} {w' V : World} (hMo : MtOk mv M) (q : SoR w d g gi r h ev t mv M x sv a b most v m1 s i told f u w') (hb : Below w'.heap.size w' V) : SoR w d g gi r h ev t mv M x sv a b most v m1 s i told f u V := by
  have hvi : ∀ {n}, Vi w' s n → Vi V s n := fun hv => hv.same (hb.block s (by obtain ⟨_, _, _, _, _, _, q⟩ := hv; exact q.lt (by omega)))
  obtain ⟨j, h1, h2, (⟨n, h3, h4, h5, (⟨h6, h7, h8, h9, h10⟩ | ⟨h6, h7, h8, h9, h10⟩)⟩ | ⟨h3, h4, h5, h6, h7⟩)⟩ := q
  · exact ⟨j, h1, h2, .inl ⟨n, h3, h4, h5, .inl ⟨h6, h7, h8.below hMo hb, Blk.of h9 hb (by omega), hvi h10⟩⟩⟩
  · exact ⟨j, h1, h2, .inl ⟨n, h3, h4, h5, .inr ⟨h6, h7, h8.below hMo hb, Blk.of h9 hb (by omega), h10.of (hb.block s (h10.sk.lt (by omega)))⟩⟩⟩
  · exact ⟨j, h1, h2, .inr ⟨h3, h4, h5.mono (fun _ _ _ ⟨gi', r', h', ev', c, hn⟩ => ⟨gi', r', h', ev', c.below hMo hb, hn⟩), Blk.of h6 hb (by omega), hvi h7⟩⟩
theorem RsR.cm {w : World} {d g q : Nat} {ev : Value} {t : Tb} {mr : Value} {y : Nat} {sv : Value} {a b : Int} {most : Int} {v : Nat} {m1 : Ma} {z1 : Rz} {s i : Nat} {told : Int} {f : Nat} {u : Tu} {w' : World} (h : RsR w d g q ev t mr y sv a b most v m1 z1 s i told f u w') : Ex (fun j => rX d g q ev j ∨ mB mr j ∨ j = y ∨ mB sv j) w w' := by
  obtain ⟨j, _, h2, (⟨n, h3, h4, h5, (⟨h6, h7, h8, h9, h10⟩ | ⟨h6, h7, h8, h9, h10⟩)⟩ | ⟨h3, h4, h5, h6, h7⟩)⟩ := h
  · exact h8.ex
  · exact h8.ex
  · obtain ⟨_, _, _, _, _, c, _⟩ := h5.any
    exact c.ex
theorem vi_ne {w : World} {x : Nat} {sv : Value} {d : Nat} {m : Ma} {s n : Nat} (hm : Mc w x sv d m) (hv : Vi w s n) : s ≠ x := by
  rintro rfl
  obtain ⟨_, _, _, _, _, _, hk⟩ := hv
  have h1 := Blk.c hm 1 (by omega)
  have h2 := Blk.c hk 1 (by omega)
  rw [h1] at h2
  cases h2
theorem v2_ne {w : World} {y : Nat} {sv : Value} {d : Nat} {m : Ma} {z : Rz} {s n : Nat} (hm : Rm w y sv d m z) (hv : V2 w s n) : s ≠ y := by
  rintro rfl
  obtain ⟨_, _, _, _, _, _, _, hk⟩ := hv
  have h1 := Blk.c hm 4 (by omega)
  have h2 := Blk.c hk 4 (by omega)
  rw [h1] at h2
  cases h2
theorem hitT_born {t : Tb} (h : t.Born) (m : Ma) (n : Nat) : (hitT m t n).Born := by
  unfold hitT
  by_cases h2 : m.goal = 2
  · rw [if_pos h2]; first | exact h.putv _ _ | exact h.kill _
  · rw [if_neg h2]
    by_cases h3 : m.goal = 3
    · rw [if_pos h3]; first | exact h.kill _ | exact h.putv _ _
    · rw [if_neg h3]; exact h
theorem hit_turn (m : Ma) (t : Tb) (n v : Nat) : v ≤ hitN m.goal v ∧ hitN m.goal v ≤ v + 1 ∧ (hitN m.goal v = v → hitT m t n = t) ∧ (hitT m t n).births = t.births ∧ (hitT m t n).made = t.made ∧ (hitT m t n).turn ≤ t.turn + 1 := by
  unfold hitN hitT
  by_cases h2 : m.goal = 2
  · rw [if_pos (.inl h2), if_pos h2]
    exact ⟨by omega, Nat.le_refl _, fun h => by omega, rfl, rfl, Nat.le_succ _⟩
  · by_cases h3 : m.goal = 3
    · rw [if_pos (.inr h3), if_neg h2, if_pos h3]
      exact ⟨by omega, Nat.le_refl _, fun h => by omega, rfl, rfl, Nat.le_refl _⟩
    · rw [if_neg (fun x => x.elim h2 h3), if_neg h2, if_neg h3]
      exact ⟨Nat.le_refl _, Nat.le_succ _, fun _ => rfl, rfl, rfl, Nat.le_succ _⟩
end Go.Proofs.YtejfmajbggmghaaGreat
