/-
  A namespace as a sequence of names: what Set and Del do to it, and what the others' do not. No program.
  The law's set: a name, in a sequence.
  The law's del: a name, out of a sequence.
-/
import Derived.Test.YtpigbnlapcndgaaGreatShDel3
import Derived.Test.YtpigbnlapcndgaaGreatShStrs
import Derived.Maps.AppendAt
namespace Go.Proofs.YtpigbnlapcndgaaGreat

theorem name_key {hs : ByteArray → Int} {all : List ByteArray} {l : List En} (h : Nl hs all l) (nd : all.Nodup) {s : ByteArray} {k : Int} (hk : Num all s k) {e : En} (he : e ∈ l) : nmOf all e.key = s ↔ e.key = k := by
  obtain ⟨k', s', h1, h2, _⟩ := h.nm e he
  rw [h2, nmOf_at h1]
  rcases hk with ⟨n, rfl, hn⟩ | ⟨rfl, hn⟩
  · constructor
    · rintro rfl
      have l1 := (List.getElem?_eq_some_iff.1 h1).1
      rw [(List.getElem?_inj l1 nd).1 (h1.trans hn.symm)]
    · intro e'
      have : k' = n := by omega
      subst this
      rw [h1] at hn
      exact Option.some.inj hn
  · constructor
    · rintro rfl
      exact absurd (List.mem_of_getElem? h1) hn
    · intro e'
      omega
theorem nmOf_more {hs : ByteArray → Int} {all : List ByteArray} {l : List En} (h : Nl hs all l) (r : List ByteArray) {e : En} (he : e ∈ l) : nmOf (all ++ r) e.key = nmOf all e.key := by
  obtain ⟨k', s', h1, h2, _⟩ := h.nm e he
  have l1 := (List.getElem?_eq_some_iff.1 h1).1
  rw [h2, nmOf_at h1, nmOf_at (s := s') (by rw [List.getElem?_append_left l1, h1])]
theorem prsO_more {hs : ByteArray → Int} {all : List ByteArray} {l : List En} (h : Nl hs all l) (r : List ByteArray) : prsO (all ++ r) l = prsO all l := by
  unfold prsO
  exact List.map_congr_left fun e he => by rw [nmOf_more h r he]
theorem prsN_congr {all all' : List ByteArray} {es es' : List En} {vs vs' : List Int} : ∀ n, (∀ j, j < n → nmOf all (nth es j).key = nmOf all' (nth es' j).key ∧ vs[j]?.getD 0 = vs'[j]?.getD 0) → prsN all es vs n = prsN all' es' vs' n
  | 0, _ => rfl
  | n + 1, h => by
    show prsN all es vs n ++ _ = prsN all' es' vs' n ++ _
    rw [prsN_congr n fun j hj => h j (by omega), (h n (by omega)).1, (h n (by omega)).2]
theorem prsN_map (all : List ByteArray) (es : List En) (vs : List Int) : ∀ n, prsN all es vs n = (List.range n).map fun j => (nmOf all (nth es j).key, vs[j]?.getD 0)
  | 0 => rfl
  | n + 1 => by
    show prsN all es vs n ++ _ = _
    rw [prsN_map all es vs n, List.range_succ, List.map_append]
    rfl
/-- The table that a namespace is, or would be turned into. -/
noncomputable def tbO (F : Fa) : Stn → Tb
  | .row vs => turnN F.kt.es vs vs.length
  | .own t => t
theorem prs_tb {hs : ByteArray → Int} {F : Fa} {c : Nat} {st : Stn} (hF : F.Ok hs c) (hst : st.Ok hs F c) : prsS F st = prsO F.all (liveL (tbO F st).es) ∧ Nl hs F.all (liveL (tbO F st).es) := by
  cases st with
  | row vs =>
    have hvl : vs.length ≤ F.kt.es.length := hst
    have h256 : vs.length ≤ 256 := by have := hF.len; have := hF.room; omega
    refine ⟨?_, turnN_nl hF.nl vs hvl (by omega)⟩
    show prsN F.all F.kt.es vs vs.length = prsO F.all (liveL (turnN F.kt.es vs vs.length).es)
    rw [(turnN_is F.kt.es vs vs.length (by omega)).2.2.2.2, prsN_map]
    unfold prsO
    rw [List.map_map]
    rfl
  | own t => exact ⟨rfl, hst.2.1⟩
/-- A name that is not there. -/
theorem prs_no {hs : ByteArray → Int} {all : List ByteArray} {l : List En} (h : Nl hs all l) (nd : all.Nodup) {s : ByteArray} {k : Int} (hk : Num all s k) (hn : ∀ e ∈ l, e.key ≠ k) : s ∉ (prsO all l).map Prod.fst := by
  intro y
  unfold prsO at y
  rw [List.map_map] at y
  obtain ⟨e, he, h2⟩ := List.mem_map.1 y
  exact hn e he ((name_key h nd hk he).1 h2)
theorem prs_nd {hs : ByteArray → Int} {all : List ByteArray} {l : List En} (h : Nl hs all l) (nd : all.Nodup) : ((prsO all l).map Prod.fst).Nodup := by
  unfold prsO
  rw [List.map_map]
  have e : l.map (Prod.fst ∘ fun e : En => (nmOf all e.key, e.value)) = (l.map En.key).map (nmOf all) := by
    rw [List.map_map]
    rfl
  rw [e]
  have h2 := h.nd
  unfold List.Nodup at h2 ⊢
  rw [List.pairwise_map]
  refine h2.imp_of_mem ?_
  intro a b ha hb hab y
  obtain ⟨ea, ha', rfl⟩ := List.mem_map.1 ha
  obtain ⟨eb, hb', rfl⟩ := List.mem_map.1 hb
  obtain ⟨k', s', h1, h3, _⟩ := h.nm eb hb'
  refine hab (((name_key h nd (s := s') (.inl ⟨k', rfl, h1⟩) ha').1 ?_).trans h3.symm)
  rw [y, h3, nmOf_at h1]
/-- A name that is there. -/
theorem prs_at {hs : ByteArray → Int} {all : List ByteArray} {es : List En} (h : Nl hs all (liveL es)) (nd : all.Nodup) {s : ByteArray} {k : Int} (hk : Num all s k) {n : Nat} (hn : Fnd es k n) : prsO all (liveL es) = prsO all (liveL (es.take n)) ++ (s, (nth es n).value) :: prsO all (liveL (es.drop (n + 1))) := by
  have e := (name_key h nd hk (live_mem hn.1 hn.2.1)).2 hn.2.2
  rw [liveL_cut hn.1 hn.2.1]
  unfold prsO
  rw [List.map_append, List.map_cons, e]
/-- What Set does to a sequence of names. -/
def MsR (l : List (ByteArray × Int)) (s : ByteArray) (x : Int) (m : Nat) (l' : List (ByteArray × Int)) (er : Int) : Prop :=
  (∃ A y B, l = A ++ (s, y) :: B ∧ l' = A ++ (s, x) :: B ∧ er = 0) ∨ (s ∉ l.map Prod.fst ∧ m ≤ l.length ∧ l' = l ∧ er = 6) ∨ (s ∉ l.map Prod.fst ∧ l.length < m ∧ l' = l ++ [(s, x)] ∧ er = 0)
/-- What Del does. -/
def MdR (l : List (ByteArray × Int)) (s : ByteArray) (l' : List (ByteArray × Int)) (er : Int) : Prop :=
  (∃ A y B, l = A ++ (s, y) :: B ∧ l' = A ++ B ∧ er = 0) ∨ (s ∉ l.map Prod.fst ∧ l' = l ∧ er = 7)
theorem prs_fle {hs : ByteArray → Int} {F F' : Fa} {c : Nat} {st : Stn} (hF : F.Ok hs c) (hst : st.Ok hs F c) (hl : Fle F F') : prsS F' st = prsS F st := by
  obtain ⟨r, hr⟩ := hl.all
  obtain ⟨r', hr'⟩ := hl.es
  cases st with
  | row vs =>
    have hvl : vs.length ≤ F.kt.es.length := hst
    show prsN F'.all F'.kt.es vs vs.length = prsN F.all F.kt.es vs vs.length
    refine prsN_congr _ fun j hj => ⟨?_, rfl⟩
    have e : nth F'.kt.es j = nth F.kt.es j := by
      rw [hr']
      unfold nth
      rw [List.getD_eq_getElem?_getD, List.getD_eq_getElem?_getD, List.getElem?_append_left (by omega)]
    rw [e, hr]
    exact nmOf_more hF.nl r (nth_mem (by omega))
  | own t =>
    show prsO F'.all (liveL t.es) = prsO F.all (liveL t.es)
    rw [hr]
    exact prsO_more hst.2.1 r
theorem row_no {hs : ByteArray → Int} {F : Fa} {c : Nat} {vs : List Int} (hF : F.Ok hs c) (hst : vs.length ≤ F.kt.es.length) {s : ByteArray} {k : Int} (hk : Num F.all s k) (hn : ∀ n, Fnd F.kt.es k n → vs.length ≤ n) : s ∉ (prsS F (.row vs)).map Prod.fst := by
  intro y
  have e : prsS F (.row vs) = _ := prsN_map F.all F.kt.es vs vs.length
  rw [e, List.map_map] at y
  obtain ⟨j, hj, h2⟩ := List.mem_map.1 y
  have hj' : j < vs.length := by simpa using hj
  have hjl : j < F.kt.es.length := by omega
  have := hn j ⟨hjl, dead_live hF.dead hjl, (name_key hF.nl hF.nd hk (nth_mem hjl)).1 h2⟩
  omega
theorem own_no {hs : ByteArray → Int} {F : Fa} {c : Nat} {t : Tb} (hF : F.Ok hs c) (hst : Nl hs F.all (liveL t.es)) {s : ByteArray} {k : Int} (hk : Num F.all s k) (hn : ∀ n, ¬ Fnd t.es k n) : s ∉ (prsS F (.own t)).map Prod.fst :=
  prs_no hst hF.nd hk (no_fnd hn)
theorem add_prs {hs : ByteArray → Int} {F : Fa} {t : Tb} (hst : Nl hs F.all (liveL t.es)) {s : ByteArray} {k : Int} (hk : Num F.all s k) (u v : Int) : prsO (alln F.all s k) (liveL (t.add u (numn F.all k) v).es) = prsO F.all (liveL t.es) ++ [(s, v)] := by
  obtain ⟨n, e1, e2⟩ := alln_at hk
  obtain ⟨r, hr⟩ := alln_pre F.all s k
  rw [Tb.add_es]
  have e : prsO (alln F.all s k) (liveL t.es ++ [⟨true, u, numn F.all k, v, (t.births : Int)⟩]) = prsO (alln F.all s k) (liveL t.es) ++ [(nmOf (alln F.all s k) (numn F.all k), v)] := by
    unfold prsO
    rw [List.map_append]
    rfl
  rw [e, e1, nmOf_at e2, hr, prsO_more hst r]
theorem setR_prs {hs : ByteArray → Int} {F : Fa} {s : ByteArray} {v : Int} {st : Stn} {F' : Fa} {st' : Stn} {er : Int} {dc dd c : Nat} (h : SetR hs F s v st F' st' er dc dd) (hF : F.Ok hs c) (hst : st.Ok hs F c) (hs3 : s.size ≤ 3000) (hc : c ≤ 90000) : MsR (prsS F st) s v F.most (prsS F' st') er := by
  have hle := (setR_ok h hF hst hs3 hc).2.2
  cases h with
  | @putR vs k n hk hn hl =>
    left
    have hvl : vs.length ≤ F.kt.es.length := hst
    have e1 : prsS F (.row vs) = _ := prsN_map F.all F.kt.es vs vs.length
    have e2 : prsS F (.row (vs.set n v)) = _ := prsN_map F.all F.kt.es (vs.set n v) (vs.set n v).length
    have hnm := (name_key hF.nl hF.nd hk (nth_mem hn.1)).2 hn.2.2
    have e3 : prsS F (.row (vs.set n v)) = (prsS F (.row vs)).set n (s, v) := by
      rw [e1, e2, List.length_set]
      apply List.ext_getElem (by simp)
      intro j h1 h2
      have hj : j < vs.length := by simpa using h1
      rw [List.getElem_set]
      simp only [List.getElem_map, List.getElem_range, List.getElem?_set]
      by_cases hjn : n = j
      · subst hjn
        simp [hj, hnm]
      · simp [hjn]
    have hlen : (prsS F (.row vs)).length = vs.length := prsN_len ..
    have hnp : n < (prsS F (.row vs)).length := by omega
    refine ⟨(prsS F (.row vs)).take n, vs[n]?.getD 0, (prsS F (.row vs)).drop (n + 1), ?_, ?_, rfl⟩
    · have e4 : (prsS F (.row vs))[n] = (s, vs[n]?.getD 0) := by
        simp only [e1, List.getElem_map, List.getElem_range, hnm]
      rw [← e4, ← List.drop_eq_getElem_cons hnp, List.take_append_drop]
    · rw [e3, List.set_eq_take_append_cons_drop, if_pos hnp]
  | @putO t k n hk hn =>
    left
    obtain ⟨h1, h2, h3, h4, h5⟩ := hst
    refine ⟨_, _, _, prs_at h2 hF.nd hk hn, ?_, rfl⟩
    have hnm := (name_key h2 hF.nd hk (live_mem hn.1 hn.2.1)).2 hn.2.2
    show prsO F.all (liveL (t.es.set n _)) = _
    rw [List.set_eq_take_append_cons_drop, if_pos hn.1, liveL_app, liveL, if_pos hn.2.1]
    unfold prsO
    rw [List.map_append, List.map_cons]
    show _ ++ (nmOf F.all (nth t.es n).key, v) :: _ = _
    rw [hnm]
  | @fullR vs k hk hn hm =>
    exact .inr (.inl ⟨row_no hF hst hk hn, by show _ ≤ (prsN ..).length; rw [prsN_len]; exact hm, rfl, rfl⟩)
  | @fullO t k hk hn hm =>
    obtain ⟨h1, h2, h3, h4, h5⟩ := hst
    exact .inr (.inl ⟨own_no hF h2 hk hn, by show _ ≤ (List.map _ _).length; rw [List.length_map]; have := liveL_len t.es; have e : t.live = t.es.length - deadN t.es := rfl; omega, rfl, rfl⟩)
  | @next vs k hk hn hm =>
    refine .inr (.inr ⟨row_no hF hst hk (fun n hn' => by rw [Nl.one (hs := hs) (all := F.all) (by rw [live_all hF.dead]; exact hF.nl) hn' hn]; omega), by show (prsN ..).length < _; rw [prsN_len]; exact hm, ?_, rfl⟩)
    have hnm := (name_key hF.nl hF.nd hk (nth_mem hn.1)).2 hn.2.2
    show prsN F.all F.kt.es (vs ++ [v]) (vs ++ [v]).length = prsN F.all F.kt.es vs vs.length ++ [(s, v)]
    rw [show (vs ++ [v]).length = vs.length + 1 by simp]
    show prsN F.all F.kt.es (vs ++ [v]) vs.length ++ [(nmOf F.all (nth F.kt.es vs.length).key, (vs ++ [v])[vs.length]?.getD 0)] = _
    rw [hnm, prsN_congr (vs' := vs) vs.length fun j hj => ⟨rfl, by rw [List.getElem?_append_left hj]⟩]
    simp
  | @new vs k hk hn hm hl hr =>
    refine .inr (.inr ⟨row_no hF hst hk (fun n hn' => absurd hn' (hn n)), by show (prsN ..).length < _; rw [prsN_len]; exact hm, ?_, rfl⟩)
    have hpre := prs_fle (st := .row vs) hF hst hle
    have hes := add_live hF.dead (hs s) (numn F.all k) 0
    obtain ⟨n, e1, e2⟩ := alln_at hk
    rw [← hpre]
    show prsN (alln F.all s k) (F.kt.add (hs s) (numn F.all k) 0).es (vs ++ [v]) (vs ++ [v]).length = prsN (alln F.all s k) (F.kt.add (hs s) (numn F.all k) 0).es vs vs.length ++ [(s, v)]
    rw [show (vs ++ [v]).length = vs.length + 1 by simp]
    show prsN (alln F.all s k) (F.kt.add (hs s) (numn F.all k) 0).es (vs ++ [v]) vs.length ++ [(nmOf (alln F.all s k) (nth (F.kt.add (hs s) (numn F.all k) 0).es vs.length).key, (vs ++ [v])[vs.length]?.getD 0)] = _
    have e3 : nth (F.kt.add (hs s) (numn F.all k) 0).es vs.length = ⟨true, hs s, numn F.all k, 0, (F.kt.births : Int)⟩ := by
      rw [hes, ← hl]
      unfold nth
      simp
    rw [e3, prsN_congr (vs' := vs) vs.length fun j hj => ⟨rfl, by rw [List.getElem?_append_left hj]⟩]
    show _ ++ [(nmOf (alln F.all s k) (numn F.all k), _)] = _
    rw [e1, nmOf_at e2]
    simp
  | @turn vs k hk hn hm hl =>
    obtain ⟨p1, p2⟩ := prs_tb (st := .row vs) hF hst
    refine .inr (.inr ⟨row_no hF hst hk (fun n hn' => by have := hn n hn'; omega), by show (prsN ..).length < _; rw [prsN_len]; exact hm, ?_, rfl⟩)
    rw [p1]
    exact add_prs p2 hk (hs s) v
  | @add t k hk hn hm =>
    obtain ⟨h1, h2, h3, h4, h5⟩ := hst
    refine .inr (.inr ⟨own_no hF h2 hk hn, by show (List.map _ _).length < _; rw [List.length_map]; have := liveL_len t.es; have e : t.live = t.es.length - deadN t.es := rfl; omega, ?_, rfl⟩)
    exact add_prs h2 hk (hs s) v
theorem kill_prs {all : List ByteArray} {t : Tb} {n : Nat} (hn : n < t.es.length) : prsO all (liveL (t.kill n).es) = prsO all (liveL (t.es.take n)) ++ prsO all (liveL (t.es.drop (n + 1))) := by
  show prsO all (liveL (t.es.set n (En.gone (nth t.es n).birth))) = _
  rw [liveL_set hn _ rfl]
  unfold prsO
  rw [List.map_append]
theorem turnN_key {es : List En} {vs : List Int} {i n : Nat} (h : n < i) (hi : i ≤ 1000) : (nth (turnN es vs i).es n).key = (nth es n).key := by
  have e := (turnN_is es vs i hi).2.2.2.2
  rw [live_all (turnN_all es vs i).2] at e
  rw [e]
  unfold nth
  simp [h]
theorem delR_prs {hs : ByteArray → Int} {F : Fa} {s : ByteArray} {st st' : Stn} {er : Int} {dd c : Nat} (h : DelR F s st st' er dd) (hF : F.Ok hs c) (hst : st.Ok hs F c) : MdR (prsS F st) s (prsS F st') er := by
  cases h with
  | noneR hk hn => exact .inr ⟨row_no hF hst hk hn, rfl, rfl⟩
  | noneO hk hn => exact .inr ⟨own_no hF hst.2.1 hk hn, rfl, rfl⟩
  | @turn vs k n hk hn hl =>
    obtain ⟨p1, p2⟩ := prs_tb (st := .row vs) hF hst
    have hvl : vs.length ≤ F.kt.es.length := hst
    have h256 : vs.length ≤ 256 := by have := hF.len; have := hF.room; omega
    obtain ⟨a1, a2⟩ := turnN_at F.kt.es vs hl
    rw [p1]
    exact .inl ⟨_, _, _, prs_at p2 hF.nd hk (n := n) ⟨a1, a2, (turnN_key hl (by omega)).trans hn.2.2⟩, kill_prs a1, rfl⟩
  | @kill t k n hk hn => exact .inl ⟨_, _, _, prs_at hst.2.1 hF.nd hk hn, kill_prs hn.1, rfl⟩
end Go.Proofs.YtpigbnlapcndgaaGreat
namespace Go.Proofs.YtpigbnlapcndgaaGreat
open Go.RowKit Go.WideShapes

theorem MsR.uniq {l : List (ByteArray × Int)} {s : ByteArray} {x : Int} {m : Nat} {l1 l2 : List (ByteArray × Int)} {e1 e2 : Int} (nd : (l.map Prod.fst).Nodup) (h1 : MsR l s x m l1 e1) (h2 : MsR l s x m l2 e2) : l1 = l2 ∧ e1 = e2 := by
  have hin : ∀ {A y B}, l = A ++ (s, y) :: B → s ∈ l.map Prod.fst := fun e => by rw [e]; simp
  rcases h1 with ⟨A, y, B, a1, a2, a3⟩ | ⟨a1, a2, a3, a4⟩ | ⟨a1, a2, a3, a4⟩ <;> rcases h2 with ⟨A', y', B', b1, b2, b3⟩ | ⟨b1, b2, b3, b4⟩ | ⟨b1, b2, b3, b4⟩
  · have e : A = A' ∧ B = B' := by
      have h := a1.symm.trans b1
      rw [a1] at nd
      have hA : A.length = A'.length := by
        rcases Nat.lt_trichotomy A.length A'.length with q | q | q
        · exfalso
          have g1 : (A ++ (s, y) :: B)[A.length]? = some (s, y) := by simp
          have g2 : (A ++ (s, y) :: B)[A'.length]? = some (s, y') := by rw [h]; simp
          have n1 := List.getElem?_map (f := Prod.fst) (l := A ++ (s, y) :: B) (i := A.length)
          have n2 := List.getElem?_map (f := Prod.fst) (l := A ++ (s, y) :: B) (i := A'.length)
          rw [g1] at n1
          rw [g2] at n2
          have := (List.getElem?_inj (by have := (List.getElem?_eq_some_iff.1 g1).1; rw [List.length_map]; exact this) nd).1 (n1.trans n2.symm)
          omega
        · exact q
        · exfalso
          have g1 : (A ++ (s, y) :: B)[A.length]? = some (s, y) := by simp
          have g2 : (A ++ (s, y) :: B)[A'.length]? = some (s, y') := by rw [h]; simp
          have n1 := List.getElem?_map (f := Prod.fst) (l := A ++ (s, y) :: B) (i := A.length)
          have n2 := List.getElem?_map (f := Prod.fst) (l := A ++ (s, y) :: B) (i := A'.length)
          rw [g1] at n1
          rw [g2] at n2
          have := (List.getElem?_inj (by have := (List.getElem?_eq_some_iff.1 g1).1; rw [List.length_map]; exact this) nd).1 (n1.trans n2.symm)
          omega
      obtain ⟨h1, h2⟩ := List.append_inj h hA
      exact ⟨h1, (List.cons.inj h2).2⟩
    exact ⟨by rw [a2, b2, e.1, e.2], by rw [a3, b3]⟩
  · exact absurd (hin a1) b1
  · exact absurd (hin a1) b1
  · exact absurd (hin b1) a1
  · exact ⟨by rw [a3, b3], by rw [a4, b4]⟩
  · omega
  · exact absurd (hin b1) a1
  · omega
  · exact ⟨by rw [a3, b3], by rw [a4, b4]⟩
theorem txt_ne {s t : ByteArray} (h : s ≠ t) : (s.toList == t.toList) = false := by
  rw [beq_eq_false_iff_ne]
  intro e
  rw [ByteArray.toList_eq, ByteArray.toList_eq] at e
  exact h (ByteArray.ext (Array.ext' e))
theorem psB_put {B : Nat} {w : World} {g n cap : Nat} {l : List (ByteArray × Int)} (hn : l.length = n) (h : PsB B w (.slice (some ⟨g, 0, none⟩) n cap) l) {i : Nat} (hi : i < n) (x : Int) : PsB B (w.setCell ⟨g, i * 2 + 1, none⟩ (.int .i64 x)) (.slice (some ⟨g, 0, none⟩) n cap) (l.take i ++ ((l[i]?.getD (ByteArray.empty, 0)).1, x) :: l.drop (i + 1)) ∧ l = l.take i ++ l[i]?.getD (ByteArray.empty, 0) :: l.drop (i + 1) := by
  subst hn
  have e1 : l = l.take i ++ l[i]?.getD (ByteArray.empty, 0) :: l.drop (i + 1) := by
    rw [List.getElem?_eq_getElem hi]
    show _ = _ ++ l[i] :: _
    rw [← List.drop_eq_getElem_cons hi, List.take_append_drop]
  refine ⟨?_, e1⟩
  have h2 := (World.ownsRow.stored h (i * 2 + 1) (.int .i64 x)).1
  unfold PsB
  have e2 : (l.take i ++ ((l[i]?.getD (ByteArray.empty, 0)).1, x) :: l.drop (i + 1)).length = l.length := by
    simp
    omega
  have e3 : pcl (l.take i ++ ((l[i]?.getD (ByteArray.empty, 0)).1, x) :: l.drop (i + 1)) = (pcl l).set (i * 2 + 1) (.int .i64 x) := by
    conv => rhs; rw [e1]
    rw [pcl_app, pcl_app]
    have e4 : (pcl (l.take i)).length = i * 2 := by rw [pcl_len, List.length_take, Nat.min_eq_left (by omega)]
    rw [List.set_append_right _ _ (by omega), e4, show i * 2 + 1 - i * 2 = 1 by omega]
    rfl
  rw [e2, e3]
  exact h2
set_option maxRecDepth 100000 in
set_option maxHeartbeats 1600000 in
theorem mset_any {B : Nat} {w : World} {v : Value} {l : List (ByteArray × Int)} (h : PsB B w v l) (hl : l.length ≤ 10000) (hB0 : B ≤ w.heap.size) (nm : ByteArray) (x : Int) (m : Nat) :
    Calls Tryz.prog 9 #[v, .string nm, .int .i64 x, .int .i64 (m : Int)] w fun e w' => ∃ v' l' er, e = .returned (.tuple #[v', .bool (decide (er = 0))]) ∧ MsR l nm x m l' er ∧ PsB B w' v' l' ∧ Ex (fun k => v.ownBlock = some k) w w' ∧ (v'.ownBlock = v.ownBlock ∨ ∃ k, w.heap.size ≤ k ∧ v'.ownBlock = some k) := by
  obtain ⟨i0, hi0, hz0, hz1, hz2⟩ := info_parts Tryz.infoPair
  have HP := Lib.hid h
  obtain ⟨av, cap, rfl, g, ha, hc⟩ := h.rd
  obtain ⟨n, hn⟩ : ∃ n, l.length = n := ⟨_, rfl⟩
  have HN := Lib.hid hn
  have HC := Lib.hid hc
  have HA := Lib.hid ha
  rw [hn] at HP HC HA hl ⊢
  clear h hc ha hn
  go_enter Tryz.func9, Tryz.ntmps9
  go_wp2_with fail
  go_loopw [10] (fun iv wr => ∃ i : Nat, i ≤ n ∧ iv = .int .i64 (i : Int) ∧ Below w.heap.size w wr ∧ ∀ j, j < i → (l[j]?.getD (ByteArray.empty, 0)).1 ≠ nm) (fun iv _ => n - (intOf iv).toNat)
  case atStart => exact ⟨0, Nat.zero_le _, rfl, Below.refl _ _, fun j hj => absurd hj (by omega)⟩
  case round =>
    obtain ⟨i, hi, rfl, hB, hnx⟩ := hrel
    by_cases hin : i < n
    · have ti : (i : Int) < (n : Int) := by omega
      have e1 := HA.out (by omega)
      subst e1
      obtain ⟨q1, r1⟩ := HC.out i hin
      have p1 : wr.cell? ⟨g, i * 2, none⟩ = some (.string (l[i]?.getD (ByteArray.empty, 0)).1) := (hB.cell (p := ⟨g, i * 2, none⟩) (lt_of_cell q1)).trans q1
      have p2 : wr.cell? ⟨g, i * 2 + 1, none⟩ = some (.int .i64 (l[i]?.getD (ByteArray.empty, 0)).2) := (hB.cell (p := ⟨g, i * 2 + 1, none⟩) (lt_of_cell r1)).trans r1
      have e5 : IntKind.i64.wrap ((i : Int) + 1) = ((i + 1 : Nat) : Int) := by rw [i64_small (by omega) (by omega)]; omega
      obtain ⟨sx, hsx⟩ : ∃ y, (l[i]?.getD (ByteArray.empty, 0)).1 = y := ⟨_, rfl⟩
      rw [hsx] at p1
      by_cases hs : sx = nm
      · subst hs
        have h2 := psB_put HN.out (own_keep HP.out hB) hin x
        have zf : wr.frozen? ⟨g, i * 2 + 1, none⟩ = false := by
          have h4 : wr.ownsRow B 48 2 (.slice (some ⟨g, 0, none⟩) n cap) n (pcl l) := by
            have := own_keep HP.out hB
            rw [HN.out] at this
            exact this
          exact h4.frozenAt _
        have HR : Hid (MsR l sx x m (l.take i ++ ((l[i]?.getD (ByteArray.empty, 0)).1, x) :: l.drop (i + 1)) 0 ∧ PsB B (wr.setCell ⟨g, i * 2 + 1, none⟩ (.int .i64 x)) (.slice (some ⟨g, 0, none⟩) n cap) (l.take i ++ ((l[i]?.getD (ByteArray.empty, 0)).1, x) :: l.drop (i + 1))) := by
          refine ⟨.inl ⟨_, (l[i]?.getD (ByteArray.empty, 0)).2, _, ?_, by rw [hsx], rfl⟩, h2.1⟩
          rw [← hsx]
          exact h2.2
        have HB := Lib.hid hB
        clear q1 r1 h2 hB
        go_wp2
        go_ret2
        refine ⟨_, _, 0, rfl, HR.out.1, HR.out.2, ?_, .inl rfl⟩
        exact Ex.setCell (X := fun k => (Value.slice (some ⟨g, 0, none⟩) n cap).ownBlock = some k) (ex_of HB.out) (p := ⟨g, i * 2 + 1, none⟩) (fun _ => rfl) _
      · have heq := txt_ne hs
        clear q1 r1
        go_wp2_with fail
        go_roundw
        case rel => exact ⟨i + 1, by omega, rfl, hB, fun j hj => by
          rcases Nat.lt_or_ge j i with y | y
          · exact hnx j y
          · have : j = i := by omega
            subst this
            rw [hsx]
            exact hs⟩
        case measure => simp [intOf]; omega
    · have ti : ¬ (i : Int) < (n : Int) := by omega
      have hno : nm ∉ l.map Prod.fst := by
        intro y
        obtain ⟨p, hp, rfl⟩ := List.mem_map.1 y
        obtain ⟨j, hj, rfl⟩ := List.getElem_of_mem hp
        refine hnx j (by have := HN.out; omega) ?_
        rw [List.getElem?_eq_getElem hj]
        rfl
      by_cases hfull : m ≤ n
      · have tf : (m : Int) ≤ (n : Int) := by omega
        go_wp2
        go_ret2
        exact ⟨_, l, 6, rfl, .inr (.inl ⟨hno, by rw [HN.out]; exact hfull, rfl, rfl⟩), own_keep HP.out hB, ex_of hB, .inl rfl⟩
      · have tf : ¬ (m : Int) ≤ (n : Int) := by omega
        obtain ⟨w1, hw1⟩ : ∃ y, wr.alloc (.cells #[.string nm, .int .i64 x] 48) = y := ⟨_, rfl⟩
        have hB1 : Below w.heap.size w w1 := by rw [← hw1]; exact hB.alloc hB.size _
        have hX1 : Blk w1 wr.heap.size 2 (fun j => #[Value.string nm, .int .i64 x].getD j .nilFunc) := by rw [← hw1]; exact Blk.new wr _ _
        have hP1 : PsB B w1 (.slice av n cap) l := own_keep HP.out hB1
        obtain ⟨v', w2, hap, hO2, hg2, _, hob⟩ := run_append_own_at (P := Tryz.prog) (w := w1) B 36 36 48 i0 (.agg #[.string ByteArray.empty, .int .i64 0]) 2 24 Tryz.underlying36 hi0 hz0 hz1 hz2 rfl (by omega) (.slice av n cap) l.length (pcl l) hP1 ⟨wr.heap.size, 0, none⟩ 1 1 [.string nm, .int .i64 x] rfl (fun j u hj => by
          have : j = 0 ∨ j = 1 := by have := (List.getElem?_eq_some_iff.1 hj).1; simp at this; omega
          rcases this with rfl | rfl
          · cases hj; exact hX1.c 0 (by omega)
          · cases hj; exact hX1.c 1 (by omega)) (pcl_one [(nm, x)]) (by rw [HN.out]; unfold maxLen; omega) (by rw [HN.out]; omega) (by have := hB1.size; omega)
        have HQ : Hid (PsB B w2 v' (l ++ [(nm, x)]) ∧ Ex (fun k => (Value.slice av n cap).ownBlock = some k) w w2 ∧ (v'.ownBlock = (Value.slice av n cap).ownBlock ∨ ∃ k, w.heap.size ≤ k ∧ v'.ownBlock = some k)) := by
          refine ⟨?_, ?_, ?_⟩
          · unfold PsB
            rw [pcl_app, List.length_append]
            exact hO2
          · have h0 : Ex (fun k => (Value.slice av n cap).ownBlock = some k) w w1 := ex_of hB1
            exact h0.next (Y := fun k => (Value.slice av n cap).ownBlock = some k) ⟨hg2.os, hg2.tape, hg2.output, hg2.size, fun k hk hy => hg2.block k hk (fun e => hy e.symm)⟩ fun k _ hk => hk
          · rcases hob with y | y
            · exact .inl y
            · exact .inr ⟨_, by have := hB1.size; omega, y⟩
        have HB := Lib.hid hB
        rw [← hw1] at hap
        have HAP := Lib.hid hap
        clear hap hw1 hB1 hX1 hP1 hO2 hg2 hob hB
        go_wp2_with (at_builtin; refine wpList_append_run rfl _ _ 36 36 rfl _ _ _ rfl rfl HAP.out ?_)
        go_ret2
        exact ⟨v', l ++ [(nm, x)], 0, rfl, .inr (.inr ⟨hno, by rw [HN.out]; omega, rfl, rfl⟩), HQ.out.1, HQ.out.2.1, HQ.out.2.2⟩
end Go.Proofs.YtpigbnlapcndgaaGreat
namespace Go.Proofs.YtpigbnlapcndgaaGreat
open Go.RowKit Go.WideShapes

theorem MdR.uniq {l : List (ByteArray × Int)} {s : ByteArray} {l1 l2 : List (ByteArray × Int)} {e1 e2 : Int} (nd : (l.map Prod.fst).Nodup) (h1 : MdR l s l1 e1) (h2 : MdR l s l2 e2) : l1 = l2 ∧ e1 = e2 := by
  have hin : ∀ {A y B}, l = A ++ (s, y) :: B → s ∈ l.map Prod.fst := fun e => by rw [e]; simp
  rcases h1 with ⟨A, y, B, a1, a2, a3⟩ | ⟨a1, a3, a4⟩ <;> rcases h2 with ⟨A', y', B', b1, b2, b3⟩ | ⟨b1, b3, b4⟩
  · have g1 : (A ++ (s, y) :: B)[A.length]? = some (s, y) := by simp
    have h := a1.symm.trans b1
    have g2 : (A ++ (s, y) :: B)[A'.length]? = some (s, y') := by rw [h]; simp
    rw [a1] at nd
    have n1 := List.getElem?_map (f := Prod.fst) (l := A ++ (s, y) :: B) (i := A.length)
    have n2 := List.getElem?_map (f := Prod.fst) (l := A ++ (s, y) :: B) (i := A'.length)
    rw [g1] at n1
    rw [g2] at n2
    have hA := (List.getElem?_inj (by have := (List.getElem?_eq_some_iff.1 g1).1; rw [List.length_map]; exact this) nd).1 (n1.trans n2.symm)
    obtain ⟨q1, q2⟩ := List.append_inj h hA
    exact ⟨by rw [a2, b2, q1, (List.cons.inj q2).2], by rw [a3, b3]⟩
  · exact absurd (hin a1) b1
  · exact absurd (hin b1) a1
  · exact ⟨by rw [a3, b3], by rw [a4, b4]⟩
theorem psB_cut {B : Nat} {w : World} {g n cap : Nat} {l : List (ByteArray × Int)} (hn : l.length = n) (h : PsB B w (.slice (some ⟨g, 0, none⟩) n cap) l) {i : Nat} (hi : i < n) : (∀ j u, (pcl (l.take i))[j]? = some u → w.cell? ((⟨g, 0, none⟩ : Addr).add j) = some u) ∧ (∀ j u, (pcl (l.drop (i + 1)))[j]? = some u → w.cell? ((⟨g, (i + 1) * 2, none⟩ : Addr).add j) = some u) := by
  subst hn
  have hc : ∀ j, j < l.length * 2 → w.cell? ⟨g, j, none⟩ = (pcl l)[j]? := fun j hj => World.ownsRow.cellAt h j hj
  have e1 : pcl l = pcl (l.take i) ++ pcl (l.drop i) := by rw [← pcl_app, List.take_append_drop]
  have e2 : pcl l = pcl (l.take (i + 1)) ++ pcl (l.drop (i + 1)) := by rw [← pcl_app, List.take_append_drop]
  have l1 : (pcl (l.take i)).length = i * 2 := by rw [pcl_len, List.length_take, Nat.min_eq_left (by omega)]
  have l2 : (pcl (l.take (i + 1))).length = (i + 1) * 2 := by rw [pcl_len, List.length_take, Nat.min_eq_left (by omega)]
  have l3 : (pcl (l.drop (i + 1))).length = (l.length - (i + 1)) * 2 := by rw [pcl_len, List.length_drop]
  refine ⟨fun j u hj => ?_, fun j u hj => ?_⟩
  · have hl := (List.getElem?_eq_some_iff.1 hj).1
    have ea : (⟨g, 0, none⟩ : Addr).add j = ⟨g, j, none⟩ := by by_cases hj0 : j = 0 <;> simp [Addr.add, hj0]
    rw [ea, hc j (by omega), e1, List.getElem?_append_left hl, hj]
  · have hl := (List.getElem?_eq_some_iff.1 hj).1
    have ea : (⟨g, (i + 1) * 2, none⟩ : Addr).add j = ⟨g, (i + 1) * 2 + j, none⟩ := by simp [Addr.add]
    rw [ea, hc _ (by omega), e2, List.getElem?_append_right (by omega), l2, show (i + 1) * 2 + j - (i + 1) * 2 = j by omega, hj]
set_option maxRecDepth 100000 in
set_option maxHeartbeats 1600000 in
theorem mdel_any {B : Nat} {w : World} {v : Value} {l : List (ByteArray × Int)} (h : PsB B w v l) (hl : l.length ≤ 10000) (nm : ByteArray) :
    Calls Tryz.prog 11 #[v, .string nm] w fun e w' => ∃ v' l' er, e = .returned (.tuple #[v', .bool (decide (er = 0))]) ∧ MdR l nm l' er ∧ (v' = v ∧ l' = l ∨ PsB w.heap.size w' v' l') ∧ Below w.heap.size w w' := by
  obtain ⟨i0, hi0, hz0, hz1, hz2⟩ := info_parts Tryz.infoPair
  have HP := Lib.hid h
  obtain ⟨av, cap, rfl, g, ha, hc⟩ := h.rd
  obtain ⟨n, hn⟩ : ∃ n, l.length = n := ⟨_, rfl⟩
  have HN := Lib.hid hn
  have HC := Lib.hid hc
  have HA := Lib.hid ha
  rw [hn] at HP HC HA hl ⊢
  clear h hc ha hn
  go_enter Tryz.func11, Tryz.ntmps11
  go_wp2_with fail
  go_loopw [6] (fun iv wr => ∃ i : Nat, i ≤ n ∧ iv = .int .i64 (i : Int) ∧ Below w.heap.size w wr ∧ ∀ j, j < i → (l[j]?.getD (ByteArray.empty, 0)).1 ≠ nm) (fun iv _ => n - (intOf iv).toNat)
  case atStart => exact ⟨0, Nat.zero_le _, rfl, Below.refl _ _, fun j hj => absurd hj (by omega)⟩
  case round =>
    obtain ⟨i, hi, rfl, hB, hnx⟩ := hrel
    by_cases hin : i < n
    · have ti : (i : Int) < (n : Int) := by omega
      have e1 := HA.out (by omega)
      subst e1
      obtain ⟨q1, r1⟩ := HC.out i hin
      have p1 : wr.cell? ⟨g, i * 2, none⟩ = some (.string (l[i]?.getD (ByteArray.empty, 0)).1) := (hB.cell (p := ⟨g, i * 2, none⟩) (lt_of_cell q1)).trans q1
      have e5 : IntKind.i64.wrap ((i : Int) + 1) = ((i + 1 : Nat) : Int) := by rw [i64_small (by omega) (by omega)]; omega
      obtain ⟨sx, hsx⟩ : ∃ y, (l[i]?.getD (ByteArray.empty, 0)).1 = y := ⟨_, rfl⟩
      rw [hsx] at p1
      by_cases hs : sx = nm
      · subst hs
        have hsp := (psB_put HN.out (own_keep HP.out hB) hin 0).2
        have hP1 : PsB B wr (.slice (some ⟨g, 0, none⟩) n cap) l := own_keep HP.out hB
        have hnc : n ≤ cap := by
          rcases hP1.2 with ⟨e, _⟩ | ⟨g', cap', cur, e, h1, h2, h3, h4, h5, h6⟩
          · cases e
          · injection e with _ _ e3
            omega
        have hll := HN.out
        obtain ⟨v1, w1, hap1, hO1, hg1, _, hob1⟩ := run_append_own_at (P := Tryz.prog) (w := wr) w.heap.size 36 36 48 i0 (.agg #[.string ByteArray.empty, .int .i64 0]) 2 24 Tryz.underlying36 hi0 hz0 hz1 hz2 rfl (by omega) (.slice none 0 0) 0 [] (World.ownsRow_nil _ _ _ _) ⟨g, 0, none⟩ i cap (pcl (l.take i)) (by rw [pcl_len, List.length_take, Nat.min_eq_left (by omega)]) (psB_cut hll hP1 hin).1 (pcl_one _) (by unfold maxLen; omega) (by omega) hB.size
        have hB1 : Below w.heap.size w w1 := hB.grown hg1 hB.size (fun k e => by cases e)
        have hP2 : PsB B w1 (.slice (some ⟨g, 0, none⟩) n cap) l := own_keep HP.out hB1
        obtain ⟨ad, had, hcl⟩ : ∃ ad : Addr, (if cap = i + 1 then some (⟨g, 0, none⟩ : Addr) else some ⟨g, (i + 1) * 2, none⟩) = some ad ∧ ∀ j u, (pcl (l.drop (i + 1)))[j]? = some u → w1.cell? (ad.add j) = some u := by
          by_cases hci : cap = i + 1
          · refine ⟨⟨g, 0, none⟩, by rw [if_pos hci], fun j u hj => ?_⟩
            rw [List.drop_eq_nil_of_le (by omega)] at hj
            simp [pcl] at hj
          · exact ⟨⟨g, (i + 1) * 2, none⟩, by rw [if_neg hci], (psB_cut hll hP2 hin).2⟩
        obtain ⟨v2, w2, hap2, hO2, hg2, _, hob2⟩ := run_append_own_at (P := Tryz.prog) (w := w1) w.heap.size 36 36 48 i0 (.agg #[.string ByteArray.empty, .int .i64 0]) 2 24 Tryz.underlying36 hi0 hz0 hz1 hz2 rfl (by omega) v1 _ _ hO1 ad (n - (i + 1)) (cap - (i + 1)) (pcl (l.drop (i + 1))) (by rw [pcl_len, List.length_drop, hll]) hcl (pcl_one _) (by unfold maxLen; omega) (by omega) hB1.size
        have hB2 : Below w.heap.size w w2 := hB1.grown hg2 hB1.size (fun k e => by have := World.ownsRow.lt hO1 k e; omega)
        have HR : Hid (MdR l sx (l.take i ++ l.drop (i + 1)) 0 ∧ PsB w.heap.size w2 v2 (l.take i ++ l.drop (i + 1)) ∧ Below w.heap.size w w2) := by
          refine ⟨.inl ⟨_, (l[i]?.getD (ByteArray.empty, 0)).2, _, ?_, rfl, rfl⟩, ?_, hB2⟩
          · rw [← hsx]
            exact hsp
          · unfold PsB
            rw [pcl_app, List.length_append, List.length_take, List.length_drop, hll, Nat.min_eq_left (by omega)]
            rw [Nat.zero_add, List.nil_append] at hO2
            exact hO2
        have HAP1 := Lib.hid hap1
        have HAD := Lib.hid had
        have HAP2 := Lib.hid hap2
        clear q1 r1 hsp hP1 hP2 hO1 hO2 hg1 hg2 hob1 hob2 hB1 hB2 hB hap1 hap2 hll had hcl
        go_upto_region 7 with (at_builtin; refine wpList_append_run rfl _ _ 36 36 rfl _ _ _ rfl rfl HAP1.out ?_)
        go_wp2_with (at_builtin; refine wpList_append_run rfl _ _ 36 36 rfl _ (.slice (some ad) (n - (i + 1)) (cap - (i + 1))) _ rfl (by rw [← HAD.out]; rfl) HAP2.out ?_)
        all_goals
          go_ret2
          exact ⟨_, _, 0, rfl, HR.out.1, .inr HR.out.2.1, HR.out.2.2⟩
      · have heq := txt_ne hs
        clear q1 r1
        go_wp2_with fail
        go_roundw
        case rel => exact ⟨i + 1, by omega, rfl, hB, fun j hj => by
          rcases Nat.lt_or_ge j i with y | y
          · exact hnx j y
          · have : j = i := by omega
            subst this
            rw [hsx]
            exact hs⟩
        case measure => simp [intOf]; omega
    · have ti : ¬ (i : Int) < (n : Int) := by omega
      have hno : nm ∉ l.map Prod.fst := by
        intro y
        obtain ⟨p, hp, rfl⟩ := List.mem_map.1 y
        obtain ⟨j, hj, rfl⟩ := List.getElem_of_mem hp
        refine hnx j (by have := HN.out; omega) ?_
        rw [List.getElem?_eq_getElem hj]
        rfl
      go_wp2
      go_ret2
      exact ⟨_, l, 7, rfl, .inr ⟨hno, rfl, rfl⟩, .inl ⟨rfl, rfl⟩, hB⟩
end Go.Proofs.YtpigbnlapcndgaaGreat
