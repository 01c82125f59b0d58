/-
  Names, their numbers, and tables of them; what a Set and a Del make of a namespace. No program.
-/
import Derived.Test.YtpigbnlapcndgaaGreatLdMath
import Derived.Test.YtpigbnlapcndgaaGreatPrr
namespace Go.Proofs.YtpigbnlapcndgaaGreat

/-- k is a name's number: -1 where it has none. -/
def Num (all : List ByteArray) (s : ByteArray) (k : Int) : Prop := (∃ n : Nat, k = (n : Int) ∧ all[n]? = some s) ∨ (k = -1 ∧ s ∉ all)
theorem num_ex (all : List ByteArray) (s : ByteArray) : ∃ k, Num all s k := by
  by_cases h : s ∈ all
  · obtain ⟨n, hn, he⟩ := List.getElem_of_mem h
    exact ⟨n, .inl ⟨n, rfl, by rw [List.getElem?_eq_getElem hn, he]⟩⟩
  · exact ⟨-1, .inr ⟨rfl, h⟩⟩
theorem Num.lt {all : List ByteArray} {s : ByteArray} {k : Int} (h : Num all s k) : -1 ≤ k ∧ k < (all.length : Int) := by
  rcases h with ⟨n, rfl, h⟩ | ⟨rfl, _⟩
  · have := (List.getElem?_eq_some_iff.1 h).1
    omega
  · omega
theorem nodup_idx {α : Type} {l : List α} (h : l.Nodup) {i j : Nat} {x : α} (hi : l[i]? = some x) (hj : l[j]? = some x) : i = j := by
  obtain ⟨hil, hix⟩ := List.getElem?_eq_some_iff.1 hi
  obtain ⟨hjl, hjx⟩ := List.getElem?_eq_some_iff.1 hj
  rw [List.Nodup, List.pairwise_iff_getElem] at h
  rcases Nat.lt_trichotomy i j with c | c | c
  · exact absurd (hix.trans hjx.symm) (h i j hil hjl c)
  · exact c
  · exact absurd (hjx.trans hix.symm) (h j i hjl hil c)
theorem Num.uniq {all : List ByteArray} {s : ByteArray} {k k' : Int} (nd : all.Nodup) (a : Num all s k) (b : Num all s k') : k = k' := by
  rcases a with ⟨n, rfl, ha⟩ | ⟨rfl, ha⟩ <;> rcases b with ⟨m, rfl, hb⟩ | ⟨rfl, hb⟩
  · rw [nodup_idx nd ha hb]
  · exact absurd (List.mem_of_getElem? ha) hb
  · exact absurd (List.mem_of_getElem? hb) ha
  · rfl
/-- The name of a number. -/
def nmOf (all : List ByteArray) (k : Int) : ByteArray := (all[k.toNat]?).getD ByteArray.empty
theorem nmOf_at {all : List ByteArray} {k : Nat} {s : ByteArray} (h : all[k]? = some s) : nmOf all (k : Int) = s := by
  unfold nmOf
  rw [Int.toNat_natCast, h]
  rfl
/-- Live entries of a table of names. -/
structure Nl (hs : ByteArray → Int) (all : List ByteArray) (l : List En) : Prop where
  nm : ∀ e ∈ l, ∃ (k : Nat) (s : ByteArray), all[k]? = some s ∧ e.key = (k : Int) ∧ e.hash = hs s
  nd : (l.map En.key).Nodup
theorem Nl.nil (hs : ByteArray → Int) (all : List ByteArray) : Nl hs all [] := ⟨fun _ h => by simp at h, by simp⟩
theorem Nl.more {hs : ByteArray → Int} {all : List ByteArray} {l : List En} (h : Nl hs all l) (r : List ByteArray) : Nl hs (all ++ r) l := by
  refine ⟨fun e he => ?_, h.nd⟩
  obtain ⟨k, s, h1, h2, h3⟩ := h.nm e he
  exact ⟨k, s, by rw [List.getElem?_append_left (List.getElem?_eq_some_iff.1 h1).1]; exact h1, h2, h3⟩
theorem Nl.add {hs : ByteArray → Int} {all : List ByteArray} {l : List En} (h : Nl hs all l) {k : Nat} {s : ByteArray} (hk : all[k]? = some s) (hn : ∀ e ∈ l, e.key ≠ (k : Int)) (v b : Int) : Nl hs all (l ++ [⟨true, hs s, (k : Int), v, b⟩]) := by
  refine ⟨fun e he => ?_, ?_⟩
  · rcases List.mem_append.1 he with x | x
    · exact h.nm e x
    · rw [List.mem_singleton.1 x]
      exact ⟨k, s, hk, rfl, rfl⟩
  · rw [List.map_append, List.nodup_append]
    refine ⟨h.nd, by simp, fun a ha b hb => ?_⟩
    obtain ⟨e, he, rfl⟩ := List.mem_map.1 ha
    have : b = (k : Int) := by simpa using hb
    rw [this]
    exact hn e he
theorem Nl.sub {hs : ByteArray → Int} {all : List ByteArray} {l l' : List En} (h : Nl hs all l) (hs' : l'.Sublist l) : Nl hs all l' := ⟨fun e he => h.nm e (hs'.subset he), h.nd.sublist (hs'.map _)⟩
/-- The entry of a number. -/
def Fnd (es : List En) (k : Int) (n : Nat) : Prop := n < es.length ∧ (nth es n).live = true ∧ (nth es n).key = k
theorem live_mem {es : List En} {n : Nat} (h : n < es.length) (hl : (nth es n).live = true) : nth es n ∈ liveL es := by rw [liveL_cut h hl]; simp
theorem Nl.one {hs : ByteArray → Int} {all : List ByteArray} {es : List En} (h : Nl hs all (liveL es)) {n m : Nat} {k : Int} (a : Fnd es k n) (b : Fnd es k m) : n = m := by
  have ha := nth_live a.1 a.2.1
  have hb := nth_live b.1 b.2.1
  have la : cntL es n < (liveL es).length := by
    have h1 := cntL_le es (i := n + 1) (j := es.length) a.1
    have h2 : cntL es (n + 1) = cntL es n + if (nth es n).live = true then 1 else 0 := rfl
    rw [if_pos a.2.1] at h2
    rw [cntL_all] at h1
    omega
  have lb : cntL es m < (liveL es).length := by
    have h1 := cntL_le es (i := m + 1) (j := es.length) b.1
    have h2 : cntL es (m + 1) = cntL es m + if (nth es m).live = true then 1 else 0 := rfl
    rw [if_pos b.2.1] at h2
    rw [cntL_all] at h1
    omega
  have ka : ((liveL es).map En.key)[cntL es n]? = some k := by
    rw [List.getElem?_map, List.getElem?_eq_getElem la]
    unfold nth at ha
    rw [List.getD_eq_getElem?_getD, List.getElem?_eq_getElem la] at ha
    rw [show (liveL es)[cntL es n] = nth es n from ha]
    exact congrArg some a.2.2
  have kb : ((liveL es).map En.key)[cntL es m]? = some k := by
    rw [List.getElem?_map, List.getElem?_eq_getElem lb]
    unfold nth at hb
    rw [List.getD_eq_getElem?_getD, List.getElem?_eq_getElem lb] at hb
    rw [show (liveL es)[cntL es m] = nth es m from hb]
    exact congrArg some b.2.2
  exact cntL_inj a.2.1 b.2.1 (nodup_idx h.nd ka kb)
/-- The entry of a name's number lies on the name's trail. -/
theorem Nl.of {hs : ByteArray → Int} {all : List ByteArray} {es : List En} (h : Nl hs all (liveL es)) {s : ByteArray} {k : Int} (hk : Num all s k) {n : Nat} (a : Fnd es k n) : Of es (hs s) n := by
  obtain ⟨k', s', h1, h2, h3⟩ := h.nm _ (live_mem a.1 a.2.1)
  refine ⟨a.1, a.2.1, ?_⟩
  rw [h3]
  have e := h2.symm.trans a.2.2
  rcases hk with ⟨m, rfl, hm⟩ | ⟨rfl, _⟩
  · have : k' = m := by omega
    rw [this, hm] at h1
    injection h1 with h1
    rw [h1]
  · omega
/-- The names with a name more, if it has no number k; its number then. -/
def alln (all : List ByteArray) (s : ByteArray) (k : Int) : List ByteArray := if k = -1 then all ++ [s] else all
def numn (all : List ByteArray) (k : Int) : Int := if k = -1 then (all.length : Int) else k
theorem alln_at {all : List ByteArray} {s : ByteArray} {k : Int} (h : Num all s k) : ∃ n : Nat, numn all k = (n : Int) ∧ (alln all s k)[n]? = some s := by
  unfold alln numn
  rcases h with ⟨n, rfl, h⟩ | ⟨rfl, _⟩
  · rw [if_neg (by omega), if_neg (by omega)]
    exact ⟨n, rfl, h⟩
  · rw [if_pos rfl, if_pos rfl]
    exact ⟨all.length, rfl, by simp⟩
theorem alln_pre (all : List ByteArray) (s : ByteArray) (k : Int) : ∃ r, alln all s k = all ++ r := by
  unfold alln
  by_cases h : k = -1
  · rw [if_pos h]; exact ⟨_, rfl⟩
  · rw [if_neg h]; exact ⟨[], by simp⟩
theorem alln_nodup {all : List ByteArray} {s : ByteArray} {k : Int} (nd : all.Nodup) (h : Num all s k) : (alln all s k).Nodup := by
  unfold alln
  rcases h with ⟨n, rfl, h⟩ | ⟨rfl, h⟩
  · rw [if_neg (by omega)]; exact nd
  · rw [if_pos rfl, List.nodup_append]
    exact ⟨nd, by simp, fun a ha b hb => by rw [List.mem_singleton.1 hb]; exact fun e => h (e ▸ ha)⟩
theorem alln_len (all : List ByteArray) (s : ByteArray) (k : Int) : (alln all s k).length ≤ all.length + 1 := by
  unfold alln
  by_cases h : k = -1
  · rw [if_pos h]; simp
  · rw [if_neg h]; omega
/-- No entry has a number that no entry has had. -/
theorem numn_new {hs : ByteArray → Int} {all : List ByteArray} {l : List En} (h : Nl hs all l) {k : Int} (hn : ∀ e ∈ l, e.key ≠ k) : ∀ e ∈ l, e.key ≠ numn all k := by
  intro e he
  unfold numn
  by_cases c : k = -1
  · rw [if_pos c]
    obtain ⟨k', s', h1, h2, _⟩ := h.nm e he
    have := (List.getElem?_eq_some_iff.1 h1).1
    omega
  · rw [if_neg c]
    exact hn e he
theorem no_fnd {es : List En} {k : Int} (h : ∀ n, ¬ Fnd es k n) : ∀ e ∈ liveL es, e.key ≠ k := by
  intro e he hk
  obtain ⟨n, hn, hx⟩ := nth_index (mem_liveL he)
  exact h n ⟨hn, by rw [hx]; exact liveL_live es e he, by rw [hx]; exact hk⟩
/-- A family: its names by their numbers, its key table, how many names that and a namespace may have. -/
structure Fa where
  all : List ByteArray
  kt : Tb
  room : Nat
  most : Nat
structure Fa.Ok (hs : ByteArray → Int) (F : Fa) (c : Nat) : Prop where
  nd : F.all.Nodup
  ok : F.kt.Ok
  nl : Nl hs F.all F.kt.es
  dead : deadN F.kt.es = 0
  len : F.kt.es.length ≤ F.room
  room : F.room ≤ 256
  most : F.most ≤ 65536
  names : F.all.length ≤ c
  births : F.kt.births ≤ c
  made : F.kt.made ≤ c + 1
  turn : F.kt.turn ≤ c
  wide : ∀ s ∈ F.all, s.size ≤ 3000
/-- How a namespace stands: a row of values, or a table of its own. -/
inductive Stn where
  | row (vs : List Int)
  | own (t : Tb)
def Stn.Ok (hs : ByteArray → Int) (F : Fa) (c : Nat) : Stn → Prop
  | .row vs => vs.length ≤ F.kt.es.length
  | .own t => t.Ok ∧ Nl hs F.all (liveL t.es) ∧ t.births ≤ c ∧ t.made ≤ c + 1 ∧ t.turn ≤ c
theorem live_all {es : List En} (h : deadN es = 0) : liveL es = es := by
  induction es with
  | nil => rfl
  | cons e r ih =>
    unfold deadN at h
    rw [liveL]
    by_cases he : e.live = true
    · rw [if_pos he, ih (by omega)]
    · rw [if_neg (by simpa using he)] at h
      omega
theorem dead_live {es : List En} (h : deadN es = 0) {n : Nat} (hn : n < es.length) : (nth es n).live = true := by
  have := liveL_live es (nth es n) (by rw [live_all h]; exact nth_mem hn)
  exact this
/-- The table that a row is turned into. -/
noncomputable def turnN (es : List En) (vs : List Int) : Nat → Tb
  | 0 => Tb.new
  | i + 1 => (turnN es vs i).add (nth es i).hash (nth es i).key (vs[i]?.getD 0)
theorem turnN_is (es : List En) (vs : List Int) : ∀ i, i ≤ 1000 → (turnN es vs i).Ok ∧ (turnN es vs i).births = i ∧ (turnN es vs i).made ≤ i + 1 ∧ (turnN es vs i).turn = i ∧ liveL (turnN es vs i).es = (List.range i).map (fun j => ⟨true, (nth es j).hash, (nth es j).key, vs[j]?.getD 0, (j : Int)⟩) := by
  intro i
  induction i with
  | zero => intro _; exact ⟨Tb.new_ok, rfl, Nat.le_refl _, rfl, rfl⟩
  | succ i ih =>
    intro hi
    obtain ⟨h1, h2, h3, h4, h5⟩ := ih (by omega)
    have a := (turnN es vs i).add_rest (nth es i).hash (nth es i).key (vs[i]?.getD 0)
    refine ⟨h1.add _ _ _ (by omega), ?_, ?_, ?_, ?_⟩
    · show ((turnN es vs i).add _ _ _).births = _
      rw [a.1, h2]
    · show ((turnN es vs i).add _ _ _).made ≤ _
      have := a.2.1
      omega
    · show ((turnN es vs i).add _ _ _).turn = _
      rw [a.2.2.2, h4]
    · show liveL ((turnN es vs i).add _ _ _).es = _
      rw [Tb.add_es, h5, h2, List.range_succ, List.map_append]
      rfl
theorem turnN_nl {hs : ByteArray → Int} {all : List ByteArray} {es : List En} (h : Nl hs all es) (vs : List Int) {i : Nat} (hi : i ≤ es.length) (hi2 : i ≤ 1000) : Nl hs all (liveL (turnN es vs i).es) := by
  rw [(turnN_is es vs i hi2).2.2.2.2]
  refine ⟨fun e he => ?_, ?_⟩
  · obtain ⟨j, hj, rfl⟩ := List.mem_map.1 he
    have hj' : j < i := by simpa using hj
    obtain ⟨k, s, a, b, c⟩ := h.nm _ (nth_mem (show j < es.length by omega))
    exact ⟨k, s, a, b, c⟩
  · rw [List.map_map]
    have e : (List.range i).map (En.key ∘ fun j => (⟨true, (nth es j).hash, (nth es j).key, vs[j]?.getD 0, (j : Int)⟩ : En)) = (es.take i).map En.key := by
      apply List.ext_getElem (by simp; omega)
      intro j h1 h2
      have hj : j < es.length := by simp at h2; omega
      simp only [List.getElem_map, List.getElem_range, Function.comp, List.getElem_take]
      unfold nth
      rw [List.getD_eq_getElem?_getD, List.getElem?_eq_getElem hj]
      rfl
    rw [e]
    exact h.nd.sublist ((List.take_sublist _ _).map _)
/-- What a Set does: what it answers, how many values it charges and namespaces it turns. -/
inductive SetR (hs : ByteArray → Int) (F : Fa) (s : ByteArray) (v : Int) : Stn → Fa → Stn → Int → Nat → Nat → Prop
  | putR {vs : List Int} {k : Int} {n : Nat} (hk : Num F.all s k) (hn : Fnd F.kt.es k n) (hl : n < vs.length) : SetR hs F s v (.row vs) F (.row (vs.set n v)) 0 0 0
  | putO {t : Tb} {k : Int} {n : Nat} (hk : Num F.all s k) (hn : Fnd t.es k n) : SetR hs F s v (.own t) F (.own (t.putv n v)) 0 0 0
  | fullR {vs : List Int} {k : Int} (hk : Num F.all s k) (hn : ∀ n, Fnd F.kt.es k n → vs.length ≤ n) (hm : F.most ≤ vs.length) : SetR hs F s v (.row vs) F (.row vs) 6 0 0
  | fullO {t : Tb} {k : Int} (hk : Num F.all s k) (hn : ∀ n, ¬ Fnd t.es k n) (hm : F.most ≤ t.live) : SetR hs F s v (.own t) F (.own t) 6 0 0
  | next {vs : List Int} {k : Int} (hk : Num F.all s k) (hn : Fnd F.kt.es k vs.length) (hm : vs.length < F.most) : SetR hs F s v (.row vs) F (.row (vs ++ [v])) 0 1 0
  | new {vs : List Int} {k : Int} (hk : Num F.all s k) (hn : ∀ n, ¬ Fnd F.kt.es k n) (hm : vs.length < F.most) (hl : F.kt.es.length = vs.length) (hr : vs.length < F.room) :
      SetR hs F s v (.row vs) { F with all := alln F.all s k, kt := F.kt.add (hs s) (numn F.all k) 0 } (.row (vs ++ [v])) 0 1 0
  | turn {vs : List Int} {k : Int} (hk : Num F.all s k) (hn : ∀ n, Fnd F.kt.es k n → vs.length < n) (hm : vs.length < F.most) (hl : ¬ (F.kt.es.length = vs.length ∧ vs.length < F.room)) :
      SetR hs F s v (.row vs) { F with all := alln F.all s k } (.own ((turnN F.kt.es vs vs.length).add (hs s) (numn F.all k) v)) 0 0 1
  | add {t : Tb} {k : Int} (hk : Num F.all s k) (hn : ∀ n, ¬ Fnd t.es k n) (hm : t.live < F.most) :
      SetR hs F s v (.own t) { F with all := alln F.all s k } (.own (t.add (hs s) (numn F.all k) v)) 0 0 0
/-- What a Del does. -/
inductive DelR (F : Fa) (s : ByteArray) : Stn → Stn → Int → Nat → Prop
  | noneR {vs : List Int} {k : Int} (hk : Num F.all s k) (hn : ∀ n, Fnd F.kt.es k n → vs.length ≤ n) : DelR F s (.row vs) (.row vs) 7 0
  | noneO {t : Tb} {k : Int} (hk : Num F.all s k) (hn : ∀ n, ¬ Fnd t.es k n) : DelR F s (.own t) (.own t) 7 0
  | turn {vs : List Int} {k : Int} {n : Nat} (hk : Num F.all s k) (hn : Fnd F.kt.es k n) (hl : n < vs.length) : DelR F s (.row vs) (.own ((turnN F.kt.es vs vs.length).kill n)) 0 1
  | kill {t : Tb} {k : Int} {n : Nat} (hk : Num F.all s k) (hn : Fnd t.es k n) : DelR F s (.own t) (.own (t.kill n)) 0 0
end Go.Proofs.YtpigbnlapcndgaaGreat
