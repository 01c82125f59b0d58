/-
  What a Set and a Del keep. No program.
-/
import Derived.Test.YtmgachknfeamkaaGreatShMath
namespace Go.Proofs.YtmgachknfeamkaaGreat

theorem add_live {t : Tb} (hd : deadN t.es = 0) (u k v : Int) : (t.add u k v).es = t.es ++ [⟨true, u, k, v, (t.births : Int)⟩] := by
  unfold Tb.add
  by_cases e : t.es.length < rm (2 ^ t.L)
  · rw [if_pos e]
    rfl
  · rw [if_neg e]
    show liveL t.es ++ _ = _
    rw [live_all hd]
    rfl
theorem dead_app {es : List En} (hd : deadN es = 0) (e : En) (he : e.live = true) : deadN (es ++ [e]) = 0 := by
  rw [deadN_app, hd]
  simp [deadN, he]
/-- A family that has grown. -/
structure Fle (F F' : Fa) : Prop where
  all : ∃ r, F'.all = F.all ++ r
  es : ∃ r, F'.kt.es = F.kt.es ++ r
  room : F'.room = F.room
  most : F'.most = F.most
theorem Fle.refl (F : Fa) : Fle F F := ⟨⟨[], by simp⟩, ⟨[], by simp⟩, rfl, rfl⟩
theorem Fle.trans {F G H : Fa} (a : Fle F G) (b : Fle G H) : Fle F H := by
  obtain ⟨r, h1⟩ := a.all
  obtain ⟨r', h2⟩ := b.all
  obtain ⟨s, h3⟩ := a.es
  obtain ⟨s', h4⟩ := b.es
  exact ⟨⟨r ++ r', by rw [h2, h1, List.append_assoc]⟩, ⟨s ++ s', by rw [h4, h3, List.append_assoc]⟩, b.room.trans a.room, b.most.trans a.most⟩
theorem Stn.Ok.le {hs : ByteArray → Int} {F F' : Fa} {c c' : Nat} {st : Stn} (h : st.Ok hs F c) (hl : Fle F F') (hc : c ≤ c') : st.Ok hs F' c' := by
  cases st with
  | row vs =>
    obtain ⟨r, hr⟩ := hl.es
    have h' : vs.length ≤ F.kt.es.length := h
    show vs.length ≤ F'.kt.es.length
    rw [hr, List.length_append]
    omega
  | own t =>
    obtain ⟨h1, h2, h3, h4, h5⟩ := h
    obtain ⟨r, hr⟩ := hl.all
    exact ⟨h1, by rw [hr]; exact h2.more r, by omega, by omega, by omega⟩
theorem Fa.Ok.le {hs : ByteArray → Int} {F : Fa} {c c' : Nat} (h : F.Ok hs c) (hc : c ≤ c') : F.Ok hs c' := ⟨h.nd, h.ok, h.nl, h.dead, h.len, h.room, h.most, by have := h.names; omega, by have := h.births; omega, by have := h.made; omega, by have := h.turn; omega, h.wide⟩
/-- The names with one more. -/
theorem Fa.Ok.name {hs : ByteArray → Int} {F : Fa} {c : Nat} (h : F.Ok hs c) {s : ByteArray} {k : Int} (hk : Num F.all s k) (hs3 : s.size ≤ 3000) : ({ F with all := alln F.all s k } : Fa).Ok hs (c + 1) := by
  obtain ⟨r, hr⟩ := alln_pre F.all s k
  refine ⟨alln_nodup h.nd hk, h.ok, ?_, h.dead, h.len, h.room, h.most, ?_, by show F.kt.births ≤ _; have := h.births; omega, by show F.kt.made ≤ _; have := h.made; omega, by show F.kt.turn ≤ _; have := h.turn; omega, ?_⟩
  · show Nl hs (alln F.all s k) F.kt.es
    rw [hr]
    exact h.nl.more r
  · show (alln F.all s k).length ≤ _
    have := alln_len F.all s k
    have := h.names
    omega
  · intro x hx
    have hx' : x ∈ alln F.all s k := hx
    unfold alln at hx'
    by_cases c1 : k = -1
    · rw [if_pos c1] at hx'
      rcases List.mem_append.1 hx' with y | y
      · exact h.wide x y
      · rw [List.mem_singleton.1 y]; exact hs3
    · rw [if_neg c1] at hx'
      exact h.wide x hx'
theorem name_le (F : Fa) (s : ByteArray) (k : Int) : Fle F { F with all := alln F.all s k } := ⟨alln_pre F.all s k, ⟨[], by simp⟩, rfl, rfl⟩
theorem setR_ok {hs : ByteArray → Int} {F : Fa} {s : ByteArray} {v : Int} {st : Stn} {F' : Fa} {st' : Stn} {er : Int} {dc dd c : Nat} (h : SetR hs F s v st F' st' er dc dd) (hF : F.Ok hs c) (hst : st.Ok hs F c) (hs3 : s.size ≤ 3000) (hc : c ≤ 90000) : F'.Ok hs (c + 1) ∧ st'.Ok hs F' (c + 1) ∧ Fle F F' := by
  cases h with
  | putR hk hn hl => exact ⟨hF.le (by omega), by show (List.set _ _ _).length ≤ _; rw [List.length_set]; exact hst, Fle.refl _⟩
  | @putO t k n hk hn =>
    obtain ⟨h1, h2, h3, h4, h5⟩ := hst
    refine ⟨hF.le (by omega), ⟨h1.putv n hn.1 hn.2.1 v, ?_, by show t.births ≤ _; omega, by show t.made ≤ _; omega, by show t.turn ≤ _; omega⟩, Fle.refl _⟩
    have hc1 := liveL_cut hn.1 hn.2.1
    have hls : liveL (t.putv n v).es = liveL (t.es.take n) ++ (⟨(nth t.es n).live, (nth t.es n).hash, (nth t.es n).key, v, (nth t.es n).birth⟩ : En) :: liveL (t.es.drop (n + 1)) := by
      show liveL (t.es.set n _) = _
      rw [List.set_eq_take_append_cons_drop, if_pos hn.1, liveL_app, liveL, if_pos hn.2.1]
    rw [hls]
    rw [hc1] at h2
    refine ⟨fun e he => ?_, by have := h2.nd; simpa using this⟩
    rcases List.mem_append.1 he with y | y
    · exact h2.nm e (List.mem_append_left _ y)
    · rcases List.mem_cons.1 y with z | z
      · obtain ⟨k', s', q1, q2, q3⟩ := h2.nm (nth t.es n) (List.mem_append_right _ (List.mem_cons_self ..))
        rw [z]
        exact ⟨k', s', q1, q2, q3⟩
      · exact h2.nm e (List.mem_append_right _ (List.mem_cons_of_mem _ z))
  | fullR hk hn hm => exact ⟨hF.le (by omega), hst, Fle.refl _⟩
  | fullO hk hn hm => exact ⟨hF.le (by omega), hst.le (Fle.refl _) (by omega), Fle.refl _⟩
  | @next vs k hk hn hm =>
    refine ⟨hF.le (by omega), ?_, Fle.refl _⟩
    show (vs ++ [v]).length ≤ F.kt.es.length
    have := hn.1
    simp
    omega
  | @new vs k hk hn hm hl hr =>
    have hN := hF.name hk hs3
    obtain ⟨n, e1, e2⟩ := alln_at hk
    have hes := add_live hF.dead (hs s) (numn F.all k) 0
    have a := F.kt.add_rest (hs s) (numn F.all k) 0
    have hfl := live_all hF.dead
    have hno : ∀ e ∈ F.kt.es, e.key ≠ k := by have := no_fnd hn; rw [hfl] at this; exact this
    have hnn := numn_new hF.nl hno
    refine ⟨⟨hN.nd, hF.ok.add _ _ _ (by have := hF.births; omega), ?_, ?_, ?_, hF.room, hF.most, hN.names, by show (F.kt.add _ _ _).births ≤ _; have := hF.births; omega, by show (F.kt.add _ _ _).made ≤ _; have := hF.made; omega, by show (F.kt.add _ _ _).turn ≤ _; have := hF.turn; omega, hN.wide⟩, ?_, ⟨alln_pre F.all s k, ⟨_, hes⟩, rfl, rfl⟩⟩
    · show Nl hs (alln F.all s k) (F.kt.add (hs s) (numn F.all k) 0).es
      rw [hes, e1]
      exact hN.nl.add e2 (fun e he => by rw [← e1]; exact hnn e he) _ _
    · show deadN (F.kt.add (hs s) (numn F.all k) 0).es = 0
      rw [hes]
      exact dead_app hF.dead _ rfl
    · show (F.kt.add (hs s) (numn F.all k) 0).es.length ≤ F.room
      rw [hes, List.length_append]
      simp
      omega
    · show (vs ++ [v]).length ≤ (F.kt.add (hs s) (numn F.all k) 0).es.length
      rw [hes]
      simp
      omega
  | @turn vs k hk hn hm hl =>
    have hN := hF.name hk hs3
    have hvl : vs.length ≤ F.kt.es.length := hst
    have h256 : vs.length ≤ 256 := by have := hF.len; have := hF.room; omega
    obtain ⟨n, e1, e2⟩ := alln_at hk
    obtain ⟨t1, t2, t3, t4, t5⟩ := turnN_is F.kt.es vs vs.length (by omega)
    have a := (turnN F.kt.es vs vs.length).add_rest (hs s) (numn F.all k) v
    have hnl := turnN_nl hF.nl vs hvl (by omega)
    have hbl : vs.length ≤ c := by have := hF.ok.few; have := hF.births; omega
    refine ⟨hN, ⟨t1.add _ _ _ (by omega), ?_, by omega, by omega, by omega⟩, name_le F s k⟩
    rw [Tb.add_es, e1]
    obtain ⟨r, hr⟩ := alln_pre F.all s k
    have hnl' : Nl hs (alln F.all s k) (liveL (turnN F.kt.es vs vs.length).es) := by rw [hr]; exact hnl.more r
    refine hnl'.add e2 (fun e he => ?_) _ _
    rw [← e1]
    refine numn_new hnl (fun e he => ?_) e he
    rw [t5] at he
    obtain ⟨j, hj, rfl⟩ := List.mem_map.1 he
    have hj' : j < vs.length := by simpa using hj
    intro hkey
    have := hn j ⟨by omega, dead_live hF.dead (by omega), hkey⟩
    omega
  | @add t k hk hn hm =>
    obtain ⟨h1, h2, h3, h4, h5⟩ := hst
    have hN := hF.name hk hs3
    obtain ⟨n, e1, e2⟩ := alln_at hk
    have a := t.add_rest (hs s) (numn F.all k) v
    refine ⟨hN, ⟨h1.add _ _ _ (by omega), ?_, by omega, by omega, by omega⟩, name_le F s k⟩
    rw [Tb.add_es, e1]
    obtain ⟨r, hr⟩ := alln_pre F.all s k
    have hnl' : Nl hs (alln F.all s k) (liveL t.es) := by rw [hr]; exact h2.more r
    exact hnl'.add e2 (fun e he => by rw [← e1]; exact numn_new h2 (no_fnd hn) e he) _ _
/-- A new family. -/
theorem fa_new (hs : ByteArray → Int) {room most : Nat} (hr : room ≤ 256) (hm : most ≤ 65536) : (⟨[], Tb.new, room, most⟩ : Fa).Ok hs 0 :=
  ⟨List.nodup_nil, Tb.new_ok, Nl.nil _ _, rfl, Nat.zero_le _, hr, hm, Nat.le_refl _, Nat.le_refl _, Nat.le_refl _, Nat.le_refl _, fun _ h => by cases h⟩
end Go.Proofs.YtmgachknfeamkaaGreat
