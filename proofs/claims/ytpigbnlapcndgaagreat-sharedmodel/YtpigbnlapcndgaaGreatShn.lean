/-
  What a Set and a Del keep. No program.
  New, Make; what a namespace tells: Len, Version, Shared, Get; a meter that is none.
-/
import Derived.Test.YtpigbnlapcndgaaGreatShMath
import Derived.Test.YtpigbnlapcndgaaGreatShSet
import Derived.Carry
namespace Go.Proofs.YtpigbnlapcndgaaGreat

theorem add_live {t : Tb} (hd : deadN t.es = 0) (u k v : Int) : (t.add u k v).es = t.es ++ [⟨true, u, k, v, (t.births : Int)⟩] := by
  unfold Tb.add
  by_cases e : t.es.length < rm (2 ^ t.L)
  · rw [if_pos e]
    rfl
  · rw [if_neg e]
    show liveL t.es ++ _ = _
    rw [live_all hd]
    rfl
theorem dead_app {es : List En} (hd : deadN es = 0) (e : En) (he : e.live = true) : deadN (es ++ [e]) = 0 := by
  rw [deadN_app, hd]
  simp [deadN, he]
/-- A family that has grown. -/
structure Fle (F F' : Fa) : Prop where
  all : ∃ r, F'.all = F.all ++ r
  es : ∃ r, F'.kt.es = F.kt.es ++ r
  room : F'.room = F.room
  most : F'.most = F.most
theorem Fle.refl (F : Fa) : Fle F F := ⟨⟨[], by simp⟩, ⟨[], by simp⟩, rfl, rfl⟩
theorem Fle.trans {F G H : Fa} (a : Fle F G) (b : Fle G H) : Fle F H := by
  obtain ⟨r, h1⟩ := a.all
  obtain ⟨r', h2⟩ := b.all
  obtain ⟨s, h3⟩ := a.es
  obtain ⟨s', h4⟩ := b.es
  exact ⟨⟨r ++ r', by rw [h2, h1, List.append_assoc]⟩, ⟨s ++ s', by rw [h4, h3, List.append_assoc]⟩, b.room.trans a.room, b.most.trans a.most⟩
theorem Stn.Ok.le {hs : ByteArray → Int} {F F' : Fa} {c c' : Nat} {st : Stn} (h : st.Ok hs F c) (hl : Fle F F') (hc : c ≤ c') : st.Ok hs F' c' := by
  cases st with
  | row vs =>
    obtain ⟨r, hr⟩ := hl.es
    have h' : vs.length ≤ F.kt.es.length := h
    show vs.length ≤ F'.kt.es.length
    rw [hr, List.length_append]
    omega
  | own t =>
    obtain ⟨h1, h2, h3, h4, h5⟩ := h
    obtain ⟨r, hr⟩ := hl.all
    exact ⟨h1, by rw [hr]; exact h2.more r, by omega, by omega, by omega⟩
theorem Fa.Ok.le {hs : ByteArray → Int} {F : Fa} {c c' : Nat} (h : F.Ok hs c) (hc : c ≤ c') : F.Ok hs c' := ⟨h.nd, h.ok, h.nl, h.dead, h.len, h.room, h.most, by have := h.names; omega, by have := h.births; omega, by have := h.made; omega, by have := h.turn; omega, h.wide⟩
/-- The names with one more. -/
theorem Fa.Ok.name {hs : ByteArray → Int} {F : Fa} {c : Nat} (h : F.Ok hs c) {s : ByteArray} {k : Int} (hk : Num F.all s k) (hs3 : s.size ≤ 3000) : ({ F with all := alln F.all s k } : Fa).Ok hs (c + 1) := by
  obtain ⟨r, hr⟩ := alln_pre F.all s k
  refine ⟨alln_nodup h.nd hk, h.ok, ?_, h.dead, h.len, h.room, h.most, ?_, by show F.kt.births ≤ _; have := h.births; omega, by show F.kt.made ≤ _; have := h.made; omega, by show F.kt.turn ≤ _; have := h.turn; omega, ?_⟩
  · show Nl hs (alln F.all s k) F.kt.es
    rw [hr]
    exact h.nl.more r
  · show (alln F.all s k).length ≤ _
    have := alln_len F.all s k
    have := h.names
    omega
  · intro x hx
    have hx' : x ∈ alln F.all s k := hx
    unfold alln at hx'
    by_cases c1 : k = -1
    · rw [if_pos c1] at hx'
      rcases List.mem_append.1 hx' with y | y
      · exact h.wide x y
      · rw [List.mem_singleton.1 y]; exact hs3
    · rw [if_neg c1] at hx'
      exact h.wide x hx'
theorem name_le (F : Fa) (s : ByteArray) (k : Int) : Fle F { F with all := alln F.all s k } := ⟨alln_pre F.all s k, ⟨[], by simp⟩, rfl, rfl⟩
theorem setR_ok {hs : ByteArray → Int} {F : Fa} {s : ByteArray} {v : Int} {st : Stn} {F' : Fa} {st' : Stn} {er : Int} {dc dd c : Nat} (h : SetR hs F s v st F' st' er dc dd) (hF : F.Ok hs c) (hst : st.Ok hs F c) (hs3 : s.size ≤ 3000) (hc : c ≤ 90000) : F'.Ok hs (c + 1) ∧ st'.Ok hs F' (c + 1) ∧ Fle F F' := by
  cases h with
  | putR hk hn hl => exact ⟨hF.le (by omega), by show (List.set _ _ _).length ≤ _; rw [List.length_set]; exact hst, Fle.refl _⟩
  | @putO t k n hk hn =>
    obtain ⟨h1, h2, h3, h4, h5⟩ := hst
    refine ⟨hF.le (by omega), ⟨h1.putv n hn.1 hn.2.1 v, ?_, by show t.births ≤ _; omega, by show t.made ≤ _; omega, by show t.turn ≤ _; omega⟩, Fle.refl _⟩
    have hc1 := liveL_cut hn.1 hn.2.1
    have hls : liveL (t.putv n v).es = liveL (t.es.take n) ++ (⟨(nth t.es n).live, (nth t.es n).hash, (nth t.es n).key, v, (nth t.es n).birth⟩ : En) :: liveL (t.es.drop (n + 1)) := by
      show liveL (t.es.set n _) = _
      rw [List.set_eq_take_append_cons_drop, if_pos hn.1, liveL_app, liveL, if_pos hn.2.1]
    rw [hls]
    rw [hc1] at h2
    refine ⟨fun e he => ?_, by have := h2.nd; simpa using this⟩
    rcases List.mem_append.1 he with y | y
    · exact h2.nm e (List.mem_append_left _ y)
    · rcases List.mem_cons.1 y with z | z
      · obtain ⟨k', s', q1, q2, q3⟩ := h2.nm (nth t.es n) (List.mem_append_right _ (List.mem_cons_self ..))
        rw [z]
        exact ⟨k', s', q1, q2, q3⟩
      · exact h2.nm e (List.mem_append_right _ (List.mem_cons_of_mem _ z))
  | fullR hk hn hm => exact ⟨hF.le (by omega), hst, Fle.refl _⟩
  | fullO hk hn hm => exact ⟨hF.le (by omega), hst.le (Fle.refl _) (by omega), Fle.refl _⟩
  | @next vs k hk hn hm =>
    refine ⟨hF.le (by omega), ?_, Fle.refl _⟩
    show (vs ++ [v]).length ≤ F.kt.es.length
    have := hn.1
    simp
    omega
  | @new vs k hk hn hm hl hr =>
    have hN := hF.name hk hs3
    obtain ⟨n, e1, e2⟩ := alln_at hk
    have hes := add_live hF.dead (hs s) (numn F.all k) 0
    have a := F.kt.add_rest (hs s) (numn F.all k) 0
    have hfl := live_all hF.dead
    have hno : ∀ e ∈ F.kt.es, e.key ≠ k := by have := no_fnd hn; rw [hfl] at this; exact this
    have hnn := numn_new hF.nl hno
    refine ⟨⟨hN.nd, hF.ok.add _ _ _ (by have := hF.births; omega), ?_, ?_, ?_, hF.room, hF.most, hN.names, by show (F.kt.add _ _ _).births ≤ _; have := hF.births; omega, by show (F.kt.add _ _ _).made ≤ _; have := hF.made; omega, by show (F.kt.add _ _ _).turn ≤ _; have := hF.turn; omega, hN.wide⟩, ?_, ⟨alln_pre F.all s k, ⟨_, hes⟩, rfl, rfl⟩⟩
    · show Nl hs (alln F.all s k) (F.kt.add (hs s) (numn F.all k) 0).es
      rw [hes, e1]
      exact hN.nl.add e2 (fun e he => by rw [← e1]; exact hnn e he) _ _
    · show deadN (F.kt.add (hs s) (numn F.all k) 0).es = 0
      rw [hes]
      exact dead_app hF.dead _ rfl
    · show (F.kt.add (hs s) (numn F.all k) 0).es.length ≤ F.room
      rw [hes, List.length_append]
      simp
      omega
    · show (vs ++ [v]).length ≤ (F.kt.add (hs s) (numn F.all k) 0).es.length
      rw [hes]
      simp
      omega
  | @turn vs k hk hn hm hl =>
    have hN := hF.name hk hs3
    have hvl : vs.length ≤ F.kt.es.length := hst
    have h256 : vs.length ≤ 256 := by have := hF.len; have := hF.room; omega
    obtain ⟨n, e1, e2⟩ := alln_at hk
    obtain ⟨t1, t2, t3, t4, t5⟩ := turnN_is F.kt.es vs vs.length (by omega)
    have a := (turnN F.kt.es vs vs.length).add_rest (hs s) (numn F.all k) v
    have hnl := turnN_nl hF.nl vs hvl (by omega)
    have hbl : vs.length ≤ c := by have := hF.ok.few; have := hF.births; omega
    refine ⟨hN, ⟨t1.add _ _ _ (by omega), ?_, by omega, by omega, by omega⟩, name_le F s k⟩
    rw [Tb.add_es, e1]
    obtain ⟨r, hr⟩ := alln_pre F.all s k
    have hnl' : Nl hs (alln F.all s k) (liveL (turnN F.kt.es vs vs.length).es) := by rw [hr]; exact hnl.more r
    refine hnl'.add e2 (fun e he => ?_) _ _
    rw [← e1]
    refine numn_new hnl (fun e he => ?_) e he
    rw [t5] at he
    obtain ⟨j, hj, rfl⟩ := List.mem_map.1 he
    have hj' : j < vs.length := by simpa using hj
    intro hkey
    have := hn j ⟨by omega, dead_live hF.dead (by omega), hkey⟩
    omega
  | @add t k hk hn hm =>
    obtain ⟨h1, h2, h3, h4, h5⟩ := hst
    have hN := hF.name hk hs3
    obtain ⟨n, e1, e2⟩ := alln_at hk
    have a := t.add_rest (hs s) (numn F.all k) v
    refine ⟨hN, ⟨h1.add _ _ _ (by omega), ?_, by omega, by omega, by omega⟩, name_le F s k⟩
    rw [Tb.add_es, e1]
    obtain ⟨r, hr⟩ := alln_pre F.all s k
    have hnl' : Nl hs (alln F.all s k) (liveL t.es) := by rw [hr]; exact h2.more r
    exact hnl'.add e2 (fun e he => by rw [← e1]; exact numn_new h2 (no_fnd hn) e he) _ _
/-- A new family. -/
theorem fa_new (hs : ByteArray → Int) {room most : Nat} (hr : room ≤ 256) (hm : most ≤ 65536) : (⟨[], Tb.new, room, most⟩ : Fa).Ok hs 0 :=
  ⟨List.nodup_nil, Tb.new_ok, Nl.nil _ _, rfl, Nat.zero_le _, hr, hm, Nat.le_refl _, Nat.le_refl _, Nat.le_refl _, Nat.le_refl _, fun _ h => by cases h⟩
end Go.Proofs.YtpigbnlapcndgaaGreat
namespace Go.Proofs.YtpigbnlapcndgaaGreat
open Go.RowKit Go.WideShapes

set_option maxRecDepth 100000 in
set_option maxHeartbeats 1600000 in
theorem scount_nil (k n : Int) (w : World) :
    Calls Tryz.prog 53 #[.pointer none, .int .i64 k, .int .i64 n] w fun e w' => e = .returned (.tuple #[]) ∧ w' = w := by
  go_enter_defers Tryz.func53, Tryz.ntmps53
  go_wp2_with fail
  exact ⟨_, results_none rfl _ _ _, rfl, rfl⟩
theorem stable_nil (w : World) : Calls Tryz.prog 42 #[.pointer none] w fun e w' => e = .returned (.tuple #[]) ∧ w' = w := by
  go_enter Tryz.func42, Tryz.ntmps42
  go_wp2_with fail
  refine (scount_nil 0 1 w).mono ?_
  rintro e w' ⟨rfl, rfl⟩
  go_wp2
  go_end0
  exact ⟨rfl, rfl⟩
theorem svisit_nil (n : Int) (w : World) : Calls Tryz.prog 49 #[.pointer none, .int .i64 n] w fun e w' => e = .returned (.tuple #[]) ∧ w' = w := by
  go_enter Tryz.func49, Tryz.ntmps49
  go_wp2_with fail
  refine (scount_nil 1 n w).mono ?_
  rintro e w' ⟨rfl, rfl⟩
  go_wp2
  go_end0
  exact ⟨rfl, rfl⟩
theorem scharge_nil (n : Int) (w : World) : Calls Tryz.prog 111 #[.pointer none, .int .i64 n] w fun e w' => e = .returned (.tuple #[]) ∧ w' = w := by
  go_enter Tryz.func111, Tryz.ntmps111
  go_wp2_with fail
  refine (scount_nil 2 n w).mono ?_
  rintro e w' ⟨rfl, rfl⟩
  go_wp2
  go_end0
  exact ⟨rfl, rfl⟩
theorem sturn_nil (w : World) : Calls Tryz.prog 114 #[.pointer none] w fun e w' => e = .returned (.tuple #[]) ∧ w' = w := by
  go_enter Tryz.func114, Tryz.ntmps114
  go_wp2_with fail
  refine (scount_nil 3 1 w).mono ?_
  rintro e w' ⟨rfl, rfl⟩
  go_wp2
  go_end0
  exact ⟨rfl, rfl⟩
def no4 : Int → Int → Int → Int → World → Prop := fun _ _ _ _ _ => True
theorem m4_nil : M4 (.pointer none) no4 where
  mt c d := ⟨fun a b w _ _ _ => (stable_nil w).mono fun e w' ⟨h1, h2⟩ => ⟨h1, trivial, by rw [h2]; exact Ex.refl _ _⟩, fun _ _ _ _ _ _ => trivial, fun a b w k _ h => by cases h⟩
  vi c d := fun a b w _ _ _ => (svisit_nil 1 w).mono fun e w' ⟨h1, h2⟩ => ⟨h1, trivial, by rw [h2]; exact Ex.refl _ _⟩
  ch := fun a b c d w _ _ _ => (scharge_nil 1 w).mono fun e w' ⟨h1, h2⟩ => ⟨h1, trivial, by rw [h2]; exact Ex.refl _ _⟩
  tu := fun a b c d w _ _ _ => (sturn_nil w).mono fun e w' ⟨h1, h2⟩ => ⟨h1, trivial, by rw [h2]; exact Ex.refl _ _⟩
theorem noMet {k : Nat} (h : mB (.pointer none) k) : False := by cases h
set_option maxRecDepth 100000 in
theorem shnew_no {w : World} {pm : Option Addr} (room most : Int) (h : ¬ (0 ≤ room ∧ room ≤ 256 ∧ 0 ≤ most ∧ most ≤ 65536)) :
    Calls Tryz.prog 6 #[.int .i64 room, .int .i64 most, .pointer pm] w fun e w' => e = .returned (.tuple #[.pointer none, .int .i64 1]) ∧ w' = w := by
  by_cases h1 : room < 0
  · go_enter Tryz.func6, Tryz.ntmps6
    go_wp2
    exact bodyPost_ret (v := .tuple #[.pointer none, .int .i64 1]) (by simp [results, Tryz.results6, go_sem]) rfl ⟨rfl, rfl⟩
  · by_cases h2 : 256 < room
    · go_enter Tryz.func6, Tryz.ntmps6
      go_wp2
      exact bodyPost_ret (v := .tuple #[.pointer none, .int .i64 1]) (by simp [results, Tryz.results6, go_sem]) rfl ⟨rfl, rfl⟩
    · by_cases h3 : most < 0
      · go_enter Tryz.func6, Tryz.ntmps6
        go_wp2
        exact bodyPost_ret (v := .tuple #[.pointer none, .int .i64 1]) (by simp [results, Tryz.results6, go_sem]) rfl ⟨rfl, rfl⟩
      · have h4 : 65536 < most := by omega
        go_enter Tryz.func6, Tryz.ntmps6
        go_wp2
        exact bodyPost_ret (v := .tuple #[.pointer none, .int .i64 1]) (by simp [results, Tryz.results6, go_sem]) rfl ⟨rfl, rfl⟩
set_option maxRecDepth 100000 in
set_option maxHeartbeats 1600000 in
theorem shnew_any {w : World} {pm : Option Addr} {N : Int → Int → Int → Int → World → Prop} {a b c d : Int} (hM4 : M4 (.pointer pm) N) (hM : N a b c d w) (ha : 0 ≤ a ∧ a ≤ 100000000) (room most : Nat) (hr : room ≤ 256) (hm : most ≤ 65536) :
    Calls Tryz.prog 6 #[.int .i64 (room : Int), .int .i64 (most : Int), .pointer pm] w fun e w' => ∃ f XF, e = .returned (.tuple #[.pointer (some ⟨f, 0, none⟩), .int .i64 0]) ∧ FamX w' f ⟨[], Tb.new, room, most⟩ (.pointer pm) XF ∧ (∀ k, XF k → w.heap.size ≤ k) ∧ N (a + 1) b c d w' ∧ Ex (mB (.pointer pm)) w w' := by
  have t1 : ¬ (room : Int) < 0 := by omega
  have t2 : ¬ (256 : Int) < (room : Int) := by omega
  have t3 : ¬ (most : Int) < 0 := by omega
  have t4 : ¬ (65536 : Int) < (most : Int) := by omega
  have CN := new7_any (hM4.mt c d) hM ⟨ha.1, by omega⟩
  have HM4 := Lib.hid hM4
  have HM := Lib.hid hM
  clear hM4 hM
  have hmm := @run_makeMap Tryz.prog
  go_enter Tryz.func6, Tryz.ntmps6
  go_wp2_with fail
  refine CN.mono ?_
  rintro e w1 ⟨g, gi, r, h, rfl, hg, hgi, hr', hh, hD, hM1, hx1⟩
  clear CN
  have hs1 := hx1.size
  obtain ⟨w2, hw2⟩ : ∃ y, w1.alloc (.map #[] 0) = y := ⟨_, rfl⟩
  obtain ⟨w3, hw3⟩ : ∃ y, w2.alloc (.cells #[.pointer pm, .pointer (some ⟨g, 0, none⟩), .int .i64 (room : Int), .int .i64 (most : Int), .map (some w1.heap.size), .slice none 0 0] 58) = y := ⟨_, rfl⟩
  have hB2 : Below w1.heap.size w1 w2 := by rw [← hw2]; exact (Below.refl _ w1).alloc (Nat.le_refl _) _
  have hs2 : w2.heap.size = w1.heap.size + 1 := by rw [← hw2]; simp
  have hB3 : Below w2.heap.size w2 w3 := by rw [← hw3]; exact (Below.refl _ w2).alloc (Nat.le_refl _) _
  have hNm : Nm w3 w1.heap.size [] := by
    have h1 : Nm w2 w1.heap.size [] := by rw [← hw2]; exact Nm.new w1
    exact h1.same (hB3.block _ (by omega))
  have hF3 : Blk w3 w2.heap.size 6 (fF (.pointer pm) g room most w1.heap.size (.slice none 0 0)) := by
    rw [← hw3]
    refine (Blk.new w2 _ _).congr fun j hj => ?_
    have : j = 0 ∨ j = 1 ∨ j = 2 ∨ j = 3 ∨ j = 4 ∨ j = 5 := by simp at hj; omega
    rcases this with rfl | rfl | rfl | rfl | rfl | rfl <;> rfl
  have hB13 : Below w1.heap.size w1 w3 := hB2.trans (hB3.mono (by omega))
  have hdl := hD.lt
  have HF : Hid (FamX w3 w2.heap.size ⟨[], Tb.new, room, most⟩ (.pointer pm) (fX w2.heap.size g gi r h (.slice none 0 0) w1.heap.size (.slice none 0 0)) ∧ (∀ k, fX w2.heap.size g gi r h (.slice none 0 0) w1.heap.size (.slice none 0 0) k → w.heap.size ≤ k) ∧ N (a + 1) b c d w3 ∧ Ex (mB (.pointer pm)) w w3) := by
    refine ⟨⟨g, gi, r, h, _, w1.heap.size, _, ⟨⟨hF3, hNm, Ns.nil _, by omega, fun k hk => by cases hk⟩, hD.below hB13, ?_, ?_⟩, rfl⟩, ?_, (HM4.out.mt c d).below hM1 hB13, hx1.trans (ex_of hB13)⟩
    · rintro k (y | y | y) z
      · have := hdl k z; omega
      · have := hdl k z; omega
      · cases y
    · rintro k hk (y | y | y)
      · have := (HM4.out.mt c d).lt _ _ _ _ HM.out hk; omega
      · have := (HM4.out.mt c d).lt _ _ _ _ HM.out hk; omega
      · cases y
    · rintro k ((y | y | y) | (y | y | y | y | y))
      · omega
      · omega
      · cases y
      · omega
      · omega
      · omega
      · omega
      · cases y
  have HW2 := Lib.hid hw2
  have HW3 := Lib.hid hw3
  have HS2 := Lib.hid hs2
  clear hw2 hw3 hB2 hB3 hNm hF3 hB13 hdl hD hM1 hx1 hs2
  go_upto_region 4 with fail
  rw [HW2.out, HW3.out]
  go_wp2
  exact bodyPost_ret (v := .tuple #[.pointer (some ⟨w2.heap.size, 0, none⟩), .int .i64 0]) (by simp [results, Tryz.results6, go_sem]; exact HS2.out.symm) rfl ⟨_, _, rfl, HF.out.1, HF.out.2.1, HF.out.2.2.1, HF.out.2.2.2⟩
set_option maxRecDepth 100000 in
theorem make_any {w : World} {f : Nat} {F : Fa} {mv : Value} {XF : Nat → Prop} (hF : FamX w f F mv XF) (hm : ∀ k, mB mv k → k < w.heap.size) :
    Calls Tryz.prog 7 #[.pointer (some ⟨f, 0, none⟩)] w fun e w' => ∃ s XS, e = .returned (.pointer (some ⟨s, 0, none⟩)) ∧ Fs w' f F mv XF s (.row []) 0 XS ∧ (∀ k, XS k → w.heap.size ≤ k) ∧ Below w.heap.size w w' := by
  have h1 := eqFa f
  obtain ⟨w1, hw1⟩ : ∃ y, w.alloc (.cells #[.pointer (some ⟨f, 0, none⟩), .slice none 0 0] 61) = y := ⟨_, rfl⟩
  obtain ⟨w2, hw2⟩ : ∃ y, w1.alloc (.cells #[.pointer (some ⟨f, 0, none⟩), .iface 59 (.pointer (some ⟨w.heap.size, 0, none⟩)), .int .u64 0] 66) = y := ⟨_, rfl⟩
  have hB1 : Below w.heap.size w w1 := by rw [← hw1]; exact (Below.refl _ w).alloc (Nat.le_refl _) _
  have hs1 : w1.heap.size = w.heap.size + 1 := by rw [← hw1]; simp
  have hB2 : Below w1.heap.size w1 w2 := by rw [← hw2]; exact (Below.refl _ w1).alloc (Nat.le_refl _) _
  have hq : Blk w2 w.heap.size 2 (sdF f (.slice none 0 0)) := by
    have : Blk w1 w.heap.size 2 (sdF f (.slice none 0 0)) := by
      rw [← hw1]
      refine (Blk.new w _ _).congr fun j hj => ?_
      have : j = 0 ∨ j = 1 := by simp at hj; omega
      rcases this with rfl | rfl <;> rfl
    exact this.of hB2 (by omega)
  have hb : Blk w2 w1.heap.size 3 (spF f 59 w.heap.size 0) := by
    rw [← hw2]
    refine (Blk.new w1 _ _).congr fun j hj => ?_
    have : j = 0 ∨ j = 1 ∨ j = 2 := by simp at hj; omega
    rcases this with rfl | rfl | rfl <;> rfl
  have hBw : Below w.heap.size w w2 := hB1.trans (hB2.mono (by omega))
  have HF : Hid (Fs w2 f F mv XF w1.heap.size (.row []) 0 (fun k => k = w1.heap.size ∨ (k = w.heap.size ∨ (Value.slice none 0 0).ownBlock = some k)) ∧ (∀ k, (k = w1.heap.size ∨ (k = w.heap.size ∨ (Value.slice none 0 0).ownBlock = some k)) → w.heap.size ≤ k) ∧ Below w.heap.size w w2) := by
    refine ⟨⟨hF.same fun k hk => hBw.block k (hF.lt k hk), ⟨w.heap.size, fun k => k = w.heap.size ∨ (Value.slice none 0 0).ownBlock = some k, hb, ⟨_, hq, IntsR.nil _ _, (fun y => by cases y), rfl⟩, ?_, rfl⟩, ?_, ?_⟩, ?_, hBw⟩
    · rintro (y | y)
      · omega
      · cases y
    · rintro k hk (y | y | y)
      · have := hF.lt k hk; omega
      · have := hF.lt k hk; omega
      · cases y
    · rintro k hk (y | y | y)
      · have := hm k hk; omega
      · have := hm k hk; omega
      · cases y
    · rintro k (y | y | y)
      · omega
      · omega
      · cases y
  have HW1 := Lib.hid hw1
  have HW2 := Lib.hid hw2
  clear hw1 hw2 hB1 hB2 hq hb hBw hF hm
  go_enter Tryz.func7, Tryz.ntmps7
  go_wp2
  rw [HW1.out, HW2.out]
  go_ret
  exact ⟨_, _, by first | rfl | (simp [← HW1.out]), HF.out.1, HF.out.2.1, HF.out.2.2⟩
theorem mR_shared (a : Option Addr) (w : World) : (method 294 59 (.pointer a) "lexicon/shared.isShared").run Tryz.prog w = .ok (101, .pointer a) w := by kernel_rfl
theorem mO_shared (a : Option Addr) (w : World) : (method 294 177 (.pointer a) "lexicon/shared.isShared").run Tryz.prog w = .ok (141, .pointer a) w := by kernel_rfl
theorem mR_value (a : Option Addr) (w : World) : (method 294 59 (.pointer a) "lexicon/shared.value").run Tryz.prog w = .ok (107, .pointer a) w := by kernel_rfl
theorem mO_value (a : Option Addr) (w : World) : (method 294 177 (.pointer a) "lexicon/shared.value").run Tryz.prog w = .ok (147, .pointer a) w := by kernel_rfl
theorem rowShared (a : Value) (w : World) : Calls Tryz.prog 101 #[a] w fun e w' => e = .returned (.bool true) ∧ w' = w := by
  go_enter Tryz.func101, Tryz.ntmps101
  go_wp2
  go_ret
  exact ⟨rfl, rfl⟩
theorem ownShared (a : Value) (w : World) : Calls Tryz.prog 141 #[a] w fun e w' => e = .returned (.bool false) ∧ w' = w := by
  go_enter Tryz.func141, Tryz.ntmps141
  go_wp2
  go_ret
  exact ⟨rfl, rfl⟩
def isRow : Stn → Bool
  | .row _ => true
  | .own _ => false
theorem shared_any {w : World} {s f : Nat} {mv : Value} {v : Nat} {XS : Nat → Prop} {st : Stn} (h : Sm w s f mv v XS st) :
    Calls Tryz.prog 8 #[.pointer (some ⟨s, 0, none⟩)] w fun e w' => e = .returned (.bool (isRow st)) ∧ w' = w := by
  obtain ⟨q, XQ, h1, _, _, _⟩ := h
  cases st with
  | row vs =>
    have x1 : w.cell? ⟨s, 1, none⟩ = some (.iface 59 (.pointer (some ⟨q, 0, none⟩))) := h1.c 1 (by omega)
    have CN := isNothing_no x1
    have mm := mR_shared (some ⟨q, 0, none⟩)
    have CS := rowShared (.pointer (some ⟨q, 0, none⟩)) w
    clear h1
    go_enter Tryz.func8, Tryz.ntmps8
    go_wp2_with fail
    refine CN.mono ?_
    rintro e w1 ⟨rfl, rfl⟩
    go_wp2_with fail
    refine CS.mono ?_
    rintro e w2 ⟨rfl, rfl⟩
    go_wp2
    go_ret
    exact ⟨rfl, rfl⟩
  | own t =>
    have x1 : w.cell? ⟨s, 1, none⟩ = some (.iface 177 (.pointer (some ⟨q, 0, none⟩))) := h1.c 1 (by omega)
    have CN := isNothing_no x1
    have mm := mO_shared (some ⟨q, 0, none⟩)
    have CS := ownShared (.pointer (some ⟨q, 0, none⟩)) w
    clear h1
    go_enter Tryz.func8, Tryz.ntmps8
    go_wp2_with fail
    refine CN.mono ?_
    rintro e w1 ⟨rfl, rfl⟩
    go_wp2_with fail
    refine CS.mono ?_
    rintro e w2 ⟨rfl, rfl⟩
    go_wp2
    go_ret
    exact ⟨rfl, rfl⟩
end Go.Proofs.YtpigbnlapcndgaaGreat
