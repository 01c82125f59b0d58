/-
  awake: its names. No walk.
  awake.
-/
import Derived.Test.YtpigbnlapcndgaaGreatShGet
namespace Go.Proofs.YtpigbnlapcndgaaGreat
open Go.RowKit Go.WideShapes

theorem no_neg {hs : ByteArray → Int} {F : Fa} {c : Nat} (hF : F.Ok hs c) (n : Nat) : ¬ Fnd F.kt.es (-1) n := fun h => by
  obtain ⟨k, s, _, h2, _⟩ := hF.nl.nm _ (nth_mem h.1)
  have := h.2.2
  omega
theorem num_new {all : List ByteArray} {s : ByteArray} {k : Int} (h : Num all s k) (hs : s ∉ all) : k = -1 := by
  rcases h with ⟨n, _, hn⟩ | ⟨h, _⟩
  · exact absurd (List.mem_of_getElem? hn) hs
  · exact h
/-- A name that is new to the family, where the row has all names of the key table. -/
theorem setR_new {hs : ByteArray → Int} {F : Fa} {s : ByteArray} {v : Int} {vs : List Int} {F' : Fa} {st' : Stn} {er : Int} {dc dd c : Nat} (h : SetR hs F s v (.row vs) F' st' er dc dd) (hF : F.Ok hs c) (hs' : s ∉ F.all) (hl : F.kt.es.length = vs.length) (hr : vs.length < F.room) (hm : vs.length < F.most) :
    er = 0 ∧ dc = 1 ∧ dd = 0 ∧ F' = { F with all := F.all ++ [s], kt := F.kt.add (hs s) (F.all.length : Int) 0 } ∧ st' = .row (vs ++ [v]) := by
  cases h with
  | putR hk hn _ => rw [num_new hk hs'] at hn; exact absurd hn (no_neg hF _)
  | fullR hk hn hm' => omega
  | next hk hn _ => rw [num_new hk hs'] at hn; exact absurd hn (no_neg hF _)
  | new hk hn _ _ _ =>
    rw [num_new hk hs']
    exact ⟨rfl, rfl, rfl, rfl, rfl⟩
  | turn hk hn _ h2 => exact absurd ⟨hl, hr⟩ h2
def sX : ByteArray := { data := #[120] }
def sY : ByteArray := { data := #[121] }
noncomputable def F1a : Fa := ⟨[sX], Tb.new.add (hsT sX) 0 0, 3, 10⟩
noncomputable def F2a : Fa := ⟨[sX, sY], (Tb.new.add (hsT sX) 0 0).add (hsT sY) 1 0, 3, 10⟩
theorem F1a_es : F1a.kt.es = [⟨true, hsT sX, 0, 0, 0⟩] := by
  show (Tb.new.add (hsT sX) 0 0).es = _
  rw [add_live rfl]
  rfl
theorem F2a_es : F2a.kt.es = [⟨true, hsT sX, 0, 0, 0⟩, ⟨true, hsT sY, 1, 0, 1⟩] := by
  have h1 := F1a_es
  have a := Tb.new.add_rest (hsT sX) 0 0
  show ((Tb.new.add (hsT sX) 0 0).add (hsT sY) 1 0).es = _
  rw [add_live (by show deadN F1a.kt.es = 0; rw [h1]; rfl)]
  show F1a.kt.es ++ _ = _
  rw [h1, a.1]
  rfl
theorem xy_ne : sY ∉ [sX] := by
  intro h
  have := List.mem_singleton.1 h
  exact absurd this (by decide)
theorem F2a_names : nmsOf F2a.all F2a.kt.es = [sX, sY] := by
  rw [F2a_es]
  rfl
theorem F2a_get {x : Int} {ok : Bool} (h : GetR F2a sY (.row [1, 2]) x ok) : x = 2 ∧ ok = true := by
  obtain ⟨k, hk, h⟩ := h
  have hnd : F2a.all.Nodup := by show [sX, sY].Nodup; simp; exact fun e => absurd e (by decide)
  have hk1 : k = 1 := hk.uniq hnd (.inl ⟨1, rfl, rfl⟩)
  subst hk1
  have hf : Fnd F2a.kt.es 1 1 := by
    unfold Fnd
    rw [F2a_es]
    exact ⟨by decide, rfl, rfl⟩
  rcases h with ⟨n, hn, hl, hx, ho⟩ | ⟨hno, _⟩
  · have : n = 1 := by
      have h2 := hn.2.2
      rw [F2a_es] at h2
      have : n = 0 ∨ n = 1 := by simp at hl; omega
      rcases this with rfl | rfl
      · exact absurd h2 (by decide)
      · rfl
    subst this
    exact ⟨hx, ho⟩
  · have := hno 1 hf
    simp at this
theorem rd_two (w : World) (x y : ByteArray) : RdS (w.alloc (.cells #[.string x, .string y] 9)) (some ⟨w.heap.size, 0, none⟩) [x, y] := by
  have h : Blk (w.alloc (.cells #[.string x, .string y] 9)) w.heap.size 2 (fun j => #[Value.string x, .string y].getD j .nilFunc) := Blk.new w _ _
  refine ⟨w.heap.size, 0, fun _ => rfl, fun j hj => ?_⟩
  have : j = 0 ∨ j = 1 := by simp at hj; omega
  rcases this with rfl | rfl
  · exact h.c 0 (by omega)
  · exact h.c 1 (by omega)
end Go.Proofs.YtpigbnlapcndgaaGreat
namespace Go.Proofs.YtpigbnlapcndgaaGreat
open Go.RowKit Go.WideShapes

set_option maxRecDepth 100000 in
set_option maxHeartbeats 4000000 in
theorem awake10_any (w : World) : Calls Tryz.prog 5 #[] w fun e w' => e = .returned (.bool true) ∧ Below w.heap.size w w' := by
  have CN : Calls Tryz.prog 6 #[.int .i64 3, .int .i64 10, .pointer none] w fun e w' => ∃ f XF, e = .returned (.tuple #[.pointer (some ⟨f, 0, none⟩), .int .i64 0]) ∧ FamX w' f ⟨[], Tb.new, 3, 10⟩ (.pointer none) XF ∧ (∀ k, XF k → w.heap.size ≤ k) ∧ no4 (0 + 1) 0 0 0 w' ∧ Ex (mB (.pointer none)) w w' := shnew_any (N := no4) (a := 0) (b := 0) (c := 0) (d := 0) m4_nil trivial (by omega) 3 10 (by decide) (by decide)
  go_enter Tryz.func5, Tryz.ntmps5
  go_wp2_with fail
  refine CN.mono ?_
  rintro e w1 ⟨f, XF, rfl, hF1, hX1, _, hx1⟩
  clear CN
  have h1 := eqFa f
  have CM := make_any hF1 (fun k hk => (noMet hk).elim)
  have hB1 : Below w.heap.size w w1 := hx1.below (fun k hk => (noMet hk).elim) (Nat.le_refl _)
  clear hF1 hx1
  go_wp2_with fail
  refine CM.mono ?_
  rintro e w2 ⟨s, XS, rfl, hS2, hX2, hB2⟩
  clear CM h1
  have h2 := eqSp s
  have hF0 : (⟨[], Tb.new, 3, 10⟩ : Fa).Ok hsT 0 := fa_new hsT (by decide) (by decide)
  have C1 := (set_any (N := no4) (a := 0) (b := 0) (c := 0) (d := 0) hS2 m4_nil trivial (by omega) (by omega) (by omega) (by omega) hF0 (Nat.le_refl _) (by omega) (by omega) (nm := sX) (by decide) 1).mono (R' := fun e w' => e = .returned (.int .i64 0) ∧ ∃ XF' XS', Fs w' f F1a (.pointer none) XF' s (.row [1]) 1 XS' ∧ (∀ k, XF' k → w.heap.size ≤ k) ∧ (∀ k, XS' k → w.heap.size ≤ k) ∧ Below w.heap.size w w') (fun e w' ⟨er, he, F', st', dc, dd, hset, k, res, jj, _, _, XF', XS', R⟩ => by
    obtain ⟨rfl, _, _, rfl, rfl⟩ := setR_new hset hF0 (by simp) rfl (by show 0 < 3; decide) (by show 0 < 10; decide)
    have hs12 := hB1.size
    have hs2 := hB2.size
    refine ⟨he, XF', XS', R.fs, fun k hk => ?_, fun k hk => ?_, ?_⟩
    · rcases R.hf k hk with y | y
      · exact hX1 k y
      · omega
    · rcases R.hs k hk with y | y
      · have := hX2 k y; omega
      · omega
    · refine (hB1.trans (hB2.mono hs12)).trans (R.ex.below (fun k hk => ?_) (by omega))
      rcases hk with y | y | y
      · exact hX1 k y
      · have := hX2 k y; omega
      · exact (noMet y).elim)
  clear hS2 hX1 hX2 hB1 hB2
  unfold sX at C1
  go_wp2_with fail
  refine C1.mono ?_
  rintro e w3 ⟨rfl, XF3, XS3, hS3, hX3, hY3, hB3⟩
  clear C1
  have hF1 : F1a.Ok hsT 1 := (setR_ok (F := ⟨[], Tb.new, 3, 10⟩) (st := .row []) (s := sX) (v := 1) (.new (k := -1) (.inr ⟨rfl, by simp⟩) (fun n hn => absurd hn.1 (by simp [Tb.new])) (by show 0 < 10; decide) rfl (by show 0 < 3; decide)) hF0 (Nat.le_refl _) (by decide) (by omega)).1
  have C2 := (set_any (N := no4) (a := 0) (b := 0) (c := 0) (d := 0) hS3 m4_nil trivial (by omega) (by omega) (by omega) (by omega) hF1 (by show 1 ≤ F1a.kt.es.length; rw [F1a_es]; decide) (by omega) (by omega) (nm := sY) (by decide) 2).mono (R' := fun e w' => e = .returned (.int .i64 0) ∧ ∃ XF' XS', Fs w' f F2a (.pointer none) XF' s (.row [1, 2]) 2 XS' ∧ (∀ k, XF' k → w.heap.size ≤ k) ∧ (∀ k, XS' k → w.heap.size ≤ k) ∧ Below w.heap.size w w') (fun e w' ⟨er, he, F', st', dc, dd, hset, k, res, jj, _, _, XF', XS', R⟩ => by
    obtain ⟨rfl, _, _, rfl, rfl⟩ := setR_new hset hF1 xy_ne (by rw [F1a_es]; rfl) (by show 1 < 3; decide) (by show 1 < 10; decide)
    have hs3 := hB3.size
    refine ⟨he, XF', XS', R.fs, fun k hk => ?_, fun k hk => ?_, ?_⟩
    · rcases R.hf k hk with y | y
      · exact hX3 k y
      · omega
    · rcases R.hs k hk with y | y
      · exact hY3 k y
      · omega
    · refine hB3.trans (R.ex.below (fun k hk => ?_) hs3)
      rcases hk with y | y | y
      · exact hX3 k y
      · exact hY3 k y
      · exact (noMet y).elim)
  have hF2 : F2a.Ok hsT 2 := (setR_ok (F := F1a) (st := .row [1]) (s := sY) (v := 2) (.new (k := -1) (.inr ⟨rfl, xy_ne⟩) (fun n => no_neg hF1 n) (by show 1 < 10; decide) (by rw [F1a_es]; rfl) (by show 1 < 3; decide)) hF1 (by show 1 ≤ F1a.kt.es.length; rw [F1a_es]; decide) (by decide) (by omega)).1
  clear hS3 hX3 hY3 hB3
  unfold sY at C2
  go_wp2_with fail
  refine C2.mono ?_
  rintro e w4 ⟨rfl, XF4, XS4, hS4, hX4, hY4, hB4⟩
  clear C2 h2
  have C3 := (get_any (N := no4) (a := 0) (b := 0) (c := 0) (d := 0) hS4 m4_nil trivial (by omega) hF2 (by show 2 ≤ F2a.kt.es.length; rw [F2a_es]; decide) (nm := sY) (by decide)).mono (R' := fun e w' => e = .returned (.tuple #[.int .i64 2, .bool true]) ∧ Fs w' f F2a (.pointer none) XF4 s (.row [1, 2]) 2 XS4 ∧ Below w.heap.size w w') (fun e w' ⟨x, ok, k, res, jj, he, hg, _, _, _, hx⟩ => by
    obtain ⟨rfl, rfl⟩ := F2a_get hg
    exact ⟨he, hS4.met hx, hB4.trans (hx.below (fun k hk => (noMet hk).elim) hB4.size)⟩)
  clear hS4
  unfold sY at C3
  go_wp2_with fail
  refine C3.mono ?_
  rintro e w5 ⟨rfl, hS5, hB5⟩
  clear C3
  have C4 := shared_any hS5.sm
  obtain ⟨g, gi, r, h, ev, mb, nv, hFa, _⟩ := hS5.fm
  have C5 := names_any hFa hF2.nl hF2.dead (by rw [F2a_es]; decide)
  rw [F2a_names] at C5
  clear hS5 hFa
  go_wp2_with fail
  refine C4.mono ?_
  rintro e w6 ⟨rfl, rfl⟩
  clear C4
  go_wp2_with fail
  refine C5.mono ?_
  rintro e w7 ⟨vn, rfl, hN7, hB7⟩
  clear C5
  obtain ⟨an, cn, rfl, hR7⟩ := hN7.rd
  obtain ⟨w8, hw8⟩ : ∃ y, w7.alloc (.cells #[.string sX, .string sY] 9) = y := ⟨_, rfl⟩
  have hB8 : Below w7.heap.size w7 w8 := by rw [← hw8]; exact (Below.refl _ w7).alloc (Nat.le_refl _) _
  have hR8 : RdS w8 (some ⟨w7.heap.size, 0, none⟩) [sX, sY] := by rw [← hw8]; exact rd_two w7 sX sY
  have C6 := names_eq (c1 := cn) (c2 := 2) (hR7.below hB8) hR8 (by decide)
  simp only [List.length_cons, List.length_nil, Nat.reduceAdd] at C6
  have HW8 := Lib.hid hw8
  have HB : Hid (Below w.heap.size w w8) := hB5.trans ((hB7.trans (hB8.mono hB7.size)).mono hB5.size)
  clear hw8 hR7 hR8 hN7 hB7 hB8 hB5
  unfold sX sY at HW8
  simp only [List.length_cons, List.length_nil, Nat.reduceAdd]
  go_wp2_with (go_at_call 18; rw [HW8.out]; refine C6.mono ?_; rintro e w9 ⟨rfl, hB9⟩)
  go_ret
  exact ⟨rfl, HB.out.trans (hB9.mono HB.out.size)⟩
end Go.Proofs.YtpigbnlapcndgaaGreat
