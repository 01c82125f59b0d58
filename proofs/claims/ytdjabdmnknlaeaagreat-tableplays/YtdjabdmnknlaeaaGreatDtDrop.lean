/-
  dropDead.
-/
import Derived.Test.YtdjabdmnknlaeaaGreatDtIndex
import Derived.Test.YtdjabdmnknlaeaaGreatEnStep
namespace Go.Proofs.YtdjabdmnknlaeaaGreat
open Go.RowKit Go.WideShapes

theorem liveL_dead {es : List En} {n : Nat} (hn : n < es.length) (hd : (nth es n).live ≠ true) : liveL (es.take (n + 1)) = liveL (es.take n) := by rw [liveL_take hn, if_neg hd]
theorem liveL_run {es : List En} (fr : Nat) : ∀ m, fr + m ≤ es.length → (∀ n, fr ≤ n → n < fr + m → (nth es n).live = true) → liveL (es.take (fr + m)) = liveL (es.take fr) ++ (es.drop fr).take m := by
  intro m
  induction m with
  | zero => intro _ _; simp
  | succ m ih =>
    intro h1 h2
    rw [show fr + (m + 1) = fr + m + 1 by omega, liveL_take (by omega), if_pos (h2 _ (by omega) (by omega)), ih (by omega) (fun n a b => h2 n a (by omega)), List.append_assoc]
    congr 1
    have hd : m < (es.drop fr).length := by rw [List.length_drop]; omega
    rw [take_succ_nth hd]
    congr 2
    unfold nth
    rw [List.getD_eq_getElem?_getD, List.getD_eq_getElem?_getD, List.getElem?_drop]
theorem liveL_le (es : List En) : (liveL es).length ≤ es.length := by have := liveL_len es; omega
theorem nth_drop_eq {xs es : List En} {fr : Nat} (h : xs.drop fr = es.drop fr) {n : Nat} (hn : fr ≤ n) : nth xs n = nth es n := by
  have h1 := congrArg (fun l => l[n - fr]?) h
  simp only [List.getElem?_drop] at h1
  rw [show fr + (n - fr) = n by omega] at h1
  unfold nth
  rw [List.getD_eq_getElem?_getD, List.getD_eq_getElem?_getD, h1]
/-- Where dropDead stands: from the entry fr on all are as they were, and ahead of kept there are the live ones of those that were passed. -/
structure Dd (w : World) (g ge cap : Nat) (es : List En) (kept fr : Nat) (xs : List En) (wr : World) : Prop where
  len : xs.length = es.length
  row : Es wr (.slice (some ⟨ge, 0, none⟩) es.length cap) xs
  kf : kept ≤ fr
  fl : fr ≤ es.length + 1
  kl : kept ≤ es.length
  tk : xs.take kept = liveL (es.take fr)
  dr : xs.drop fr = es.drop fr
  bt : But ge w wr
theorem Dd.next {w : World} {g ge cap : Nat} {es : List En} {kept fr m : Nat} {xs : List En} {wr w2 : World} (h : Dd w g ge cap es kept fr xs wr) (hm : fr + m ≤ es.length) (hlv : ∀ n, fr ≤ n → n < fr + m → (nth es n).live = true) (hd : fr + m = es.length ∨ (nth es (fr + m)).live ≠ true)
    (hr : Es w2 (.slice (some ⟨ge, 0, none⟩) xs.length cap) (xs.take kept ++ (xs.drop fr).take m ++ xs.drop (kept + m))) (hb : But ge wr w2) : Dd w g ge cap es (kept + m) (fr + m + 1) (xs.take kept ++ (xs.drop fr).take m ++ xs.drop (kept + m)) w2 := by
  have hk := h.kf
  have hx := h.len
  have h1 : (xs.take kept).length = kept := by rw [List.length_take]; omega
  have h2 : ((xs.drop fr).take m).length = m := by rw [List.length_take, List.length_drop]; omega
  refine ⟨?_, by rw [← hx]; exact hr, by omega, by omega, by omega, ?_, ?_, h.bt.trans hb⟩
  · simp; omega
  · rw [List.take_append_of_le_length (by simp; omega), List.take_of_length_le (by rw [List.length_append]; omega), h.tk, h.dr]
    have e := liveL_run (es := es) fr m hm hlv
    rcases hd with z | z
    · rw [List.take_of_length_le (l := es) (i := fr + m + 1) (by omega), ← e, z, List.take_length]
    · rcases Nat.lt_or_ge (fr + m) es.length with y | y
      · rw [liveL_dead y z, e]
      · rw [List.take_of_length_le (l := es) (i := fr + m + 1) (by omega), ← e, show fr + m = es.length by omega, List.take_length]
  · rw [List.drop_append, List.drop_eq_nil_of_le (by rw [List.length_append]; omega), List.nil_append, List.length_append, h1, h2, List.drop_drop, show kept + m + (fr + m + 1 - (kept + m)) = fr + (m + 1) by omega, ← List.drop_drop, h.dr, List.drop_drop]
    rfl
/-- The head of a table, its entries turned. -/
def setE (F : Nat → Value) (v : Value) : Nat → Value
  | 2 => v
  | j => F j
set_option maxRecDepth 100000 in
set_option maxHeartbeats 4000000 in
theorem dropDead_any {w : World} {g : Nat} {F : Nat → Value} {es : List En} {ev : Value} (hB : Blk w g 7 F) (f2 : F 2 = ev) (hE : Es w ev es) (hge : ∀ k, ev.ownBlock = some k → k ≠ g) (hlen : es.length ≤ 100000) :
    Calls Tryz.prog 44 #[.pointer (some ⟨g, 0, none⟩)] w fun e w' => e = .returned (.tuple #[]) ∧ ∃ ev', ev'.ownBlock = ev.ownBlock ∧ Blk w' g 7 (setE F ev') ∧ Es w' ev' (liveL es) ∧ Ex (fun k => k = g ∨ ev.ownBlock = some k) w w' := by
  have hlg := hB.lt (by omega)
  have x2 : w.cell? ⟨g, 2, none⟩ = some ev := by rw [hB.c 2 (by omega), f2]
  have z2 := hB.z 2
  have HB := Lib.hid hB
  rcases hE.2 with ⟨rfl, h0⟩ | ⟨ge, cap, cur, rfl, h1, h2, h3, h4, h5, h6⟩
  · obtain rfl : es = [] := List.eq_nil_of_length_eq_zero h0
    clear hE hB
    go_enter Tryz.func44, Tryz.ntmps44
    go_wp2_with fail
    go_loopw [2, 3, 4] (fun av bv _ wr => av = .int .i64 0 ∧ bv = .int .i64 0 ∧ wr = w) (fun _ _ _ _ => 0)
    case atStart => exact ⟨rfl, rfl, rfl⟩
    case round =>
      obtain ⟨rfl, rfl, rfl⟩ := hrel
      go_wp2_with (refine wpList_clear_run rfl _ 34 rfl _ _ rfl (run_clear_wide0 _ _ _ 60 Tryz.underlying34 _ _) ?_)
      go_end0
      exact ⟨rfl, .slice none 0 0, rfl, (HB.out.put 2 (.slice none 0 0)).congr (fun j hj => by
        have : j = 0 ∨ j = 1 ∨ j = 2 ∨ j = 3 ∨ j = 4 ∨ j = 5 ∨ j = 6 := by omega
        rcases this with rfl | rfl | rfl | rfl | rfl | rfl | rfl <;> rfl), Es.nil _, (Ex.refl _ _).setCell (p := ⟨g, 2, none⟩) (fun _ => .inl rfl) _⟩
  · have HE : Hid (Es w (.slice (some ⟨ge, 0, none⟩) es.length cap) es) := hE
    have hgg : ge ≠ g := hge ge rfl
    clear hE hB hge h1 h2 h5 h6
    have HD0 : Hid (Dd w g ge cap es 0 0 es w) := ⟨rfl, HE.out, Nat.le_refl _, Nat.zero_le _, Nat.zero_le _, by simp [liveL], rfl, But.refl _ _⟩
    go_enter Tryz.func44, Tryz.ntmps44
    go_wp2_with fail
    go_loopw [2, 3, 4] (fun av bv _ wr => ∃ kept fr xs, av = .int .i64 ((kept : Nat) : Int) ∧ bv = .int .i64 ((fr : Nat) : Int) ∧ Dd w g ge cap es kept fr xs wr) (fun _ bv _ _ => es.length + 1 - (intOf bv).toNat)
    case atStart => exact ⟨0, 0, es, rfl, rfl, HD0.out⟩
    case round =>
      obtain ⟨kept, fr, xs, rfl, rfl, hD⟩ := hrel
      have HD := Lib.hid hD
      have hk1 := hD.kf
      have hk2 := hD.kl
      have hk3 := hD.fl
      have y2 := (hD.bt.cell (p := ⟨g, 2, none⟩) hlg (fun e => hgg e.symm)).trans x2
      have yz2 := (hD.bt.frozen (p := ⟨g, 2, none⟩) hlg (fun e => hgg e.symm)).trans z2
      clear hD
      by_cases hlt : fr < es.length
      · have t1 : (fr : Int) < (es.length : Int) := by omega
        go_wp2_with fail
        go_loopw [4] (fun tv wr' => ∃ m : Nat, tv = .int .i64 ((fr + m : Nat) : Int) ∧ fr + m ≤ es.length ∧ (∀ n, fr ≤ n → n < fr + m → (nth es n).live = true) ∧ wr' = wr) (fun tv _ => es.length - (intOf tv).toNat)
        case atStart => exact ⟨0, rfl, by omega, fun n h1 h2 => by omega, rfl⟩
        case round =>
          obtain ⟨m, rfl, hm, hlv, rfl⟩ := hrel
          have HLV := Lib.hid hlv
          clear hlv
          by_cases hml : fr + m < es.length
          case' pos =>
            have t2 : ((fr + m : Nat) : Int) < (es.length : Int) := by omega
            obtain ⟨a', cap', ge', hv', hae', hro'⟩ := HD.out.row.open
            rw [HD.out.len] at hv'
            cases hv'
            have y0 := hro'.c0 (fr + m) (by rw [HD.out.len]; exact hml)
            rw [nth_drop_eq HD.out.dr (by omega)] at y0
            have hge' := (hae' (by rw [HD.out.len]; omega)).1
            cases hge'
            clear hro' hae'
            by_cases hlv : (nth es (fr + m)).live = true
            case' pos =>
              have HLV2 : Hid (∀ n, fr ≤ n → n < fr + (m + 1) → (nth es n).live = true) := fun n h1 h2 => by
                rcases Nat.lt_or_ge n (fr + m) with z | z
                · exact HLV.out n h1 z
                · rw [show n = fr + m by omega]; exact hlv
              rw [hlv] at y0
              generalize hto : fr + m = tt at *
              go_wp2_with fail
              go_roundw
              case rel => exact ⟨m + 1, by rw [← hto]; go_num, by omega, HLV2.out, by first | rfl | trivial⟩
              case measure => simp [intOf]; omega
            case' neg =>
              have hlf : (nth es (fr + m)).live = false := by simpa using hlv
              rw [hlf] at y0
              generalize hto : fr + m = tt at *
              go_upto_region 5 with fail
          case' neg =>
            have t2 : ¬ ((fr + m : Nat) : Int) < (es.length : Int) := by omega
            generalize hto : fr + m = tt at *
            go_upto_region 5 with fail
          all_goals
            have hmm : m = tt - fr := by omega
            obtain ⟨w2, hrun, hE2, hb2⟩ := copy_en (w := World.drew _) (by rw [HD.out.len]; exact (show Es (World.drew _) _ _ from HD.out.row)) kept fr m hk1 (by rw [HD.out.len]; omega)
            rw [HD.out.len] at hrun
            rw [hmm] at hrun
            have HR := Lib.hid hrun
            have HN : Hid (Dd w g ge cap es (kept + m) (fr + m + 1) (xs.take kept ++ (xs.drop fr).take m ++ xs.drop (kept + m)) w2) := HD.out.next (by omega) (by rw [hto]; exact HLV.out) (by first | exact .inl (by omega) | exact .inr (by rw [hto]; exact hlv)) hE2 ((But.refl _ _).drew.trans hb2)
            have e47 : IntKind.i64.wrap ((kept : Int) + ((tt - fr : Nat) : Int)) = ((kept + (tt - fr) : Nat) : Int) := by rw [i64_small (by omega) (by omega)]; omega
            have e49 : IntKind.i64.wrap ((tt : Int) + 1) = ((tt + 1 : Nat) : Int) := by rw [i64_small (by omega) (by omega)]; omega
            have i1 : kept < cap := by omega
            have i2 : fr < cap := by omega
            have i3 : tt ≤ cap := by omega
            have i4 : fr ≤ tt := by omega
            have i5 : ¬ cap = kept := by omega
            have i6 : ¬ cap = fr := by omega
            clear hrun hE2 hb2
            go_region_law (refine step_copy_run rfl _ _ 34 34 rfl (.slice (some ⟨ge, kept * 5, none⟩) (es.length - kept) (cap - kept)) (.slice (some ⟨ge, fr * 5, none⟩) (tt - fr) (cap - fr)) _ (by rfl) (by rfl) (HR.out _ _ _) ?_)
            all_goals
              go_wp2_with fail
              go_roundw
              case rel => exact ⟨kept + m, fr + m + 1, _, by rw [hmm]; go_num, by rw [hto]; go_num, HN.out⟩
              case measure => simp [intOf]; omega
      · have t1 : ¬ (fr : Int) < (es.length : Int) := by omega
        obtain ⟨w2, hrun, hrun0, hE2, hb2⟩ := clear_en (by rw [HD.out.len]; exact HD.out.row) kept (by rw [HD.out.len]; exact hk2)
        rw [HD.out.len] at hrun hrun0
        have HE2 : Hid (Es w2 (.slice (some ⟨ge, 0, none⟩) kept cap) (liveL es)) := by
          show Es _ _ _
          have := HD.out.tk
          rw [List.take_of_length_le (l := es) (i := fr) (by omega)] at this
          rw [← this]
          exact hE2
        have HB2 : Hid (But ge w w2) := HD.out.bt.trans hb2
        have y2' := (HB2.out.cell (p := ⟨g, 2, none⟩) hlg (fun e => hgg e.symm)).trans x2
        have yz2' := (HB2.out.frozen (p := ⟨g, 2, none⟩) hlg (fun e => hgg e.symm)).trans z2
        have HF : Hid (∀ v, v = Value.slice (some ⟨ge, 0, none⟩) kept cap → Blk (w2.setCell ⟨g, 2, none⟩ v) g 7 (setE F v) ∧ Es (w2.setCell ⟨g, 2, none⟩ v) v (liveL es) ∧ Ex (fun k => k = g ∨ some ge = some k) w (w2.setCell ⟨g, 2, none⟩ v)) := by
          rintro v rfl
          refine ⟨((HB.out.same (HB2.out.block g hlg (fun e => hgg e.symm))).put 2 _).congr (fun j hj => ?_), HE2.out.same (fun k hk => ?_), ?_⟩
          · have : j = 0 ∨ j = 1 ∨ j = 2 ∨ j = 3 ∨ j = 4 ∨ j = 5 ∨ j = 6 := by omega
            rcases this with rfl | rfl | rfl | rfl | rfl | rfl | rfl <;> rfl
          · cases hk
            exact Below.heap_setCell _ _ _ _ hgg
          · exact (HB2.out.ex.mono (fun k _ hk => .inr (by rw [hk]))).setCell (p := ⟨g, 2, none⟩) (fun _ => .inl rfl) _
        have HR : Hid (∀ ty c, (Builtin.clear_ #[34] ty #[.slice (some ⟨ge, kept * 5, none⟩) (es.length - kept) c]).run Tryz.prog wr = .ok (.tuple #[]) w2) := by
          intro ty c
          by_cases h0 : es.length - kept = 0
          · rw [h0, hrun0 h0]
            exact run_clear_wide0 _ _ _ 60 Tryz.underlying34 _ _
          · exact hrun ty c (by omega)
        have hR0 := Lib.hid hrun0
        clear hrun hrun0 hE2 hb2
        by_cases hkc : kept = cap
        · have h0 : es.length - kept = 0 := by omega
          have hw2 := hR0.out h0
          subst hw2
          subst hkc
          go_wp2_with (refine wpList_clear_run rfl _ 34 rfl _ _ rfl (run_clear_wide0 _ _ _ 60 Tryz.underlying34 _ _) ?_)
          go_end0
          exact ⟨rfl, .slice (some ⟨ge, 0, none⟩) kept kept, rfl, HF.out _ rfl⟩
        · go_wp2_with (refine wpList_clear_run rfl _ 34 rfl _ _ rfl (HR.out _ _) ?_)
          go_end0
          exact ⟨rfl, .slice (some ⟨ge, 0, none⟩) kept cap, rfl, HF.out _ rfl⟩
end Go.Proofs.YtdjabdmnknlaeaaGreat
