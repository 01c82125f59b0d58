/-
  The document's table beside one whose dead entries keep their births: it is that one as it is told.
-/
import Derived.Test.YtjkggidcheagpaaGreatTbShow
import Derived.Test.YtjkggidcheagpaaGreatTfNext
import Derived.Test.YtjkggidcheagpaaGreatTfCp
namespace Go.Proofs.YtjkggidcheagpaaGreat
open Go.RowKit Go.WideShapes

/-- The document's table of t. -/
abbrev RtS (w : World) (g : Nat) (ev : Value) (q : Nat) (t : Tb) (mv : Value) : Prop := Rt w g ev q t.sh mv
theorem Tb.cp_live_all (t : Tb) : ∀ e ∈ t.cp.es, e.live = true := fun e he0 => by
  have he : e ∈ reb (liveL t.es) (liveL t.es).length := he0
  obtain ⟨n, hn, hx⟩ : ∃ n, n < (reb (liveL t.es) (liveL t.es).length).length ∧ nth (reb (liveL t.es) (liveL t.es).length) n = e := by
    obtain ⟨n, hn, he⟩ := List.getElem_of_mem he
    exact ⟨n, hn, by unfold nth; rw [List.getD_eq_getElem?_getD, List.getElem?_eq_getElem hn, Option.getD_some]; exact he⟩
  rw [← hx]
  exact reb_live (fun n hn => liveL_nth _ n hn) _ n (by rwa [reb_len] at hn)
theorem Tb.sh_cp (t : Tb) : t.cp.sh = t.sh.cp := by
  have h1 : t.sh.cp = t.cp := by
    unfold Tb.cp
    show (⟨reb (liveL (shw t.es)) (liveL (shw t.es)).length, cplog (liveL (shw t.es)).length, layN (reb (liveL (shw t.es)) (liveL (shw t.es)).length) (cplog (liveL (shw t.es)).length) (liveL (shw t.es)).length, (liveL (shw t.es)).length, 1, 0⟩ : Tb) = _
    rw [liveL_sh]
  rw [h1]
  have h2 := shw_all t.cp_live_all
  unfold Tb.sh
  rw [h2]
theorem radd_s {w : World} {g : Nat} {ev : Value} {q : Nat} {t : Tb} {mv : Value} {a b c d : Int} (hR : RtS w g ev q t mv) (hO : t.Ok) (hM : Ms w mv a b c d) (hm : t.made ≤ 1000000) (ha : 0 ≤ a ∧ a ≤ 1000000000) (ht : t.turn ≤ 1000000) (hb : t.births < 100000) (u k v : Int) :
    Calls Tryz.prog 28 #[.pointer (some ⟨g, 0, none⟩), .int .i64 u, .int .i64 k, .int .i64 v] w fun e w' => e = .returned (.tuple #[.int .i64 (((t.add u k v).es.length - 1 : Nat) : Int), .int .i64 0]) ∧ ∃ ev' q', (q' = q ∨ w.heap.size ≤ q') ∧ (∀ j, ev'.ownBlock = some j → ev.ownBlock = some j ∨ w.heap.size ≤ j) ∧ RtS w' g ev' q' (t.add u k v) mv ∧ Ms w' mv (a + ((t.add u k v).made - t.made : Nat)) b c d ∧ Ex (tX g ev q mv) w w' := by
  have h := radd_any hR hO.sh hM hm ha ht hb u k v
  rw [← Tb.sh_add, Tb.sh_len] at h
  exact h
theorem rput_no_s {w : World} {g : Nat} {ev : Value} {q : Nat} {t : Tb} {mv : Value} (hR : RtS w g ev q t mv) (n v : Int) (hn : ¬ t.has n) :
    Calls Tryz.prog 30 #[.pointer (some ⟨g, 0, none⟩), .int .i64 n, .int .i64 v] w fun e w' => e = .returned (.int .i64 7) ∧ w' = w := rput_no hR n v (fun h => hn ((t.sh_has n).1 h))
theorem rput_yes_s {w : World} {g : Nat} {ev : Value} {q : Nat} {t : Tb} {mv : Value} (hR : RtS w g ev q t mv) (n : Nat) (v : Int) (hn : n < t.es.length) (hl : (nth t.es n).live = true) :
    Calls Tryz.prog 30 #[.pointer (some ⟨g, 0, none⟩), .int .i64 (n : Int), .int .i64 v] w fun e w' => e = .returned (.int .i64 0) ∧ RtS w' g ev q (t.putv n v) mv ∧ Ex (fun k => ev.ownBlock = some k) w w' := by
  have h := rput_yes hR n v (by rw [Tb.sh_len]; exact hn) (by show (nth (shw t.es) n).live = true; rw [sh_is]; exact hl)
  rw [← Tb.sh_putv t n hl v] at h
  exact h
theorem rat_no_s {w : World} {g : Nat} {ev : Value} {q : Nat} {t : Tb} {mv : Value} (hR : RtS w g ev q t mv) (n : Int) (hn : ¬ t.has n) :
    Calls Tryz.prog 34 #[.pointer (some ⟨g, 0, none⟩), .int .i64 n] w fun e w' => e = .returned (.tuple #[.agg #[.bool false, .int .i64 0, .int .i64 0, .int .i64 0, .int .i64 0], .int .i64 7]) ∧ Below w.heap.size w w' := rat_no hR n (fun h => hn ((t.sh_has n).1 h))
theorem rat_yes_s {w : World} {g : Nat} {ev : Value} {q : Nat} {t : Tb} {mv : Value} (hR : RtS w g ev q t mv) (n : Nat) (hn : n < t.es.length) (hl : (nth t.es n).live = true) :
    Calls Tryz.prog 34 #[.pointer (some ⟨g, 0, none⟩), .int .i64 (n : Int)] w fun e w' => e = .returned (.tuple #[enV (nth t.es n), .int .i64 0]) ∧ Below w.heap.size w w' := by
  have h := rat_yes hR n (by rw [Tb.sh_len]; exact hn) (by show (nth (shw t.es) n).live = true; rw [sh_is]; exact hl)
  rw [show nth t.sh.es n = nth t.es n from shown_hash hl] at h
  exact h
theorem rkill_no_s {w : World} {g : Nat} {ev : Value} {q : Nat} {t : Tb} {mv : Value} (hR : RtS w g ev q t mv) (n : Int) (hn : ¬ t.has n) :
    Calls Tryz.prog 32 #[.pointer (some ⟨g, 0, none⟩), .int .i64 n] w fun e w' => e = .returned (.int .i64 7) ∧ w' = w := rkill_no hR n (fun h => hn ((t.sh_has n).1 h))
theorem rkill_yes_s {w : World} {g : Nat} {ev : Value} {q : Nat} {t : Tb} {mv : Value} (hR : RtS w g ev q t mv) (n : Nat) (hn : n < t.es.length) (hl : (nth t.es n).live = true) (hlen : t.es.length ≤ 100000) (ht : t.turn ≤ 1000000) :
    Calls Tryz.prog 32 #[.pointer (some ⟨g, 0, none⟩), .int .i64 (n : Int)] w fun e w' => e = .returned (.int .i64 0) ∧ RtS w' g ev q (t.kill n) mv ∧ Ex (fun k => k = g ∨ k = q ∨ ev.ownBlock = some k) w w' := by
  have h := rkill_yes hR n (by rw [Tb.sh_len]; exact hn) (by show (nth (shw t.es) n).live = true; rw [sh_is]; exact hl) (by rw [Tb.sh_len]; exact hlen) ht
  rw [← Tb.sh_kill] at h
  exact h
theorem rclear_s {w : World} {g : Nat} {ev : Value} {q : Nat} {t : Tb} {mv : Value} {a b c d : Int} (hR : RtS w g ev q t mv) (hM : Ms w mv a b c d) (hm : t.made ≤ 1000000) (ha : 0 ≤ a ∧ a ≤ 1000000000) (ht : t.turn ≤ 1000000) :
    Calls Tryz.prog 36 #[.pointer (some ⟨g, 0, none⟩)] w fun e w' => e = .returned (.tuple #[]) ∧ ∃ q', w.heap.size ≤ q' ∧ RtS w' g (.slice none 0 0) q' t.clear mv ∧ Ms w' mv (a + 1) b c d ∧ Ex (fun k => k = g ∨ mB mv k) w w' := rclear_any hR hM hm ha ht
theorem rsight_s {w : World} {g : Nat} {ev : Value} {q : Nat} {t : Tb} {mv : Value} (hR : RtS w g ev q t mv) (hn : t.es.length ≤ 100000) :
    Calls Tryz.prog 17 #[.pointer (some ⟨g, 0, none⟩)] w fun e w' => ∃ ca cc ea ec, e = .returned (siV (t.L : Int) (wd t.L : Int) ca (2 ^ t.L) cc ea t.es.length ec (t.live : Int) (t.births : Int) (t.made : Int)) ∧ SlN w' ca (2 ^ t.L) cc t.c ∧ SlE w' ea t.es.length ec (shw t.es) ∧ Below w.heap.size w w' := by
  have h := rsight_any hR (by rw [Tb.sh_len]; exact hn)
  rw [Tb.sh_len, Tb.sh_live] at h
  exact h
theorem rseek_s {w : World} {g : Nat} {ev : Value} {q : Nat} {t : Tb} {mv : Value} (hR : RtS w g ev q t mv) (u : Int) :
    Calls Tryz.prog 39 #[.pointer (some ⟨g, 0, none⟩), .int .i64 u] w fun e w' => ∃ s, e = .returned (.pointer (some ⟨s, 0, none⟩)) ∧ w.heap.size ≤ s ∧ Blk w' s 8 (sF g u t.turn (trl (uw u) t.L 0) (uw u) false 0 (-1)) ∧ Below w.heap.size w w' := rseek_any hR u
theorem rnext_s {w : World} {g : Nat} {ev : Value} {q : Nat} {t : Tb} {pm : Option Addr} {a b c d : Int} {s i vis f : Nat} {u last : Int} (hR : RtS w g ev q t (.pointer pm)) (hI : Inv t.es t.L t.c) (hM : Ms w (.pointer pm) a b c d) (hs : s ≠ g ∧ s ≠ q ∧ ev.ownBlock ≠ some s) (hsm : ¬ mB (.pointer pm) s)
    (hB : Blk w s 8 (sF g u t.turn (trl (uw u) t.L i) (uw u / 32 ^ i) false vis last)) (hT : Told t.es t.L t.c u i last) (hF : IsF t.c (uw u) t.L f) (hif : i ≤ f) (hf : f < 2 ^ t.L + 13) (hv : vis ≤ 1000000000) (hb : 0 ≤ b ∧ b ≤ 100000000000) (hla : -1 ≤ last) (hlen : t.es.length ≤ 100000) :
    Calls Tryz.prog 41 #[.pointer (some ⟨s, 0, none⟩)] w fun e w' => ∃ j, i ≤ j ∧ j ≤ f ∧
      ((∃ n : Nat, e = .returned (.tuple #[.int .i64 (n : Int), .bool true]) ∧ Of t.es u n ∧ last < (n : Int) ∧ t.c (trl (uw u) t.L j) = (n : Int) ∧ Told t.es t.L t.c u j last ∧ Told t.es t.L t.c u (j + 1) (n : Int) ∧ (∀ m, Of t.es u m → last < (m : Int) → n ≤ m) ∧ Rk w' s g u t (.pointer pm) a b c d w i vis (n : Int) (j + 1) false) ∨
       (e = .returned (.tuple #[.int .i64 (-1), .bool false]) ∧ j = f ∧ (∀ n, Of t.es u n → (n : Int) ≤ last) ∧ Rk w' s g u t (.pointer pm) a b c d w i vis last (j + 1) true)) := by
  refine (rnext_any hR hI.sh hM hs hsm hB (told_sh.2 hT) hF hif hf hv hb hla (by rw [Tb.sh_len]; exact hlen)).mono ?_
  rintro e w' ⟨j, h1, h2, (⟨n, h3, h4, h5, h6, h7, h8, h9, h10⟩ | ⟨h3, h4, h5, h6⟩)⟩
  · exact ⟨j, h1, h2, .inl ⟨n, h3, of_sh.1 h4, h5, h6, told_sh.1 h7, told_sh.1 h8, fun m hm hl => h9 m (of_sh.2 hm) hl, ⟨h10.bk, h10.ms, h10.ex⟩⟩⟩
  · exact ⟨j, h1, h2, .inr ⟨h3, h4, fun n hn => h5 n (of_sh.2 hn), ⟨h6.bk, h6.ms, h6.ex⟩⟩⟩
theorem rcopy_s {w : World} {g : Nat} {ev : Value} {q : Nat} {t : Tb} {pm : Option Addr} {a b c d : Int} (hR : RtS w g ev q t (.pointer pm)) (hO : t.Ok) (hM : Ms w (.pointer pm) a b c d) (ha : 0 ≤ a ∧ a ≤ 1000000000) :
    Calls Tryz.prog 8 #[.pointer (some ⟨g, 0, none⟩)] w fun e w' => ∃ g' q' ev', e = .returned (.pointer (some ⟨g', 0, none⟩)) ∧ w.heap.size ≤ g' ∧ w.heap.size ≤ q' ∧ (∀ k, ev'.ownBlock = some k → w.heap.size ≤ k) ∧ RtS w' g' ev' q' t.cp (.pointer pm) ∧ Ms w' (.pointer pm) (a + 1) b c d ∧ Ex (mB (.pointer pm)) w w' := by
  have h := rcopy_any hR hO.sh hM ha
  rw [← Tb.sh_cp] at h
  exact h
theorem rtnew_s {w : World} {mv : Value} {a b c d : Int} (hM : Ms w mv a b c d) (ha : 0 ≤ a ∧ a ≤ 1000000000) :
    Calls Tryz.prog 14 #[mv] w fun e w' => ∃ g q, e = .returned (.pointer (some ⟨g, 0, none⟩)) ∧ w.heap.size ≤ g ∧ w.heap.size ≤ q ∧ RtS w' g (.slice none 0 0) q Tb.new mv ∧ Ms w' mv (a + 1) b c d ∧ Ex (mB mv) w w' := rtnew_any hM ha
end Go.Proofs.YtjkggidcheagpaaGreat
