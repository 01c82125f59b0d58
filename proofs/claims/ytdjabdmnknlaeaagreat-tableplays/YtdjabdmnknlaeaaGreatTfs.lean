/-
  A table as it is told: dead entries keep nothing. No program.
  Copy.
  The reference's Copy.
  The document's table beside one whose dead entries keep their births: it is that one as it is told.
-/
import Derived.Test.YtdjabdmnknlaeaaGreatTbSeek
import Derived.Test.YtdjabdmnknlaeaaGreatTbModel
import Derived.Test.YtdjabdmnknlaeaaGreatDtTell
import Derived.Test.YtdjabdmnknlaeaaGreatTfSeek
import Derived.Test.YtdjabdmnknlaeaaGreatTfNext
namespace Go.Proofs.YtdjabdmnknlaeaaGreat

/-- A table as it is told. -/
def Tb.sh (t : Tb) : Tb := { t with es := shw t.es }
theorem liveL_sh (es : List En) : liveL (shw es) = liveL es := by
  induction es with
  | nil => rfl
  | cons e r ih =>
    show liveL (e.shown :: shw r) = _
    rw [liveL, liveL, e.shown_is, ih]
    by_cases h : e.live = true
    · rw [if_pos h, if_pos h, En.shown_live h]
    · rw [if_neg h, if_neg h]
theorem Tb.sh_len (t : Tb) : t.sh.es.length = t.es.length := shw_len _
theorem Tb.sh_live (t : Tb) : t.sh.live = t.live := by
  show (shw t.es).length - deadN (shw t.es) = _
  rw [shw_len, deadN_shw]
  rfl
theorem shown_hash {es : List En} {n : Nat} (h : (nth es n).live = true) : nth (shw es) n = nth es n := by rw [nth_shw, En.shown_live h]
theorem sh_is (es : List En) (n : Nat) : (nth (shw es) n).live = (nth es n).live := by rw [nth_shw, En.shown_is]
theorem of_sh {es : List En} {u : Int} {n : Nat} : Of (shw es) u n ↔ Of es u n := by
  constructor
  · rintro ⟨h1, h2, h3⟩
    rw [sh_is] at h2
    rw [shown_hash h2] at h3
    exact ⟨by rw [shw_len] at h1; exact h1, h2, h3⟩
  · rintro ⟨h1, h2, h3⟩
    exact ⟨by rw [shw_len]; exact h1, by rw [sh_is]; exact h2, by rw [shown_hash h2]; exact h3⟩
theorem pos_sh {es : List En} {L : Nat} {c : Nat → Int} {n i : Nat} (hl : (nth es n).live = true) : Pos (shw es) L c n i ↔ Pos es L c n i := by
  unfold Pos
  rw [shown_hash hl]
theorem told_sh {es : List En} {L : Nat} {c : Nat → Int} {u : Int} {i : Nat} {last : Int} : Told (shw es) L c u i last ↔ Told es L c u i last := by
  constructor
  · intro h n hn p hp
    exact h n (of_sh.2 hn) p ((pos_sh hn.2.1).2 hp)
  · intro h n hn p hp
    exact h n (of_sh.1 hn) p ((pos_sh (of_sh.1 hn).2.1).1 hp)
theorem Inv.sh {es : List En} {L : Nat} {c : Nat → Int} (h : Inv es L c) : Inv (shw es) L c :=
  ⟨by rw [shw_len]; exact h.room, fun x hx => by
    rcases h.val x hx with a | a | ⟨n, a, b, d⟩
    · exact .inl a
    · exact .inr (.inl a)
    · exact .inr (.inr ⟨n, by rw [shw_len]; exact a, b, by rw [sh_is]; exact d⟩), h.inj, fun n hn hl => by
    rw [shw_len] at hn
    rw [sh_is] at hl
    obtain ⟨i, hi⟩ := h.pos n hn hl
    exact ⟨i, (pos_sh hl).2 hi⟩, by rw [shw_len]; exact h.used, by rw [deadN_shw]; exact h.dead⟩
theorem Tb.Ok.sh {t : Tb} (h : t.Ok) : t.sh.Ok := ⟨h.inv.sh, h.sz, by rw [t.sh_len]; exact h.few, h.all⟩
theorem Tb.sh_has (t : Tb) (n : Int) : t.sh.has n ↔ t.has n := by
  unfold Tb.has
  rw [t.sh_len]
  show _ ∧ _ ∧ (nth (shw t.es) n.toNat).live = true ↔ _
  rw [sh_is]
theorem shw_set (es : List En) (n : Nat) (e : En) : shw (es.set n e) = (shw es).set n e.shown := by
  unfold shw
  rw [List.map_set]
theorem Tb.sh_push (t : Tb) (u k v : Int) : (t.push u k v).sh = t.sh.push u k v := by
  unfold Tb.push Tb.sh
  simp only
  rw [shw_app, shw_len]
  rfl
theorem Tb.sh_re (t : Tb) (log : Nat) : (t.re log).sh = t.sh.re log := by
  unfold Tb.re Tb.sh
  simp only
  rw [liveL_sh, shw_all (liveL_live t.es)]
theorem Tb.sh_add (t : Tb) (u k v : Int) : (t.add u k v).sh = t.sh.add u k v := by
  unfold Tb.add
  rw [Tb.sh_push, t.sh_live, t.sh_len]
  by_cases h : t.es.length < rm (2 ^ t.L)
  · rw [if_pos h, if_pos (show t.es.length < rm (2 ^ t.sh.L) from h)]
  · rw [if_neg h, if_neg (show ¬ t.es.length < rm (2 ^ t.sh.L) from h), Tb.sh_re]
theorem Tb.sh_kill (t : Tb) (n : Nat) : (t.kill n).sh = t.sh.killz n := by
  unfold Tb.kill Tb.killz Tb.sh
  simp only
  rw [shw_set]
  rfl
theorem Tb.sh_putv (t : Tb) (n : Nat) (hl : (nth t.es n).live = true) (v : Int) : (t.putv n v).sh = t.sh.putv n v := by
  unfold Tb.putv Tb.sh
  simp only
  rw [shw_set, shown_hash hl, En.shown_live (by exact hl)]
theorem Tb.sh_clear (t : Tb) : t.clear.sh = t.sh.clear := rfl
end Go.Proofs.YtdjabdmnknlaeaaGreat
namespace Go.Proofs.YtdjabdmnknlaeaaGreat
open Go.RowKit Go.WideShapes

/-- The first k with births of their own. -/
def reb (es : List En) (k : Nat) : List En := (List.range es.length).map fun i => if i < k then ⟨(nth es i).live, (nth es i).hash, (nth es i).key, (nth es i).value, (i : Int)⟩ else nth es i
theorem reb_len (es : List En) (k : Nat) : (reb es k).length = es.length := by simp [reb]
theorem reb_nth (es : List En) (k i : Nat) (hi : i < es.length) : nth (reb es k) i = if i < k then ⟨(nth es i).live, (nth es i).hash, (nth es i).key, (nth es i).value, (i : Int)⟩ else nth es i := by
  conv => lhs; unfold nth
  rw [List.getD_eq_getElem?_getD]
  simp [reb, hi]
theorem ext_nth {a b : List En} (hl : a.length = b.length) (h : ∀ i, i < a.length → nth a i = nth b i) : a = b := by
  apply List.ext_getElem hl
  intro i h1 h2
  have := h i h1
  unfold nth at this
  rw [List.getD_eq_getElem?_getD, List.getD_eq_getElem?_getD, List.getElem?_eq_getElem h1, List.getElem?_eq_getElem h2] at this
  exact this
theorem reb_zero (es : List En) : reb es 0 = es := ext_nth (reb_len _ _) fun i hi => by rw [reb_len] at hi; rw [reb_nth _ _ _ hi, if_neg (Nat.not_lt_zero _)]
theorem reb_set (es : List En) (k : Nat) (hk : k < es.length) : (reb es k).set k ⟨(nth es k).live, (nth es k).hash, (nth es k).key, (nth es k).value, (k : Int)⟩ = reb es (k + 1) := by
  refine ext_nth (by rw [List.length_set, reb_len, reb_len]) fun i hi => ?_
  rw [List.length_set, reb_len] at hi
  rw [nth_set (by rw [reb_len]; exact hk), reb_nth _ _ _ hi, reb_nth _ _ _ hi]
  by_cases e : i = k
  · subst e
    rw [if_pos rfl, if_pos (by omega)]
  · rw [if_neg e]
    by_cases h2 : i < k
    · rw [if_pos h2, if_pos (by omega)]
    · rw [if_neg h2, if_neg (by omega)]
/-- The log of a copy's index. -/
def cplog (n : Nat) : Nat := logF ((3 * n + 1) / 2) 20 3
/-- A copy. -/
noncomputable def Tb.cp (t : Tb) : Tb := ⟨reb (liveL t.es) (liveL t.es).length, cplog (liveL t.es).length, layN (reb (liveL t.es) (liveL t.es).length) (cplog (liveL t.es).length) (liveL t.es).length, (liveL t.es).length, 1, 0⟩
theorem cplog_ok {n : Nat} (hn : n ≤ 100000) : 3 ≤ cplog n ∧ cplog n ≤ 20 ∧ n ≤ rm (2 ^ cplog n) := by
  obtain ⟨a1, a2, a3, a4⟩ := logF_step ((3 * n + 1) / 2) 20 3 (Nat.le_trans (by omega : (3 * n + 1) / 2 ≤ 2 ^ 20) (by decide))
  refine ⟨a2, ?_, ?_⟩
  · rcases Nat.lt_or_ge 20 (cplog n) with e | e
    · have h1 := a4 20 (by omega) e
      have h2 : (2 : Nat) ^ 20 = 1048576 := by decide
      omega
    · exact e
  · have : (3 * n + 1) / 2 ≤ 2 ^ cplog n := Nat.le_of_not_lt a3
    unfold rm
    omega
theorem reb_live {es : List En} (h : ∀ n, n < es.length → (nth es n).live = true) (k n : Nat) (hn : n < es.length) : (nth (reb es k) n).live = true := by
  rw [reb_nth _ _ _ hn]
  split
  · exact h n hn
  · exact h n hn
theorem Tb.Ok.cp {t : Tb} (h : t.Ok) : t.cp.Ok := by
  have hl : (liveL t.es).length ≤ 100000 := by have := liveL_len t.es; have := h.few; have := h.all; omega
  obtain ⟨h1, h2, h3⟩ := cplog_ok hl
  refine ⟨?_, ⟨h1, h2⟩, by show (reb _ _).length ≤ (liveL t.es).length; rw [reb_len]; exact Nat.le_refl _, hl⟩
  have := layN_inv (reb (liveL t.es) (liveL t.es).length) (cplog (liveL t.es).length) (fun n hn => reb_live (fun n hn => liveL_nth _ n hn) _ n (by rwa [reb_len] at hn)) (by rw [reb_len]; exact h3) (liveL t.es).length (by rw [reb_len]; exact Nat.le_refl _)
  rw [List.take_of_length_le (by rw [reb_len]; exact Nat.le_refl _)] at this
  exact this
theorem Tb.cp_live (t : Tb) : t.cp.live = (liveL t.es).length := by
  rw [Tb.live_eq]
  show (liveL (reb (liveL t.es) (liveL t.es).length)).length = _
  have h1 := liveL_len (reb (liveL t.es) (liveL t.es).length)
  rw [deadN_live _ (fun e he => by
    obtain ⟨n, hn, hx⟩ : ∃ n, n < (reb (liveL t.es) (liveL t.es).length).length ∧ nth (reb (liveL t.es) (liveL t.es).length) n = e := by
      obtain ⟨n, hn, he⟩ := List.getElem_of_mem he
      exact ⟨n, hn, by unfold nth; rw [List.getD_eq_getElem?_getD, List.getElem?_eq_getElem hn, Option.getD_some, he]⟩
    rw [← hx]
    exact reb_live (fun n hn => liveL_nth _ n hn) _ n (by rwa [reb_len] at hn)), reb_len] at h1
  omega
/-- The head of a copy under way. -/
def cF (mv ev : Value) (l b : Nat) : Nat → Value
  | 0 => mv
  | 1 => .pointer none
  | 2 => ev
  | 3 => .int .i64 (l : Int)
  | 4 => .int .i64 (b : Int)
  | _ => .int .i64 0
set_option maxRecDepth 100000 in
set_option maxHeartbeats 8000000 in
theorem copy7_any {w : World} {g gi r h : Nat} {ev : Value} {t : Tb} {pm : Option Addr} {M : Int → Int → World → Prop} {a b : Int} (hD : Dt w g gi r h ev t (.pointer pm)) (hO : t.Ok) (hMo : MtOk (.pointer pm) M) (hM : M a b w) (ha : 0 ≤ a ∧ a ≤ 1000000000) :
    Calls Tryz.prog 32 #[.pointer (some ⟨g, 0, none⟩)] w fun e w' => ∃ g' gi' r' h' ev', e = .returned (.pointer (some ⟨g', 0, none⟩)) ∧ (∀ k, dX g' gi' r' h' ev' k → w.heap.size ≤ k) ∧ Dt w' g' gi' r' h' ev' t.cp (.pointer pm) ∧ M (a + 1) b w' ∧ Ex (mB (.pointer pm)) w w' := by
  have hlen : t.es.length ≤ 100000 := Nat.le_trans hO.few hO.all
  have k0 : w.cell? ⟨g, 0, none⟩ = some (.pointer pm) := hD.hd.c 0 (by omega)
  have d0 : w.drew.cell? ⟨g, 0, none⟩ = some (.pointer pm) := k0
  have hlg := lt_of_cell k0
  have CC := copied_any (w := w.drew) (g := g) (hD.hd.c 2 (by omega)) (hD.es.same fun _ _ => rfl) hlen
  have hB0 : Below w.heap.size w w.drew := (Below.refl _ w).drew
  have HMO := Lib.hid hMo
  have HM := Lib.hid hM
  have HO := Lib.hid hO
  clear hD hO hMo hM
  go_enter Tryz.func32, Tryz.ntmps32
  go_wp2_with fail
  go_region_held3 (fun V => V.cell? ⟨g, 0, none⟩ = some (.pointer pm))
    (first | with_reducible exact d0 | with_reducible exact k0 | with_reducible exact q0 | with_reducible exact p0 | fail)
    (first | (go_at_call 51; refine CC.mono ?_; rintro e w2 ⟨cv, rfl, hEs, hb2⟩; obtain ⟨ca, cc, hcv⟩ := ownsRow_shape hEs; subst hcv; have hB2 := hB0.trans hb2; have q0 := (hB2.cell (p := ⟨g, 0, none⟩) hlg).trans k0; have p0 := (cell_alloc_old w2 (.cells #[.pointer pm, .pointer none, .slice ca t.es.length cc, .int .i64 0, .int .i64 0, .int .i64 0, .int .i64 0] 48) g 0 (Nat.lt_of_lt_of_le hlg hB2.size)).trans q0) | fail)
  obtain ⟨w3, hw3⟩ : ∃ y, w2.alloc (.cells #[.pointer pm, .pointer none, .slice ca t.es.length cc, .int .i64 0, .int .i64 0, .int .i64 0, .int .i64 0] 48) = y := ⟨_, rfl⟩
  have hs2 := hB2.size
  have hB23 : Below w2.heap.size w2 w3 := by rw [← hw3]; exact (Below.refl _ w2).alloc (Nat.le_refl _) _
  have hB3 : Below w.heap.size w w3 := hB2.trans (hB23.mono hs2)
  have hX3 : Blk w3 w2.heap.size 7 (cF (.pointer pm) (.slice ca t.es.length cc) 0 0) := by
    rw [← hw3]
    refine (Blk.new w2 _ _).congr fun j hj => ?_
    have : j = 0 ∨ j = 1 ∨ j = 2 ∨ j = 3 ∨ j = 4 ∨ j = 5 ∨ j = 6 := by simp at hj; omega
    rcases this with rfl | rfl | rfl | rfl | rfl | rfl | rfl <;> rfl
  have hs3 : w3.heap.size = w2.heap.size + 1 := by rw [← hw3]; simp
  have hltE := hEs.es.lt
  have hgeE := hEs.ge
  have hE3 : Es w3 (.slice ca t.es.length cc) t.es := hEs.es.same fun k hk => hB23.block k (hltE k hk)
  have CD := dropDead_any hX3 rfl hE3 (fun k hk => by have := hltE k hk; omega) hlen
  have HW3 := Lib.hid hw3
  have HB3 := Lib.hid hB3
  have hll := liveL_len t.es
  clear hw3 hX3 hE3 hEs q0 p0 d0 k0 CC hb2 hB2 hB23 hB3
  go_wp2_with fail
  rw [HW3.out]
  refine CD.mono ?_
  rintro e w4 ⟨rfl, ev', hob, hX4, hE4, hEx4⟩
  clear CD
  have hob' : ∀ k, ev'.ownBlock = some k → w.heap.size ≤ k ∧ k < w2.heap.size := fun k hk => by
    rw [hob] at hk
    exact ⟨hgeE k hk, hltE k hk⟩
  have hB4 : Below w.heap.size w w4 := HB3.out.trans (hEx4.below (fun k hk => hk.elim (fun e => by omega) (fun e => hgeE k e)) HB3.out.size)
  have hs34 := hEx4.size
  obtain ⟨ae, cape, ge, hev, hae, hro⟩ := hE4.open
  have hcap := hro.le
  have HAE := Lib.hid hae
  subst hev
  clear hro hae hEx4
  have k2 : w4.cell? ⟨w2.heap.size, 2, none⟩ = some (.slice ae (liveL t.es).length cape) := hX4.c 2 (by omega)
  generalize hLs : liveL t.es = ls at *
  have HLS := Lib.hid hLs
  clear hLs
  have HX4 := Lib.hid hX4
  have HE4 : Hid (Es w4 (.slice ae ls.length cape) (reb ls 0)) := by show Es _ _ _; rw [reb_zero]; exact hE4
  have HB4 := Lib.hid hB4
  have HLl : Hid (∀ n, n < ls.length → (nth ls n).live = true) := fun n hn => by rw [← HLS.out] at hn ⊢; exact liveL_nth _ n hn
  clear hX4 hE4 hB4
  go_wp2_with fail
  go_loopw [22, 4] (fun iv _ wr => ∃ k : Nat, k ≤ ls.length ∧ iv = .int .i64 (k : Int) ∧ Hid (Es wr (.slice ae ls.length cape) (reb ls k)) ∧ Hid (Blk wr w2.heap.size 7 (setE (cF (.pointer pm) (.slice ca t.es.length cc) 0 0) (.slice ae ls.length cape))) ∧ Below w.heap.size w wr ∧ w4.heap.size ≤ wr.heap.size) (fun iv _ _ => ls.length - (intOf iv).toNat)
  case atStart => exact ⟨0, Nat.zero_le _, rfl, HE4, HX4, HB4.out, Nat.le_refl _⟩
  case round =>
    clear HE4 HX4 HB4 k2
    obtain ⟨k, hk, rfl, HE, HX, hB, hsz⟩ := hrel
    have y2 : wr.cell? ⟨w2.heap.size, 2, none⟩ = some (.slice ae ls.length cape) := HX.out.c 2 (by omega)
    by_cases hlt : k < ls.length
    · have tk : (k : Int) < (ls.length : Int) := by omega
      obtain ⟨hae, hobk, _⟩ := HAE.out (by omega)
      subst hae
      obtain ⟨hg1, hg2⟩ := hob' ge rfl
      have hE := HE.out
      rw [← reb_len ls k] at hE
      obtain ⟨_, _, _, hv', hae', hro'⟩ := hE.open
      cases hv'
      obtain ⟨hge', _, hfz'⟩ := hae' (by rw [reb_len]; omega)
      cases hge'
      have e4 := hro'.c4 k (by rw [reb_len]; exact hlt)
      have z4 := hfz' (k * 5 + 4)
      have HN : Hid (Es (wr.setCell ⟨ge, k * 5 + 4, none⟩ (.int .i64 (k : Int))) (.slice (some ⟨ge, 0, none⟩) ls.length cape) (reb ls (k + 1)) ∧ Blk (wr.setCell ⟨ge, k * 5 + 4, none⟩ (.int .i64 (k : Int))) w2.heap.size 7 (setE (cF (.pointer pm) (.slice ca t.es.length cc) 0 0) (.slice (some ⟨ge, 0, none⟩) ls.length cape)) ∧ Below w.heap.size w (wr.setCell ⟨ge, k * 5 + 4, none⟩ (.int .i64 (k : Int))) ∧ w4.heap.size ≤ (wr.setCell ⟨ge, k * 5 + 4, none⟩ (.int .i64 (k : Int))).heap.size) := by
        refine ⟨?_, HX.out.same (Below.heap_setCell _ _ _ _ (by show w2.heap.size ≠ ge; omega)), hB.setCell (p := ⟨ge, k * 5 + 4, none⟩) hg1 _, by simpa [World.setCell] using hsz⟩
        have hnk : nth (reb ls k) k = nth ls k := by rw [reb_nth _ _ _ hlt, if_neg (Nat.lt_irrefl _)]
        have := Es.put (reb_len ls k).symm (by rw [reb_len] at hE; exact HE.out) k 4 (by rw [reb_len]; exact hlt) (by decide) (.int .i64 (k : Int)) ⟨(nth ls k).live, (nth ls k).hash, (nth ls k).key, (nth ls k).value, (k : Int)⟩ (by rw [hnk]; rfl) rfl
        rw [reb_set ls k hlt] at this
        exact this
      clear hE hro' hae' hfz'
      generalize (nth (reb ls k) k).birth = bv at *
      go_wp2_with fail
      go_roundw
      case rel => exact ⟨k + 1, by omega, by go_num, HN.out.1, HN.out.2.1, HN.out.2.2.1, HN.out.2.2.2⟩
      case measure => simp [intOf]; omega
    · obtain rfl : k = ls.length := by omega
      have tk : ¬ (ls.length : Int) < (ls.length : Int) := by omega
      have z3 := HX.out.z 3
      have z4 := HX.out.z 4
      have y3 : wr.cell? ⟨w2.heap.size, 3, none⟩ = some (.int .i64 0) := HX.out.c 3 (by omega)
      have y4 : wr.cell? ⟨w2.heap.size, 4, none⟩ = some (.int .i64 0) := HX.out.c 4 (by omega)
      have hX6 : Blk ((wr.setCell ⟨w2.heap.size, 3, none⟩ (.int .i64 (ls.length : Int))).setCell ⟨w2.heap.size, 4, none⟩ (.int .i64 (ls.length : Int))) w2.heap.size 7 (cF (.pointer pm) (.slice ae ls.length cape) ls.length ls.length) := ((HX.out.put 3 _).put 4 _).congr fun j hj => by
        have : j = 0 ∨ j = 1 ∨ j = 2 ∨ j = 3 ∨ j = 4 ∨ j = 5 ∨ j = 6 := by omega
        rcases this with rfl | rfl | rfl | rfl | rfl | rfl | rfl <;> rfl
      have hB6 : Below w.heap.size w ((wr.setCell ⟨w2.heap.size, 3, none⟩ (.int .i64 (ls.length : Int))).setCell ⟨w2.heap.size, 4, none⟩ (.int .i64 (ls.length : Int))) := (hB.setCell (p := ⟨w2.heap.size, 3, none⟩) hs2 _).setCell (p := ⟨w2.heap.size, 4, none⟩) hs2 _
      have hE6 : Es ((wr.setCell ⟨w2.heap.size, 3, none⟩ (.int .i64 (ls.length : Int))).setCell ⟨w2.heap.size, 4, none⟩ (.int .i64 (ls.length : Int))) (.slice ae ls.length cape) (reb ls ls.length) := HE.out.same fun q hq => by
        have := (hob' q hq).2
        rw [Below.heap_setCell _ _ _ _ (by show q ≠ w2.heap.size; omega), Below.heap_setCell _ _ _ _ (by show q ≠ w2.heap.size; omega)]
      have hs6 : ((wr.setCell ⟨w2.heap.size, 3, none⟩ (.int .i64 (ls.length : Int))).setCell ⟨w2.heap.size, 4, none⟩ (.int .i64 (ls.length : Int))).heap.size = wr.heap.size := by simp
      have x2 : (wr.setCell ⟨w2.heap.size, 3, none⟩ (.int .i64 (ls.length : Int))).cell? ⟨w2.heap.size, 2, none⟩ = some (.slice ae ls.length cape) := (World.cell?_setCell_other _ _ _ _ (by intro he; injection he with h1 h2; omega)).trans y2
      have hn : ls.length ≤ 100000 := by omega
      obtain ⟨hc1, hc2, hc3⟩ := cplog_ok hn
      have hmlt := HMO.out.lt a b w
      have CI := makeIndex_any (L := cplog ls.length) (made := 0) (es := reb ls ls.length) (ev := .slice ae ls.length cape) (mv := .pointer pm) (a := a) (b := b) ⟨rfl, hc1, hc2⟩ hX6 rfl rfl rfl hE6 HMO.out (HMO.out.same a b w _ HM.out fun q hq => hB6.block q (hmlt q HM.out hq)) (fun q hq => ⟨by have := (hob' q hq).2; omega, fun hm => by have := hmlt q HM.out hm; have := (hob' q hq).1; omega⟩) (fun q hq => by have := hmlt q HM.out hq; omega) (fun n hn => reb_live HLl.out _ n (by rwa [reb_len] at hn)) (by rw [reb_len]; exact hc3) (by decide) ha (by rw [reb_len]; exact hn)
      rw [reb_len] at CI
      have CO : Hid (∀ V, Calls Tryz.prog 43 #[.int .i64 (((3 * ls.length + 1) / 2 : Nat) : Int)] V fun e w' => e = .returned (.int .i64 ((cplog ls.length : Nat) : Int)) ∧ w' = V) := fun V => logOf_any ((3 * ls.length + 1) / 2) (by omega) V
      have f1 : IntKind.i64.wrap (3 * (ls.length : Int)) = 3 * (ls.length : Int) := i64_small (by omega) (by omega)
      have f2 : IntKind.i64.wrap (3 * (ls.length : Int) + 1) = 3 * (ls.length : Int) + 1 := i64_small (by omega) (by omega)
      have f3 : Int.tdiv (3 * (ls.length : Int) + 1) 2 = (((3 * ls.length + 1) / 2 : Nat) : Int) := by
        rw [Int.tdiv_eq_ediv_of_nonneg (by omega)]
        omega
      have f4 : IntKind.i64.wrap (((3 * ls.length + 1) / 2 : Nat) : Int) = (((3 * ls.length + 1) / 2 : Nat) : Int) := i64_small (by omega) (by omega)
      have HB6 := Lib.hid hB6
      have x3 : ((wr.setCell ⟨w2.heap.size, 3, none⟩ (.int .i64 (ls.length : Int))).setCell ⟨w2.heap.size, 4, none⟩ (.int .i64 (ls.length : Int))).cell? ⟨w2.heap.size, 3, none⟩ = some (.int .i64 (ls.length : Int)) := hX6.c 3 (by omega)
      clear HE HX hB hX6 hB6 hE6
      generalize (3 * ls.length + 1) / 2 = q at *
      go_wp2_with fail
      refine (CO.out _).mono ?_
      rintro e w7 ⟨rfl, rfl⟩
      go_wp2_with fail
      refine CI.mono ?_
      rintro e w8 ⟨rfl, gi', r', h', hgi', hr', hh', hI⟩
      clear CI
      have hs6' := HB6.out.size
      have HR : Hid ((∀ q, dX w2.heap.size gi' r' h' (.slice ae ls.length cape) q → w.heap.size ≤ q) ∧ Dt w8 w2.heap.size gi' r' h' (.slice ae ls.length cape) t.cp (.pointer pm) ∧ M (a + 1) b w8 ∧ Ex (mB (.pointer pm)) w w8) := by
        have hcp : t.cp = ⟨reb ls ls.length, cplog ls.length, layN (reb ls ls.length) (cplog ls.length) ls.length, ls.length, 1, 0⟩ := by unfold Tb.cp; rw [HLS.out]
        refine ⟨?_, ⟨?_, ?_, ?_, ?_, ⟨by omega, by omega, by omega⟩, ?_⟩, hI.m, ?_⟩
        · rintro q (rfl | rfl | rfl | rfl | hq)
          · exact hs2
          · omega
          · omega
          · omega
          · exact (hob' q hq).1
        · refine hI.hd.congr fun j hj => ?_
          have : j = 0 ∨ j = 1 ∨ j = 2 ∨ j = 3 ∨ j = 4 ∨ j = 5 ∨ j = 6 := by omega
          rcases this with rfl | rfl | rfl | rfl | rfl | rfl | rfl
          · rfl
          · rfl
          · rfl
          · show Value.int .i64 ((t.cp.live : Nat) : Int) = Value.int .i64 (ls.length : Int)
            rw [Tb.cp_live, HLS.out]
          · show Value.int .i64 ((t.cp.births : Nat) : Int) = Value.int .i64 (ls.length : Int)
            rw [hcp]
          · show Value.int .i64 ((t.cp.made : Nat) : Int) = Value.int .i64 ((0 : Nat) + 1 : Int)
            rw [hcp]
            rfl
          · show Value.int .i64 ((t.cp.turn : Nat) : Int) = Value.int .i64 0
            rw [hcp]
            rfl
        · show Es w8 _ t.cp.es
          rw [hcp]
          exact hI.row
        · show Cl w8 gi' r' h' t.cp.L (2 ^ t.cp.L) t.cp.c
          rw [hcp]
          exact hI.cl
        · intro q hq
          have := hob' q hq
          exact ⟨by omega, by omega, by omega, by omega⟩
        · intro q hq
          have h1 := hmlt q HM.out hq
          exact ⟨by omega, by omega, by omega, by omega, fun e => by have := (hob' q e).1; omega⟩
        · exact (ex_of (X := mB (.pointer pm)) (w := w) (HB6.out)).next hI.ex (fun q hq hx => hx.elim (fun e => by omega) id)
      clear hI
      go_wp2
      go_ret
      exact ⟨_, gi', r', h', _, rfl, HR.out⟩
end Go.Proofs.YtdjabdmnknlaeaaGreat
namespace Go.Proofs.YtdjabdmnknlaeaaGreat
open Go.RowKit Go.WideShapes

theorem cplog_eq {n l : Nat} (hn : n ≤ 100000) (h3 : 3 ≤ l) (h1 : ¬ rm (2 ^ l) < n) (h2 : ∀ j, 3 ≤ j → j < l → rm (2 ^ j) < n) : cplog n = l := by
  refine logF_eq (by omega) h3 ?_ fun j hj hl => ?_
  · unfold rm at h1
    omega
  · have := h2 j hj hl
    unfold rm at this
    omega
theorem EsB.same' {B : Nat} {w w' : World} {v : Value} {es : List En} (h : EsB B w v es) (e : ∀ k, v.ownBlock = some k → w'.heap[k]? = w.heap[k]?) : EsB B w' v es := by
  refine ⟨h.1, ?_⟩
  rcases h.2 with h0 | ⟨g, cap, cur, rfl, h1, h2, h3⟩
  · exact .inl h0
  · exact .inr ⟨g, cap, cur, rfl, h1, (e g rfl).trans h2, h3⟩
/-- The head of the copy. -/
def ccF (ev : Value) (L q n m : Nat) (mv : Value) : Nat → Value
  | 0 => ev
  | 1 => .int .i64 (L : Int)
  | 2 => .slice (some ⟨q, 0, none⟩) (2 ^ L) (2 ^ L)
  | 3 => .int .i64 (m : Int)
  | 4 => .int .i64 (n : Int)
  | 5 => .int .i64 1
  | 6 => .int .i64 0
  | _ => mv
theorem Rt.exM {w w' : World} {g : Nat} {ev : Value} {q : Nat} {t : Tb} {mv : Value} (hR : Rt w g ev q t mv) (hX : Ex (mB mv) w w') : Rt w' g ev q t mv :=
  hR.same fun k hk => by
    have hlt : k < w.heap.size := by
      rcases hk with rfl | rfl | hk
      · exact hR.hd.lt (by omega)
      · exact hR.rf.lt (pow2_pos _)
      · exact hR.es.lt k hk
    refine hX.block k hlt fun h => ?_
    obtain ⟨x1, x2, x3⟩ := hR.mp k h
    rcases hk with e | e | e
    · exact x1 e
    · exact x2 e
    · exact x3 e
set_option maxRecDepth 100000 in
set_option maxHeartbeats 8000000 in
theorem rcopy_any {w : World} {g : Nat} {ev : Value} {q : Nat} {t : Tb} {pm : Option Addr} {a b c d : Int} (hR : Rt w g ev q t (.pointer pm)) (hO : t.Ok) (hM : Ms w (.pointer pm) a b c d) (ha : 0 ≤ a ∧ a ≤ 1000000000) :
    Calls Tryz.prog 33 #[.pointer (some ⟨g, 0, none⟩)] w fun e w' => ∃ g' q' ev', e = .returned (.pointer (some ⟨g', 0, none⟩)) ∧ w.heap.size ≤ g' ∧ w.heap.size ≤ q' ∧ (∀ k, ev'.ownBlock = some k → w.heap.size ≤ k) ∧ Rt w' g' ev' q' t.cp (.pointer pm) ∧ Ms w' (.pointer pm) (a + 1) b c d ∧ Ex (mB (.pointer pm)) w w' := by
  obtain ⟨i0, hi, hz0, hz1, hz2⟩ := info_parts Tryz.infoEn
  have hlen : t.es.length ≤ 100000 := Nat.le_trans hO.few hO.all
  have HLV := Lib.hid t.live_eq
  have hlle := t.live_le
  have k3 : w.cell? ⟨g, 3, none⟩ = some (.int .i64 (t.live : Int)) := hR.hd.c 3 (by omega)
  have k7 : w.cell? ⟨g, 7, none⟩ = some (.pointer pm) := hR.hd.c 7 (by omega)
  have lg := hR.hd.lt (by omega)
  have hlm := hM.lt
  have HR := Lib.hid hR
  have HM := Lib.hid hM
  have HO := Lib.hid hO
  obtain ⟨hc3, hc20, hcr⟩ := cplog_ok (n := t.live) (by omega)
  clear hR hM hO
  go_enter Tryz.func33, Tryz.ntmps33
  go_wp2_with fail
  go_loopw [3] (fun lv wr => ∃ l : Nat, 3 ≤ l ∧ l ≤ cplog t.live ∧ lv = .int .i64 (l : Int) ∧ (∀ j, 3 ≤ j → j < l → rm (2 ^ j) < t.live) ∧ Below w.heap.size w wr) (fun lv _ => 21 - (intOf lv).toNat)
  case atStart => exact ⟨3, by omega, by omega, rfl, fun j h1 h2 => absurd h2 (by omega), Below.refl _ _⟩
  case round =>
    obtain ⟨l, hl3, hlc, rfl, hlj, hBl⟩ := hrel
    have f3 := (hBl.cell (p := ⟨g, 3, none⟩) lg).trans k3
    have hPl : 2 ^ l ≤ 1048576 := Nat.le_trans (Nat.pow_le_pow_right (n := 2) (by decide) (by omega : l ≤ 20)) (by decide)
    have CR := rroom_any (L := l) (S := 2 ^ l) ⟨rfl, hl3, by omega⟩ wr.drew
    have HLJ := Lib.hid hlj
    have HBd := Lib.hid hBl.drew
    have hrl : rm (2 ^ l) ≤ 2 ^ l := Nat.le_of_lt (rm_lt l)
    clear hlj hBl
    by_cases hc : rm (2 ^ l) < t.live
    · have hl19 : l < cplog t.live := by
        rcases Nat.lt_or_ge l (cplog t.live) with z | z
        · exact z
        · have : l = cplog t.live := by omega
          subst this
          omega
      have HL2 : Hid (∀ j, 3 ≤ j → j < l + 1 → rm (2 ^ j) < t.live) := fun j h1 h2 => by
        rcases Nat.lt_or_ge j l with z | z
        · exact HLJ.out j h1 z
        · rw [show j = l by omega]; exact hc
      have hc' : (rm (2 ^ l) : Int) < (t.live : Int) := by omega
      generalize rm (2 ^ l) = P at *
      go_wp2_with fail
      go_region_held3 (fun V => V.cell? ⟨g, 3, none⟩ = some (.int .i64 (t.live : Int)))
        (first | exact f3 | fail)
        (first | (go_at_call 53; refine CR.mono ?_; rintro e w2 ⟨rfl, rfl⟩) | fail)
      go_wp2_with fail
      go_roundw
      case rel => exact ⟨l + 1, by omega, by omega, by go_num, HL2.out, HBd.out⟩
      case measure => simp [intOf]; omega
    · have hcl : cplog t.live = l := cplog_eq (by omega) hl3 hc HLJ.out
      have hc' : ¬ (rm (2 ^ l) : Int) < (t.live : Int) := by omega
      have HRM : Hid (t.live ≤ rm (2 ^ l)) := Nat.le_of_not_lt hc
      have HCL := Lib.hid hcl
      clear hc hcl
      generalize rm (2 ^ l) = P at CR hc'
      go_wp2_with fail
      go_region_held3 (fun V => V.cell? ⟨g, 3, none⟩ = some (.int .i64 (t.live : Int)))
        (first | exact f3 | fail)
        (first | (go_at_call 53; refine CR.mono ?_; rintro e w2 ⟨rfl, rfl⟩) | fail)
      clear CR
      have f7 : wr.drew.cell? ⟨g, 7, none⟩ = some (.pointer pm) := (HBd.out.cell (p := ⟨g, 7, none⟩) lg).trans k7
      obtain ⟨w1, hw1⟩ : ∃ w1, (wr.alloc (.cells #[.slice none 0 0, .int .i64 0, .slice none 0 0, .int .i64 0, .int .i64 0, .int .i64 0, .int .i64 0, .pointer pm] 56)).drew = w1 := ⟨_, rfl⟩
      have hB1 : Blk w1 wr.heap.size 8 (fun j => #[Value.slice none 0 0, .int .i64 0, .slice none 0 0, .int .i64 0, .int .i64 0, .int .i64 0, .int .i64 0, .pointer pm].getD j .nilFunc) := by rw [← hw1]; exact (Blk.new wr #[Value.slice none 0 0, .int .i64 0, .slice none 0 0, .int .i64 0, .int .i64 0, .int .i64 0, .int .i64 0, .pointer pm] 56).same rfl
      have hb1 : Below w.heap.size w w1 := by rw [← hw1]; exact (HBd.out.alloc HBd.out.size _)
      have hs1 : w1.heap.size = wr.heap.size + 1 := by rw [← hw1]; simp
      have hsr : w.heap.size ≤ wr.heap.size := HBd.out.size
      have C1 := rindex_any (L := l) (made := 0) ⟨rfl, hl3, by omega⟩ hB1 rfl rfl (HM.out.below hb1) (fun k hk => by have := hlm k hk; omega) (by decide) ha
      have HX : Hid (Ex (mB (.pointer pm)) w w1) := ex_of hb1
      have HW1 := Lib.hid hw1
      clear hB1 hb1 hw1
      go_upto_region 5 with fail
      try rw [HW1.out]
      go_wp2_with fail
      refine C1.mono ?_
      rintro e w2 ⟨rfl, q', hq', hB2, hR2, hM2, hX2⟩
      clear C1
      have hXw : Ex (mB (.pointer pm)) w w2 := HX.out.next hX2 (fun k hk h => h.elim (fun e => by omega) id)
      have C2 := rlive_any (HR.out.exM hXw) hlen
      have hs2 : w1.heap.size ≤ w2.heap.size := hX2.size
      have HB2 : Hid (Blk w2 wr.heap.size 8 (ccF (.slice none 0 0) l q' 0 0 (.pointer pm))) := hB2.congr (fun j hj => by
        have : j = 0 ∨ j = 1 ∨ j = 2 ∨ j = 3 ∨ j = 4 ∨ j = 5 ∨ j = 6 ∨ j = 7 := by omega
        rcases this with rfl | rfl | rfl | rfl | rfl | rfl | rfl | rfl <;> rfl)
      have HR2 := Lib.hid hR2
      have HM2 := Lib.hid hM2
      have HXW := Lib.hid hXw
      have lgc := hB2.lt (by omega)
      have lq' := hR2.lt (pow2_pos l)
      clear hB2 hR2 hM2 hX2 hXw HX HW1 f7 f3
      go_wp2_with fail
      refine C2.mono ?_
      rintro e w3 ⟨lv, rfl, hE3, hB3⟩
      clear C2
      have hgeE := hE3.ge
      have hltE := hE3.es.lt
      obtain ⟨al, capl, gl, hlvv, hpl, hrol⟩ := hE3.es.open
      subst hlvv
      have hcl := hrol.le
      have HPL : Hid (0 < (liveL t.es).length → al = some ⟨gl, 0, none⟩ ∧ w2.heap.size ≤ gl ∧ gl < w3.heap.size) := fun h0 => ⟨(hpl h0).1, hgeE gl (hpl h0).2.1, hltE gl (hpl h0).2.1⟩
      have HROL := Lib.hid hrol
      have hs3 := hB3.size
      have HB3 : Hid (Blk w3 wr.heap.size 8 (ccF (.slice none 0 0) l q' 0 0 (.pointer pm))) := HB2.out.of hB3 (by omega)
      have HR3 : Hid (Rf w3 q' (2 ^ l) (layN (reb (liveL t.es) (liveL t.es).length) l 0)) := HR2.out.below (pow2_pos l) hB3
      have HM3 : Hid (Ms w3 (.pointer pm) (a + 1) b c d) := HM2.out.below hB3
      have HX3 : Hid (Ex (mB (.pointer pm)) w w3) := HXW.out.next (ex_of (X := fun _ => False) hB3) (fun _ _ h => h.elim)
      have HLE : Hid ((liveL t.es).length ≤ rm (2 ^ l)) := by
        show _ ≤ _
        rw [← HLV.out]
        exact HRM.out
      have hll : (liveL t.es).length ≤ 100000 := by have := liveL_len t.es; omega
      have HLL : Hid (∀ n, n < (liveL t.es).length → (nth (liveL t.es) n).live = true) := fun n hn => liveL_nth _ n hn
      clear hE3 hB3 hpl hrol hgeE hltE HB2 HR2 HM2 HXW
      generalize hll0 : liveL t.es = ll at *
      have HLLE := Lib.hid hll0
      clear hll0
      have hgq : w.heap.size ≤ wr.heap.size ∧ wr.heap.size < q' ∧ q' < w3.heap.size := ⟨hsr, by omega, by omega⟩
      clear hs1 hsr
      generalize wr.heap.size = gc at *
      obtain ⟨R, hR0⟩ : ∃ x, reb ll ll.length = x := ⟨_, rfl⟩
      have HRL : Hid (R.length = ll.length) := by
        show _ = _
        rw [← hR0, reb_len]
      have HRN : Hid (∀ k, k < ll.length → nth R k = ⟨(nth ll k).live, (nth ll k).hash, (nth ll k).key, (nth ll k).value, (k : Int)⟩) := fun k hk => by rw [← hR0, reb_nth _ _ _ hk, if_pos hk]
      have HRV : Hid (∀ k, k < R.length → (nth R k).live = true) := fun k hk => by
        rw [HRL.out] at hk
        rw [HRN.out k hk]
        exact HLL.out k hk
      rw [hR0] at HR3
      have HR0 := Lib.hid hR0
      clear hR0
      go_wp2_with fail
      go_loopw [6, 7] (fun iv _ wr => ∃ k : Nat, k ≤ ll.length ∧ iv = .int .i64 (k : Int) ∧ ∃ evk, Blk wr gc 8 (ccF evk l q' 0 0 (.pointer pm)) ∧ EsB w3.heap.size wr evk (R.take k) ∧ Rf wr q' (2 ^ l) (layN R l k) ∧ Ex (fun k => k = gc ∨ k = q') w3 wr) (fun iv _ _ => ll.length - (intOf iv).toNat)
      case atStart => exact ⟨0, Nat.zero_le _, rfl, _, HB3.out, ⟨rfl, Or.inl ⟨rfl, rfl⟩⟩, HR3.out, Ex.refl _ _⟩
      case round =>
        obtain ⟨k, hk, rfl, evk, hBk, hEk, hRk, hXk⟩ := hrel
        clear HB3 HR3
        by_cases hlt : k < ll.length
        · have t1 : (k : Int) < (ll.length : Int) := by omega
          obtain ⟨ea, hgl, lgl⟩ := HPL.out (by omega)
          subst ea
          have key : ∀ o, wr.cell? ⟨gl, o, none⟩ = w3.cell? ⟨gl, o, none⟩ := fun o => World.cell?_of_block (a := ⟨gl, o, none⟩) (hXk.block gl lgl (fun h => by omega))
          have d0 := (key _).trans (HROL.out.c0 k hlt)
          have d1 := (key _).trans (HROL.out.c1 k hlt)
          have d2 := (key _).trans (HROL.out.c2 k hlt)
          have d3 := (key _).trans (HROL.out.c3 k hlt)
          have d4 := (key _).trans (HROL.out.c4 k hlt)
          have HRk := Lib.hid (HRN.out k hlt)
          have hlv1 := HLL.out k hlt
          rw [hlv1] at d0
          rw [hlv1] at HRk
          clear key hlv1
          generalize (nth ll k).hash = x1 at *
          generalize (nth ll k).key = x2 at *
          generalize (nth ll k).value = x3 at *
          generalize (nth ll k).birth = x4 at *
          go_upto_region 12 with fail
          have htk : R.take (k + 1) = R.take k ++ [⟨true, x1, x2, x3, (k : Int)⟩] := by rw [take_succ_nth (by rw [HRL.out]; exact hlt), HRk.out]
          have hlk : (R.take k).length = k := by rw [List.length_take, HRL.out]; omega
          have hown0 : wr.ownsRow w3.heap.size 60 5 evk (R.take k).length (enl (R.take k)) := hEk
          obtain ⟨ak, capk, gk, hev, _, hrok⟩ := hEk.es.open
          rw [hlk] at hev hown0
          have hcapk := hrok.le
          rw [hlk] at hcapk
          subst hev
          have hltk := hEk.es.lt
          have hgek := hEk.ge
          have hsr3 := hXk.size
          obtain ⟨wx, hwx⟩ : ∃ y, wr.alloc (.cells #[.bool true, .int .i64 x1, .int .i64 x2, .int .i64 x3, .int .i64 (k : Int)] 60) = y := ⟨_, rfl⟩
          have hX : Blk wx wr.heap.size 5 (fun j => #[Value.bool true, .int .i64 x1, .int .i64 x2, .int .i64 x3, .int .i64 (k : Int)].getD j .nilFunc) := by rw [← hwx]; exact Blk.new wr _ _
          have hsx : wx.heap.size = wr.heap.size + 1 := by rw [← hwx]; simp
          have hbx : ∀ j, j < wr.heap.size → wx.heap[j]? = wr.heap[j]? := fun j hj => by rw [← hwx]; exact Below.heap_alloc _ _ _ hj
          have hown : wx.drew.ownsRow w3.heap.size 60 5 (.slice ak k capk) k (enl (R.take k)) := by rw [← hwx]; exact World.ownsRow.alloc hown0 _
          have p0 : wx.cell? ⟨wr.heap.size, 0, none⟩ = some (.bool true) := hX.c 0 (by omega)
          have p1 : wx.cell? ⟨wr.heap.size, 1, none⟩ = some (.int .i64 x1) := hX.c 1 (by omega)
          have p2 : wx.cell? ⟨wr.heap.size, 2, none⟩ = some (.int .i64 x2) := hX.c 2 (by omega)
          have p3 : wx.cell? ⟨wr.heap.size, 3, none⟩ = some (.int .i64 x3) := hX.c 3 (by omega)
          have p4 : wx.cell? ⟨wr.heap.size, 4, none⟩ = some (.int .i64 (k : Int)) := hX.c 4 (by omega)
          have lgcr : gc < wr.heap.size := hBk.lt (by omega)
          have lqr : q' < wr.heap.size := hRk.lt (pow2_pos l)
          have hBx := hBk.same (hbx gc lgcr)
          have f0 : wx.cell? ⟨gc, 0, none⟩ = some (.slice ak k capk) := hBx.c 0 (by omega)
          have z0 := hBx.z 0
          have NF : Hid (∀ j u', (enc5 ⟨true, x1, x2, x3, (k : Int)⟩)[j]? = some u' → (wx.drew.alloc (.cells #[.bool true, .int .i64 x1, .int .i64 x2, .int .i64 x3, .int .i64 (k : Int)] 60)).cell? (Addr.add ⟨wx.drew.heap.size, 0, none⟩ j) = some u') := new_five wx.drew ⟨true, x1, x2, x3, (k : Int)⟩ 60
          have HE5 : Hid ((enc5 ⟨true, x1, x2, x3, (k : Int)⟩).length = 5 ∧ ∀ u' ∈ enc5 ⟨true, x1, x2, x3, (k : Int)⟩, u'.oneCell' = true) := ⟨rfl, fun u' hu => enl_one [⟨true, x1, x2, x3, (k : Int)⟩] u' (by simpa [enl] using hu)⟩
          have HGB : Hid (∀ w5 : World, (wx.drew.alloc (.cells #[.bool true, .int .i64 x1, .int .i64 x2, .int .i64 x3, .int .i64 (k : Int)] 60)).grownBy w5 (Value.slice ak k capk).ownBlock → ∀ j, j < wx.heap.size → (Value.slice ak k capk).ownBlock ≠ some j → w5.heap[j]? = wx.heap[j]?) := fun w5 hgw j hj hne => (hgw.block j (by simp; exact Nat.lt_succ_of_lt hj) (fun e => hne e.symm)).trans (Below.heap_alloc _ _ _ hj)
          have HNG : Hid ((Value.slice ak k capk).ownBlock ≠ some gc) := fun e => by have := hgek gc e; omega
          have HNX : Hid ((Value.slice ak k capk).ownBlock ≠ some wr.heap.size) := fun e => by have := hltk _ e; omega
          have HNL : Hid (∀ j, (Value.slice ak k capk).ownBlock = some j → w3.heap.size ≤ j) := hgek
          have HNQ : Hid ((Value.slice ak k capk).ownBlock ≠ some q') := fun e => by have := hgek q' e; omega
          have lgx : gc < wx.heap.size := by omega
          have lxx : wr.heap.size < wx.heap.size := by omega
          have HWX := Lib.hid hwx
          have HXk := Lib.hid hXk
          have HBx := Lib.hid hBx
          have HRx : Hid (Rf wx q' (2 ^ l) (layN R l k)) := hRk.same (hbx q' lqr)
          have HTK := Lib.hid htk
          have HINV : Hid (Inv (R.take k) l (layN R l k)) := layN_inv R l HRV.out (by rw [HRL.out]; exact HLE.out) k (by rw [HRL.out]; omega)
          have HBW : Hid (∀ j, j < w3.heap.size → j ≠ gc → j ≠ q' → wx.heap[j]? = w3.heap[j]?) := fun j h1 h2 h3 => (hbx j (by omega)).trans (hXk.block j h1 (fun h => h.elim h2 h3))
          have HOS : Hid (wx.os = w3.os ∧ wx.tape = w3.tape ∧ wx.output = w3.output) := by rw [← hwx]; exact ⟨hXk.os, hXk.tape, hXk.output⟩
          clear hEk hrok hBk hRk hXk hX hown0 hbx hwx htk hBx hltk hgek d0 d1 d2 d3 d4 HPL HROL
          rw [HWX.out]
          generalize wr.heap.size = xb at *
          go_region_law (refine step_append_own rfl _ _ 34 rfl w3.heap.size 60 i0 (.agg #[.bool false, .int .i64 0, .int .i64 0, .int .i64 0, .int .i64 0]) 5 40 Tryz.underlying34 hi hz0 hz1 hz2 rfl (by decide) (.slice ak k capk) k (enl (R.take k)) (by simp [Act.eval]) (World.ownsRow.alloc hown _) ⟨wx.drew.heap.size, 0, none⟩ 1 1 (enc5 ⟨true, x1, x2, x3, (k : Int)⟩) (by simp [Act.eval]) HE5.out.1 NF.out HE5.out.2 (by unfold maxLen; omega) (by omega) (by simp; omega) ?_; intro v' w5 hown2 hgrow hat; obtain ⟨a2, cap2, hv2⟩ := ownsRow_shape hown2; subst hv2; have hb5 := HGB.out w5 hgrow gc lgx HNG.out; have g0 := (World.cell?_of_block (a := ⟨gc, 0, none⟩) hb5).trans f0; have gz0 := (World.frozen?_of_block (a := ⟨gc, 0, none⟩) hb5).trans z0; have hb6 := HGB.out w5 hgrow xb lxx HNX.out; have gx1 := (World.cell?_of_block (a := ⟨xb, 1, none⟩) hb6).trans p1)
          all_goals
            have hB5 := HBx.out.same hb5
            have hR5 : Rf w5 q' (2 ^ l) (layN R l k) := HRx.out.same (HGB.out w5 hgrow q' (by omega) HNQ.out)
            have hsz5 : wx.heap.size ≤ w5.heap.size := by have := hgrow.size; simp at this; exact Nat.le_of_succ_le this
            have hE5 : EsB w3.heap.size w5 (.slice a2 (k + 1) cap2) (R.take (k + 1)) := by
              have := EsB.snoc (es := R.take k) (e := ⟨true, x1, x2, x3, (k : Int)⟩) (B := w3.heap.size) (w := w5) (v := .slice a2 (k + 1) cap2) (by rw [hlk]; exact hown2)
              rwa [HTK.out]
            have hgeE := hE5.ge
            have o6 : ∀ j, j ≠ gc → (w5.setCell ⟨gc, 0, none⟩ (.slice a2 (k + 1) cap2)).heap[j]? = w5.heap[j]? := fun j hj => Below.heap_setCell _ _ _ _ hj
            have hB6 : Blk (w5.setCell ⟨gc, 0, none⟩ (.slice a2 (k + 1) cap2)) gc 8 (ccF (.slice a2 (k + 1) cap2) l q' 0 0 (.pointer pm)) := (hB5.put 0 _).congr (fun j hj => by
              have : j = 0 ∨ j = 1 ∨ j = 2 ∨ j = 3 ∨ j = 4 ∨ j = 5 ∨ j = 6 ∨ j = 7 := by omega
              rcases this with rfl | rfl | rfl | rfl | rfl | rfl | rfl | rfl <;> rfl)
            have hR6 := hR5.same (o6 q' (by omega))
            obtain ⟨i, hil, hif⟩ := HINV.out.first x1
            have c1 : (w5.setCell ⟨gc, 0, none⟩ (.slice a2 (k + 1) cap2)).cell? ⟨gc, 1, none⟩ = some (.int .i64 (l : Int)) := hB6.c 1 (by omega)
            have c2 : (w5.setCell ⟨gc, 0, none⟩ (.slice a2 (k + 1) cap2)).cell? ⟨gc, 2, none⟩ = some (.slice (some ⟨q', 0, none⟩) (2 ^ l) (2 ^ l)) := hB6.c 2 (by omega)
            have cx : (w5.setCell ⟨gc, 0, none⟩ (.slice a2 (k + 1) cap2)).cell? ⟨xb, 1, none⟩ = some (.int .i64 x1) := (World.cell?_of_block (a := ⟨xb, 1, none⟩) (o6 xb (by omega))).trans gx1
            have CL := rlay_any (n := (k : Int)) ⟨rfl, by omega⟩ c1 c2 hR6 x1 hif hil
            have hlay : upd (layN R l k) (trl (uw x1) l i) (k : Int) = layN R l (k + 1) := by
              have hh : (nth R k).hash = x1 := by rw [HRk.out]
              rw [layN, layc, hh, fidx_eq hif]
            have HP := Lib.hid (hR6.put _ (trl_lt (uw x1) l i) (k : Int))
            rw [hlay] at HP
            have o7 : ∀ j, j ≠ q' → ((w5.setCell ⟨gc, 0, none⟩ (.slice a2 (k + 1) cap2)).setCell ⟨q', trl (uw x1) l i, none⟩ (.int .i64 (k : Int))).heap[j]? = (w5.setCell ⟨gc, 0, none⟩ (.slice a2 (k + 1) cap2)).heap[j]? := fun j hj => Below.heap_setCell _ _ _ _ hj
            have HB7 := Lib.hid (hB6.same (o7 gc (by omega)))
            have HE7 : Hid (EsB w3.heap.size ((w5.setCell ⟨gc, 0, none⟩ (.slice a2 (k + 1) cap2)).setCell ⟨q', trl (uw x1) l i, none⟩ (.int .i64 (k : Int))) (.slice a2 (k + 1) cap2) (R.take (k + 1))) := hE5.same' (fun j hj => by
              have := hgeE j hj
              rw [o7 j (by omega), o6 j (by omega)])
            have HX7 : Hid (Ex (fun k => k = gc ∨ k = q') w3 ((w5.setCell ⟨gc, 0, none⟩ (.slice a2 (k + 1) cap2)).setCell ⟨q', trl (uw x1) l i, none⟩ (.int .i64 (k : Int)))) := by
              obtain ⟨y1, y2, y3⟩ := HOS.out
              refine ⟨hgrow.os.trans y1, hgrow.tape.trans y2, hgrow.output.trans y3, by simp [World.setCell]; omega, fun j hj hx => ?_⟩
              have h1 : j ≠ gc := fun e => hx (.inl e)
              have h2 : j ≠ q' := fun e => hx (.inr e)
              rw [o7 j h2, o6 j h1, HGB.out w5 hgrow j (by omega) (fun e => by have := HNL.out j e; omega)]
              exact HBW.out j hj h1 h2
            clear hB5 hR5 hE5 hgeE o6 hB6 hR6 c1 c2 o7 hlay hif hil hown2 hgrow hat hb5 hb6 g0 gz0 gx1 p0 p1 p2 p3 p4 f0 z0
            generalize World.setCell _ ⟨gc, 0, none⟩ _ = w6 at *
            generalize World.setCell _ ⟨q', _, none⟩ _ = w7 at *
            go_wp2_with fail
            refine CL.mono ?_
            rintro e w8 ⟨rfl, rfl⟩
            clear CL
            go_wp2_with fail
            go_roundw
            case rel => exact ⟨k + 1, by omega, by go_num, _, HB7.out, HE7.out, HP.out, HX7.out⟩
            case measure => simp [intOf]; omega
        · have t1 : ¬ (k : Int) < (ll.length : Int) := by omega
          obtain rfl : k = ll.length := by omega
          have x3 : wr.cell? ⟨gc, 3, none⟩ = some (.int .i64 0) := hBk.c 3 (by omega)
          have x4 : wr.cell? ⟨gc, 4, none⟩ = some (.int .i64 0) := hBk.c 4 (by omega)
          have z3 := hBk.z 3
          have z4 := hBk.z 4
          have hgeE := hEk.ge
          have hRl := HRL.out
          rw [List.take_of_length_le (by omega : R.length ≤ ll.length)] at hEk
          obtain ⟨w4, hw4⟩ : ∃ y, (wr.setCell ⟨gc, 4, none⟩ (.int .i64 (ll.length : Int))).setCell ⟨gc, 3, none⟩ (.int .i64 (ll.length : Int)) = y := ⟨_, rfl⟩
          have o4 : ∀ j, j ≠ gc → w4.heap[j]? = wr.heap[j]? := fun j hj => by rw [← hw4, Below.heap_setCell _ _ _ _ hj, Below.heap_setCell _ _ _ _ hj]
          have hB4 : Blk w4 gc 8 (ccF evk l q' ll.length ll.length (.pointer pm)) := by
            rw [← hw4]
            exact ((hBk.put 4 _).put 3 _).congr (fun j hj => by
              have : j = 0 ∨ j = 1 ∨ j = 2 ∨ j = 3 ∨ j = 4 ∨ j = 5 ∨ j = 6 ∨ j = 7 := by omega
              rcases this with rfl | rfl | rfl | rfl | rfl | rfl | rfl | rfl <;> rfl)
          have hcpl : t.cp.live = ll.length := by rw [Tb.cp_live, HLLE.out]
          have hsz3 := hXk.size
          have HRT : Hid (Rt w4 gc evk q' t.cp (.pointer pm)) := by
            have e1 : t.cp = ⟨R, l, layN R l ll.length, ll.length, 1, 0⟩ := by
              have e2 : t.live = ll.length := by rw [HLV.out]
              unfold Tb.cp
              rw [HLLE.out, HR0.out, ← e2, HCL.out]
            refine ⟨hB4.congr (fun j hj => ?_), ?_, ?_, fun j hj => ?_, ?_, fun j hj => ?_⟩
            · have : j = 0 ∨ j = 1 ∨ j = 2 ∨ j = 3 ∨ j = 4 ∨ j = 5 ∨ j = 6 ∨ j = 7 := by omega
              rcases this with rfl | rfl | rfl | rfl | rfl | rfl | rfl | rfl
              · rfl
              · show Value.int .i64 (t.cp.L : Int) = _
                rw [e1]; rfl
              · show Value.slice (some ⟨q', 0, none⟩) (2 ^ t.cp.L) (2 ^ t.cp.L) = _
                rw [e1]; rfl
              · show Value.int .i64 (t.cp.live : Int) = _
                rw [hcpl]; rfl
              · show Value.int .i64 (t.cp.births : Int) = _
                rw [e1]; rfl
              · rfl
              · rfl
              · rfl
            · rw [e1]
              exact hEk.es.same fun j hj => o4 j (by have := hgeE j hj; omega)
            · rw [e1]
              exact hRk.same (o4 q' (by omega))
            · have := hgeE j hj
              exact ⟨by omega, by omega⟩
            · rw [e1]
              exact ⟨hl3, by show l ≤ 20; omega⟩
            · have h1 := hlm j hj
              exact ⟨by omega, by omega, fun e => by have := hgeE j e; omega⟩
          have HMS : Hid (Ms w4 (.pointer pm) (a + 1) b c d) := HM3.out.same fun j hj => by
            have h1 := hlm j hj
            rw [o4 j (by omega)]
            exact hXk.block j (by omega) (fun h => by omega)
          have HEX : Hid (Ex (mB (.pointer pm)) w w4) := by
            have h1 : Ex (mB (.pointer pm)) w wr := HX3.out.next hXk (fun j hj h => by omega)
            rw [← hw4]
            exact (h1.setCell (p := ⟨gc, 4, none⟩) (fun (h : gc < w.heap.size) => by omega) _).setCell (p := ⟨gc, 3, none⟩) (fun (h : gc < w.heap.size) => by omega) _
          have HGE : Hid (∀ j, evk.ownBlock = some j → w.heap.size ≤ j) := fun j hj => by have := hgeE j hj; omega
          have HW4 := Lib.hid hw4
          clear hBk hEk hRk hXk hB4 o4 hgeE hw4 hRl hcpl
          go_wp2
          rw [HW4.out]
          go_ret
          exact ⟨gc, rfl, hgq.1, q', by omega, evk, HGE.out, HRT.out, HMS.out, HEX.out⟩
end Go.Proofs.YtdjabdmnknlaeaaGreat
namespace Go.Proofs.YtdjabdmnknlaeaaGreat
open Go.RowKit Go.WideShapes

/-- The document's table of t. -/
abbrev RtS (w : World) (g : Nat) (ev : Value) (q : Nat) (t : Tb) (mv : Value) : Prop := Rt w g ev q t.sh mv
theorem Tb.cp_live_all (t : Tb) : ∀ e ∈ t.cp.es, e.live = true := fun e he0 => by
  have he : e ∈ reb (liveL t.es) (liveL t.es).length := he0
  obtain ⟨n, hn, hx⟩ : ∃ n, n < (reb (liveL t.es) (liveL t.es).length).length ∧ nth (reb (liveL t.es) (liveL t.es).length) n = e := by
    obtain ⟨n, hn, he⟩ := List.getElem_of_mem he
    exact ⟨n, hn, by unfold nth; rw [List.getD_eq_getElem?_getD, List.getElem?_eq_getElem hn, Option.getD_some]; exact he⟩
  rw [← hx]
  exact reb_live (fun n hn => liveL_nth _ n hn) _ n (by rwa [reb_len] at hn)
theorem Tb.sh_cp (t : Tb) : t.cp.sh = t.sh.cp := by
  have h1 : t.sh.cp = t.cp := by
    unfold Tb.cp
    show (⟨reb (liveL (shw t.es)) (liveL (shw t.es)).length, cplog (liveL (shw t.es)).length, layN (reb (liveL (shw t.es)) (liveL (shw t.es)).length) (cplog (liveL (shw t.es)).length) (liveL (shw t.es)).length, (liveL (shw t.es)).length, 1, 0⟩ : Tb) = _
    rw [liveL_sh]
  rw [h1]
  have h2 := shw_all t.cp_live_all
  unfold Tb.sh
  rw [h2]
theorem radd_s {w : World} {g : Nat} {ev : Value} {q : Nat} {t : Tb} {mv : Value} {a b c d : Int} (hR : RtS w g ev q t mv) (hO : t.Ok) (hM : Ms w mv a b c d) (hm : t.made ≤ 1000000) (ha : 0 ≤ a ∧ a ≤ 1000000000) (ht : t.turn ≤ 1000000) (hb : t.births < 100000) (u k v : Int) :
    Calls Tryz.prog 23 #[.pointer (some ⟨g, 0, none⟩), .int .i64 u, .int .i64 k, .int .i64 v] w fun e w' => e = .returned (.tuple #[.int .i64 (((t.add u k v).es.length - 1 : Nat) : Int), .int .i64 0]) ∧ ∃ ev' q', (q' = q ∨ w.heap.size ≤ q') ∧ (∀ j, ev'.ownBlock = some j → ev.ownBlock = some j ∨ w.heap.size ≤ j) ∧ RtS w' g ev' q' (t.add u k v) mv ∧ Ms w' mv (a + ((t.add u k v).made - t.made : Nat)) b c d ∧ Ex (tX g ev q mv) w w' := by
  have h := radd_any hR hO.sh hM hm ha ht hb u k v
  rw [← Tb.sh_add, Tb.sh_len] at h
  exact h
theorem rput_no_s {w : World} {g : Nat} {ev : Value} {q : Nat} {t : Tb} {mv : Value} (hR : RtS w g ev q t mv) (n v : Int) (hn : ¬ t.has n) :
    Calls Tryz.prog 25 #[.pointer (some ⟨g, 0, none⟩), .int .i64 n, .int .i64 v] w fun e w' => e = .returned (.int .i64 7) ∧ w' = w := rput_no hR n v (fun h => hn ((t.sh_has n).1 h))
theorem rput_yes_s {w : World} {g : Nat} {ev : Value} {q : Nat} {t : Tb} {mv : Value} (hR : RtS w g ev q t mv) (n : Nat) (v : Int) (hn : n < t.es.length) (hl : (nth t.es n).live = true) :
    Calls Tryz.prog 25 #[.pointer (some ⟨g, 0, none⟩), .int .i64 (n : Int), .int .i64 v] w fun e w' => e = .returned (.int .i64 0) ∧ RtS w' g ev q (t.putv n v) mv ∧ Ex (fun k => ev.ownBlock = some k) w w' := by
  have h := rput_yes hR n v (by rw [Tb.sh_len]; exact hn) (by show (nth (shw t.es) n).live = true; rw [sh_is]; exact hl)
  rw [← Tb.sh_putv t n hl v] at h
  exact h
theorem rat_no_s {w : World} {g : Nat} {ev : Value} {q : Nat} {t : Tb} {mv : Value} (hR : RtS w g ev q t mv) (n : Int) (hn : ¬ t.has n) :
    Calls Tryz.prog 29 #[.pointer (some ⟨g, 0, none⟩), .int .i64 n] w fun e w' => e = .returned (.tuple #[.agg #[.bool false, .int .i64 0, .int .i64 0, .int .i64 0, .int .i64 0], .int .i64 7]) ∧ Below w.heap.size w w' := rat_no hR n (fun h => hn ((t.sh_has n).1 h))
theorem rat_yes_s {w : World} {g : Nat} {ev : Value} {q : Nat} {t : Tb} {mv : Value} (hR : RtS w g ev q t mv) (n : Nat) (hn : n < t.es.length) (hl : (nth t.es n).live = true) :
    Calls Tryz.prog 29 #[.pointer (some ⟨g, 0, none⟩), .int .i64 (n : Int)] w fun e w' => e = .returned (.tuple #[enV (nth t.es n), .int .i64 0]) ∧ Below w.heap.size w w' := by
  have h := rat_yes hR n (by rw [Tb.sh_len]; exact hn) (by show (nth (shw t.es) n).live = true; rw [sh_is]; exact hl)
  rw [show nth t.sh.es n = nth t.es n from shown_hash hl] at h
  exact h
theorem rkill_no_s {w : World} {g : Nat} {ev : Value} {q : Nat} {t : Tb} {mv : Value} (hR : RtS w g ev q t mv) (n : Int) (hn : ¬ t.has n) :
    Calls Tryz.prog 27 #[.pointer (some ⟨g, 0, none⟩), .int .i64 n] w fun e w' => e = .returned (.int .i64 7) ∧ w' = w := rkill_no hR n (fun h => hn ((t.sh_has n).1 h))
theorem rkill_yes_s {w : World} {g : Nat} {ev : Value} {q : Nat} {t : Tb} {mv : Value} (hR : RtS w g ev q t mv) (n : Nat) (hn : n < t.es.length) (hl : (nth t.es n).live = true) (hlen : t.es.length ≤ 100000) (ht : t.turn ≤ 1000000) :
    Calls Tryz.prog 27 #[.pointer (some ⟨g, 0, none⟩), .int .i64 (n : Int)] w fun e w' => e = .returned (.int .i64 0) ∧ RtS w' g ev q (t.kill n) mv ∧ Ex (fun k => k = g ∨ k = q ∨ ev.ownBlock = some k) w w' := by
  have h := rkill_yes hR n (by rw [Tb.sh_len]; exact hn) (by show (nth (shw t.es) n).live = true; rw [sh_is]; exact hl) (by rw [Tb.sh_len]; exact hlen) ht
  rw [← Tb.sh_kill] at h
  exact h
theorem rclear_s {w : World} {g : Nat} {ev : Value} {q : Nat} {t : Tb} {mv : Value} {a b c d : Int} (hR : RtS w g ev q t mv) (hM : Ms w mv a b c d) (hm : t.made ≤ 1000000) (ha : 0 ≤ a ∧ a ≤ 1000000000) (ht : t.turn ≤ 1000000) :
    Calls Tryz.prog 31 #[.pointer (some ⟨g, 0, none⟩)] w fun e w' => e = .returned (.tuple #[]) ∧ ∃ q', w.heap.size ≤ q' ∧ RtS w' g (.slice none 0 0) q' t.clear mv ∧ Ms w' mv (a + 1) b c d ∧ Ex (fun k => k = g ∨ mB mv k) w w' := rclear_any hR hM hm ha ht
theorem rsight_s {w : World} {g : Nat} {ev : Value} {q : Nat} {t : Tb} {mv : Value} (hR : RtS w g ev q t mv) (hn : t.es.length ≤ 100000) :
    Calls Tryz.prog 13 #[.pointer (some ⟨g, 0, none⟩)] w fun e w' => ∃ ca cc ea ec, e = .returned (siV (t.L : Int) (wd t.L : Int) ca (2 ^ t.L) cc ea t.es.length ec (t.live : Int) (t.births : Int) (t.made : Int)) ∧ SlN w' ca (2 ^ t.L) cc t.c ∧ SlE w' ea t.es.length ec (shw t.es) ∧ Below w.heap.size w w' := by
  have h := rsight_any hR (by rw [Tb.sh_len]; exact hn)
  rw [Tb.sh_len, Tb.sh_live] at h
  exact h
theorem rseek_s {w : World} {g : Nat} {ev : Value} {q : Nat} {t : Tb} {mv : Value} (hR : RtS w g ev q t mv) (u : Int) :
    Calls Tryz.prog 35 #[.pointer (some ⟨g, 0, none⟩), .int .i64 u] w fun e w' => ∃ s, e = .returned (.pointer (some ⟨s, 0, none⟩)) ∧ w.heap.size ≤ s ∧ Blk w' s 8 (sF g u t.turn (trl (uw u) t.L 0) (uw u) false 0 (-1)) ∧ Below w.heap.size w w' := rseek_any hR u
theorem rnext_s {w : World} {g : Nat} {ev : Value} {q : Nat} {t : Tb} {pm : Option Addr} {a b c d : Int} {s i vis f : Nat} {u last : Int} (hR : RtS w g ev q t (.pointer pm)) (hI : Inv t.es t.L t.c) (hM : Ms w (.pointer pm) a b c d) (hs : s ≠ g ∧ s ≠ q ∧ ev.ownBlock ≠ some s) (hsm : ¬ mB (.pointer pm) s)
    (hB : Blk w s 8 (sF g u t.turn (trl (uw u) t.L i) (uw u / 32 ^ i) false vis last)) (hT : Told t.es t.L t.c u i last) (hF : IsF t.c (uw u) t.L f) (hif : i ≤ f) (hf : f < 2 ^ t.L + 13) (hv : vis ≤ 1000000000) (hb : 0 ≤ b ∧ b ≤ 100000000000) (hla : -1 ≤ last) (hlen : t.es.length ≤ 100000) :
    Calls Tryz.prog 37 #[.pointer (some ⟨s, 0, none⟩)] w fun e w' => ∃ j, i ≤ j ∧ j ≤ f ∧
      ((∃ n : Nat, e = .returned (.tuple #[.int .i64 (n : Int), .bool true]) ∧ Of t.es u n ∧ last < (n : Int) ∧ t.c (trl (uw u) t.L j) = (n : Int) ∧ Told t.es t.L t.c u j last ∧ Told t.es t.L t.c u (j + 1) (n : Int) ∧ (∀ m, Of t.es u m → last < (m : Int) → n ≤ m) ∧ Rk w' s g u t (.pointer pm) a b c d w i vis (n : Int) (j + 1) false) ∨
       (e = .returned (.tuple #[.int .i64 (-1), .bool false]) ∧ j = f ∧ (∀ n, Of t.es u n → (n : Int) ≤ last) ∧ Rk w' s g u t (.pointer pm) a b c d w i vis last (j + 1) true)) := by
  refine (rnext_any hR hI.sh hM hs hsm hB (told_sh.2 hT) hF hif hf hv hb hla (by rw [Tb.sh_len]; exact hlen)).mono ?_
  rintro e w' ⟨j, h1, h2, (⟨n, h3, h4, h5, h6, h7, h8, h9, h10⟩ | ⟨h3, h4, h5, h6⟩)⟩
  · exact ⟨j, h1, h2, .inl ⟨n, h3, of_sh.1 h4, h5, h6, told_sh.1 h7, told_sh.1 h8, fun m hm hl => h9 m (of_sh.2 hm) hl, ⟨h10.bk, h10.ms, h10.ex⟩⟩⟩
  · exact ⟨j, h1, h2, .inr ⟨h3, h4, fun n hn => h5 n (of_sh.2 hn), ⟨h6.bk, h6.ms, h6.ex⟩⟩⟩
theorem rcopy_s {w : World} {g : Nat} {ev : Value} {q : Nat} {t : Tb} {pm : Option Addr} {a b c d : Int} (hR : RtS w g ev q t (.pointer pm)) (hO : t.Ok) (hM : Ms w (.pointer pm) a b c d) (ha : 0 ≤ a ∧ a ≤ 1000000000) :
    Calls Tryz.prog 33 #[.pointer (some ⟨g, 0, none⟩)] w fun e w' => ∃ g' q' ev', e = .returned (.pointer (some ⟨g', 0, none⟩)) ∧ w.heap.size ≤ g' ∧ w.heap.size ≤ q' ∧ (∀ k, ev'.ownBlock = some k → w.heap.size ≤ k) ∧ RtS w' g' ev' q' t.cp (.pointer pm) ∧ Ms w' (.pointer pm) (a + 1) b c d ∧ Ex (mB (.pointer pm)) w w' := by
  have h := rcopy_any hR hO.sh hM ha
  rw [← Tb.sh_cp] at h
  exact h
theorem rtnew_s {w : World} {mv : Value} {a b c d : Int} (hM : Ms w mv a b c d) (ha : 0 ≤ a ∧ a ≤ 1000000000) :
    Calls Tryz.prog 9 #[mv] w fun e w' => ∃ g q, e = .returned (.pointer (some ⟨g, 0, none⟩)) ∧ w.heap.size ≤ g ∧ w.heap.size ≤ q ∧ RtS w' g (.slice none 0 0) q Tb.new mv ∧ Ms w' mv (a + 1) b c d ∧ Ex (mB mv) w w' := rtnew_any hM ha
end Go.Proofs.YtdjabdmnknlaeaaGreat
