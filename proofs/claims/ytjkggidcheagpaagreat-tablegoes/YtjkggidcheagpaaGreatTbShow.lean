/-
  A table as it is told: dead entries keep nothing. No program.
-/
import Derived.Test.YtjkggidcheagpaaGreatBas
namespace Go.Proofs.YtjkggidcheagpaaGreat

/-- A table as it is told. -/
def Tb.sh (t : Tb) : Tb := { t with es := shw t.es }
theorem liveL_sh (es : List En) : liveL (shw es) = liveL es := by
  induction es with
  | nil => rfl
  | cons e r ih =>
    show liveL (e.shown :: shw r) = _
    rw [liveL, liveL, e.shown_is, ih]
    by_cases h : e.live = true
    · rw [if_pos h, if_pos h, En.shown_live h]
    · rw [if_neg h, if_neg h]
theorem Tb.sh_len (t : Tb) : t.sh.es.length = t.es.length := shw_len _
theorem Tb.sh_live (t : Tb) : t.sh.live = t.live := by
  show (shw t.es).length - deadN (shw t.es) = _
  rw [shw_len, deadN_shw]
  rfl
theorem shown_hash {es : List En} {n : Nat} (h : (nth es n).live = true) : nth (shw es) n = nth es n := by rw [nth_shw, En.shown_live h]
theorem sh_is (es : List En) (n : Nat) : (nth (shw es) n).live = (nth es n).live := by rw [nth_shw, En.shown_is]
theorem of_sh {es : List En} {u : Int} {n : Nat} : Of (shw es) u n ↔ Of es u n := by
  constructor
  · rintro ⟨h1, h2, h3⟩
    rw [sh_is] at h2
    rw [shown_hash h2] at h3
    exact ⟨by rw [shw_len] at h1; exact h1, h2, h3⟩
  · rintro ⟨h1, h2, h3⟩
    exact ⟨by rw [shw_len]; exact h1, by rw [sh_is]; exact h2, by rw [shown_hash h2]; exact h3⟩
theorem pos_sh {es : List En} {L : Nat} {c : Nat → Int} {n i : Nat} (hl : (nth es n).live = true) : Pos (shw es) L c n i ↔ Pos es L c n i := by
  unfold Pos
  rw [shown_hash hl]
theorem told_sh {es : List En} {L : Nat} {c : Nat → Int} {u : Int} {i : Nat} {last : Int} : Told (shw es) L c u i last ↔ Told es L c u i last := by
  constructor
  · intro h n hn p hp
    exact h n (of_sh.2 hn) p ((pos_sh hn.2.1).2 hp)
  · intro h n hn p hp
    exact h n (of_sh.1 hn) p ((pos_sh (of_sh.1 hn).2.1).1 hp)
theorem Inv.sh {es : List En} {L : Nat} {c : Nat → Int} (h : Inv es L c) : Inv (shw es) L c :=
  ⟨by rw [shw_len]; exact h.room, fun x hx => by
    rcases h.val x hx with a | a | ⟨n, a, b, d⟩
    · exact .inl a
    · exact .inr (.inl a)
    · exact .inr (.inr ⟨n, by rw [shw_len]; exact a, b, by rw [sh_is]; exact d⟩), h.inj, fun n hn hl => by
    rw [shw_len] at hn
    rw [sh_is] at hl
    obtain ⟨i, hi⟩ := h.pos n hn hl
    exact ⟨i, (pos_sh hl).2 hi⟩, by rw [shw_len]; exact h.used, by rw [deadN_shw]; exact h.dead⟩
theorem Tb.Ok.sh {t : Tb} (h : t.Ok) : t.sh.Ok := ⟨h.inv.sh, h.sz, by rw [t.sh_len]; exact h.few, h.all⟩
theorem Tb.sh_has (t : Tb) (n : Int) : t.sh.has n ↔ t.has n := by
  unfold Tb.has
  rw [t.sh_len]
  show _ ∧ _ ∧ (nth (shw t.es) n.toNat).live = true ↔ _
  rw [sh_is]
theorem shw_set (es : List En) (n : Nat) (e : En) : shw (es.set n e) = (shw es).set n e.shown := by
  unfold shw
  rw [List.map_set]
theorem Tb.sh_push (t : Tb) (u k v : Int) : (t.push u k v).sh = t.sh.push u k v := by
  unfold Tb.push Tb.sh
  simp only
  rw [shw_app, shw_len]
  rfl
theorem Tb.sh_re (t : Tb) (log : Nat) : (t.re log).sh = t.sh.re log := by
  unfold Tb.re Tb.sh
  simp only
  rw [liveL_sh, shw_all (liveL_live t.es)]
theorem Tb.sh_add (t : Tb) (u k v : Int) : (t.add u k v).sh = t.sh.add u k v := by
  unfold Tb.add
  rw [Tb.sh_push, t.sh_live, t.sh_len]
  by_cases h : t.es.length < rm (2 ^ t.L)
  · rw [if_pos h, if_pos (show t.es.length < rm (2 ^ t.sh.L) from h)]
  · rw [if_neg h, if_neg (show ¬ t.es.length < rm (2 ^ t.sh.L) from h), Tb.sh_re]
theorem Tb.sh_kill (t : Tb) (n : Nat) : (t.kill n).sh = t.sh.killz n := by
  unfold Tb.kill Tb.killz Tb.sh
  simp only
  rw [shw_set]
  rfl
theorem Tb.sh_putv (t : Tb) (n : Nat) (hl : (nth t.es n).live = true) (v : Int) : (t.putv n v).sh = t.sh.putv n v := by
  unfold Tb.putv Tb.sh
  simp only
  rw [shw_set, shown_hash hl, En.shown_live (by exact hl)]
theorem Tb.sh_clear (t : Tb) : t.clear.sh = t.sh.clear := rfl
end Go.Proofs.YtjkggidcheagpaaGreat
