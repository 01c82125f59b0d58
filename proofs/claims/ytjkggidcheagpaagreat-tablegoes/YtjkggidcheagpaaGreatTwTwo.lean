/-
  TableTwo, walked.
-/
import Derived.Test.YtjkggidcheagpaaGreatTwPlays
import Derived.Test.YtjkggidcheagpaaGreatLdn
import Derived.Test.YtjkggidcheagpaaGreatLwOnceV
namespace Go.Proofs.YtjkggidcheagpaaGreat
open Go.RowKit Go.WideShapes

theorem noneB {k : Nat} (h : mB (.pointer none) k) : False := by cases h
theorem Ex.nix {w w' : World} (h : Ex (mB (.pointer none)) w w') : Below w.heap.size w w' := ⟨h.os, h.tape, h.output, h.size, fun k hk => h.block k hk noneB⟩
theorem Ex.nix2 {w w' : World} (h : Ex (fun k => mB (.pointer none) k ∨ mB (.pointer none) k) w w') : Below w.heap.size w w' := ⟨h.os, h.tape, h.output, h.size, fun k hk => h.block k hk (fun x => x.elim noneB noneB)⟩
theorem S5.below {W W' : World} {a : Option Addr} {n c : Nat} {G : Nat → Nat → Int} (h : S5 W a n c G) (hb : Below W.heap.size W W') : S5 W' a n c G := by
  obtain ⟨h1, b, off, h2, h3⟩ := h
  exact ⟨h1, b, off, fun h0 => ⟨(h2 h0).1, Nat.lt_of_lt_of_le (h2 h0).2 hb.size⟩, fun i hi k hk => (hb.cell (p := ⟨b, off + (i * 5 + k), none⟩) (h2 (by omega)).2).trans (h3 i hi k hk)⟩
/-- plays without meters. -/
theorem plays_none {w : World} {a0 : Option Addr} {n c0 : Nat} {G : Nat → Nat → Int} (hrow : S5 w a0 n c0 G) (hn : n ≤ 400) :
    Calls Tryz.prog 5 #[.bool false, .slice a0 n c0, .pointer none, .pointer none] w fun e w' => ∃ X p t a b, e = .returned (.tuple #[.pointer (some ⟨X, 0, none⟩), .bool true]) ∧ Py w (.pointer none) (.pointer none) noM X p t a b n w' ∧ Below w.heap.size w w' :=
  (plays_any mtOk_nil mvOk_nil (M := noM) trivial (.inl rfl) (fun _ h => (noneB h).elim) (fun _ hV => hrow.below hV.nix2) hn).mono fun _ _ ⟨X, p, t, a, b, h1, h2⟩ => ⟨X, p, t, a, b, h1, h2, h2.ex.nix2⟩
/-- A copy beside what it was made of: new tables, no Seekers. -/
theorem tw_new {w1 w2 w3 : World} {t : Tb} {mv mr : Value} (hmv : mv = .pointer none) (hmr : mr = .pointer none) (ok : t.Ok) {B g gi r h : Nat} {ev : Value} {g2 q2 : Nat} {ev2 : Value} {ty : TypeId}
    (hd : Dt w1 g gi r h ev t mv) (fd : ∀ k, dX g gi r h ev k → B ≤ k) (hr : RtS w2 g2 ev2 q2 t mr) (fr : ∀ k, (k = g2 ∨ k = q2 ∨ ev2.ownBlock = some k) → w1.heap.size ≤ k) (hB1 : B ≤ w1.heap.size) (hb : Below w1.heap.size w1 w2) (hw3 : w2.alloc (.cells #[.pointer (some ⟨g, 0, none⟩), .pointer (some ⟨g2, 0, none⟩), .pointer none, .pointer none] ty) = w3) :
    Tw w3 w2.heap.size ⟨g, gi, r, h, ev, g2, q2, ev2, .pointer none, .pointer none⟩ t mv mr noM 1 0 ∧ (∀ k, Pl.all ⟨g, gi, r, h, ev, g2, q2, ev2, .pointer none, .pointer none⟩ w2.heap.size k → B ≤ k) := by
  have hb3 : Below w2.heap.size w2 w3 := by rw [← hw3]; exact (Below.refl _ w2).alloc (Nat.le_refl _) _
  have hs3 : w3.heap.size = w2.heap.size + 1 := by rw [← hw3]; simp
  have hs := hb.size
  have hdl := hd.lt
  have hrl := hr.lt
  refine ⟨⟨?_, (hd.below hb).below hb3, hr.below hb3, ok, trivial, .inl hmr, .inl rfl, ?_⟩, ?_⟩
  · rw [← hw3]
    refine (Blk.new w2 _ _).congr fun j hj => ?_
    have : j = 0 ∨ j = 1 ∨ j = 2 ∨ j = 3 := by simp at hj; omega
    rcases this with rfl | rfl | rfl | rfl <;> rfl
  · refine ⟨fun k => if k = w2.heap.size then 0 else if w1.heap.size ≤ k then 2 else 1, ?_, ?_, ?_, ?_, ?_, ?_, ?_, ?_⟩
    · rintro k (rfl | y | y | y | y)
      · omega
      · have := hdl k y; omega
      · have := hrl k y; omega
      · cases y
      · cases y
    · show (if _ then 0 else _) = 0
      rw [if_pos rfl]
    · intro k y
      have := hdl k y
      show (if k = w2.heap.size then 0 else _) = 1
      rw [if_neg (by omega), if_neg (by omega)]
    · intro k y
      have := hrl k y
      have := fr k y
      show (if k = w2.heap.size then 0 else _) = 2
      rw [if_neg (by omega), if_pos (by omega)]
    · intro k y; cases y
    · intro k y; cases y
    · intro k y; rw [hmv] at y; exact (noneB y).elim
    · intro k y; rw [hmr] at y; exact (noneB y).elim
  · rintro k (rfl | y | y | y | y)
    · omega
    · exact fd k y
    · have := fr k y; omega
    · cases y
    · cases y
/-- Two of them, with nothing in common. -/
structure Pw (w0 w : World) (X Y : Nat) (p p' : Pl) (t t' : Tb) (a b a' b' : Int) (n : Nat) : Prop where
  x : Tw w X p t (.pointer none) (.pointer none) noM a b
  y : Tw w Y p' t' (.pointer none) (.pointer none) noM a' b'
  bx : Bd t a b n
  by_ : Bd t' a' b' n
  ap : ∀ k, p.all X k → ¬ p'.all Y k
  fx : ∀ k, p.all X k → w0.heap.size ≤ k
  fy : ∀ k, p'.all Y k → w0.heap.size ≤ k
  bl : Below w0.heap.size w0 w
theorem Bd.mono {t : Tb} {a b : Int} {n m : Nat} (h : Bd t a b n) (hn : n ≤ m) : Bd t a b m := by
  obtain ⟨d1, d2, d3, d4, d5, d6, d7⟩ := h
  exact ⟨by omega, by omega, by omega, d4, by omega, d6, by omega⟩
theorem Pw.stepx {w0 w w1 : World} {X Y : Nat} {p p' p1 : Pl} {t t' t1 : Tb} {a b a' b' a1 b1 : Int} {n : Nat} (h : Pw w0 w X Y p p' t t' a b a' b' n) (d : Dn w X p (.pointer none) (.pointer none) noM (n + 1) p1 t1 a1 b1 w1) : Pw w0 w1 X Y p1 p' t1 t' a1 b1 a' b' (n + 1) := by
  obtain ⟨lab, sp⟩ := h.y.sep
  refine ⟨d.tw, h.y.keep mtOk_nil d.ex.size (fun k hk hy => d.ex.block k hk (fun hx => ?_)), d.bd, h.by_.mono (Nat.le_succ _), fun k hk hy => ?_, fun k hk => ?_, h.fy, ?_⟩
  · rcases hy with hy | hy | hy
    · rcases hx with hx | hx | hx
      · exact h.ap k hx hy
      · exact noneB hx
      · exact noneB hx
    · exact noneB hy
    · exact noneB hy
  · rcases d.fx k hk with z | z
    · exact h.ap k z hy
    · have := sp.lt k hy; omega
  · rcases d.fx k hk with z | z
    · exact h.fx k z
    · exact Nat.le_trans h.bl.size z
  · refine h.bl.trans ⟨d.ex.os, d.ex.tape, d.ex.output, d.ex.size, fun k hk => d.ex.block k (Nat.lt_of_lt_of_le hk h.bl.size) (fun hx => ?_)⟩
    rcases hx with hx | hx | hx
    · have := h.fx k hx; omega
    · exact noneB hx
    · exact noneB hx
theorem Pw.swap {w0 w : World} {X Y : Nat} {p p' : Pl} {t t' : Tb} {a b a' b' : Int} {n : Nat} (h : Pw w0 w X Y p p' t t' a b a' b' n) : Pw w0 w Y X p' p t' t a' b' a b n := ⟨h.y, h.x, h.by_, h.bx, fun k hy hx => h.ap k hx hy, h.fy, h.fx, h.bl⟩
theorem Pw.mono {w0 w : World} {X Y : Nat} {p p' : Pl} {t t' : Tb} {a b a' b' : Int} {n m : Nat} (h : Pw w0 w X Y p p' t t' a b a' b' n) (hm : n ≤ m) : Pw w0 w X Y p p' t t' a b a' b' m := ⟨h.x, h.y, h.bx.mono hm, h.by_.mono hm, h.ap, h.fx, h.fy, h.bl⟩
theorem Pw.below {w0 w w' : World} {X Y : Nat} {p p' : Pl} {t t' : Tb} {a b a' b' : Int} {n : Nat} (h : Pw w0 w X Y p p' t t' a b a' b' n) (hb : Below w.heap.size w w') : Pw w0 w' X Y p p' t t' a b a' b' n := ⟨h.x.below mtOk_nil hb, h.y.below mtOk_nil hb, h.bx, h.by_, h.ap, h.fx, h.fy, h.bl.trans (hb.mono h.bl.size)⟩
end Go.Proofs.YtjkggidcheagpaaGreat
