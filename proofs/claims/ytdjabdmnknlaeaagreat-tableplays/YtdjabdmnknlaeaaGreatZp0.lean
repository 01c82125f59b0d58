/-
  TableTwo, walked.
  plays from a zero table on: how it stands.
  plays from a zero table on, walked but for some places.
-/
import Derived.Test.YtdjabdmnknlaeaaGreatTwPlays
import Derived.Test.YtdjabdmnknlaeaaGreatLdn
import Derived.Test.YtdjabdmnknlaeaaGreatZtm
namespace Go.Proofs.YtdjabdmnknlaeaaGreat
open Go.RowKit Go.WideShapes

theorem noneB {k : Nat} (h : mB (.pointer none) k) : False := by cases h
theorem Ex.nix {w w' : World} (h : Ex (mB (.pointer none)) w w') : Below w.heap.size w w' := ⟨h.os, h.tape, h.output, h.size, fun k hk => h.block k hk noneB⟩
theorem Ex.nix2 {w w' : World} (h : Ex (fun k => mB (.pointer none) k ∨ mB (.pointer none) k) w w') : Below w.heap.size w w' := ⟨h.os, h.tape, h.output, h.size, fun k hk => h.block k hk (fun x => x.elim noneB noneB)⟩
theorem S5.below {W W' : World} {a : Option Addr} {n c : Nat} {G : Nat → Nat → Int} (h : S5 W a n c G) (hb : Below W.heap.size W W') : S5 W' a n c G := by
  obtain ⟨h1, b, off, h2, h3⟩ := h
  exact ⟨h1, b, off, fun h0 => ⟨(h2 h0).1, Nat.lt_of_lt_of_le (h2 h0).2 hb.size⟩, fun i hi k hk => (hb.cell (p := ⟨b, off + (i * 5 + k), none⟩) (h2 (by omega)).2).trans (h3 i hi k hk)⟩
/-- plays without meters. -/
theorem plays_none {w : World} {a0 : Option Addr} {n c0 : Nat} {G : Nat → Nat → Int} (hrow : S5 w a0 n c0 G) (hn : n ≤ 400) :
    Calls Tryz.prog 5 #[.bool false, .slice a0 n c0, .pointer none, .pointer none] w fun e w' => ∃ X p t a b, e = .returned (.tuple #[.pointer (some ⟨X, 0, none⟩), .bool true]) ∧ Py w (.pointer none) (.pointer none) noM X p t a b n w' ∧ Below w.heap.size w w' :=
  (plays_any mtOk_nil mvOk_nil (M := noM) trivial (.inl rfl) (fun _ h => (noneB h).elim) (fun _ hV => hrow.below hV.nix2) hn).mono fun _ _ ⟨X, p, t, a, b, h1, h2⟩ => ⟨X, p, t, a, b, h1, h2, h2.ex.nix2⟩
/-- A copy beside what it was made of: new tables, no Seekers. -/
theorem tw_new {w1 w2 w3 : World} {t : Tb} {mv mr : Value} (hmv : mv = .pointer none) (hmr : mr = .pointer none) (ok : t.Ok) {B g gi r h : Nat} {ev : Value} {g2 q2 : Nat} {ev2 : Value} {ty : TypeId}
    (hd : Dt w1 g gi r h ev t mv) (fd : ∀ k, dX g gi r h ev k → B ≤ k) (hr : RtS w2 g2 ev2 q2 t mr) (fr : ∀ k, (k = g2 ∨ k = q2 ∨ ev2.ownBlock = some k) → w1.heap.size ≤ k) (hB1 : B ≤ w1.heap.size) (hb : Below w1.heap.size w1 w2) (hw3 : w2.alloc (.cells #[.pointer (some ⟨g, 0, none⟩), .pointer (some ⟨g2, 0, none⟩), .pointer none, .pointer none] ty) = w3) :
    Tw w3 w2.heap.size ⟨g, gi, r, h, ev, g2, q2, ev2, .pointer none, .pointer none⟩ t mv mr noM 1 0 ∧ (∀ k, Pl.all ⟨g, gi, r, h, ev, g2, q2, ev2, .pointer none, .pointer none⟩ w2.heap.size k → B ≤ k) := by
  have hb3 : Below w2.heap.size w2 w3 := by rw [← hw3]; exact (Below.refl _ w2).alloc (Nat.le_refl _) _
  have hs3 : w3.heap.size = w2.heap.size + 1 := by rw [← hw3]; simp
  have hs := hb.size
  have hdl := hd.lt
  have hrl := hr.lt
  refine ⟨⟨?_, (hd.below hb).below hb3, hr.below hb3, ok, trivial, .inl hmr, .inl rfl, ?_⟩, ?_⟩
  · rw [← hw3]
    refine (Blk.new w2 _ _).congr fun j hj => ?_
    have : j = 0 ∨ j = 1 ∨ j = 2 ∨ j = 3 := by simp at hj; omega
    rcases this with rfl | rfl | rfl | rfl <;> rfl
  · refine ⟨fun k => if k = w2.heap.size then 0 else if w1.heap.size ≤ k then 2 else 1, ?_, ?_, ?_, ?_, ?_, ?_, ?_, ?_⟩
    · rintro k (rfl | y | y | y | y)
      · omega
      · have := hdl k y; omega
      · have := hrl k y; omega
      · cases y
      · cases y
    · show (if _ then 0 else _) = 0
      rw [if_pos rfl]
    · intro k y
      have := hdl k y
      show (if k = w2.heap.size then 0 else _) = 1
      rw [if_neg (by omega), if_neg (by omega)]
    · intro k y
      have := hrl k y
      have := fr k y
      show (if k = w2.heap.size then 0 else _) = 2
      rw [if_neg (by omega), if_pos (by omega)]
    · intro k y; cases y
    · intro k y; cases y
    · intro k y; rw [hmv] at y; exact (noneB y).elim
    · intro k y; rw [hmr] at y; exact (noneB y).elim
  · rintro k (rfl | y | y | y | y)
    · omega
    · exact fd k y
    · have := fr k y; omega
    · cases y
    · cases y
/-- Two of them, with nothing in common. -/
structure Pw (w0 w : World) (X Y : Nat) (p p' : Pl) (t t' : Tb) (a b a' b' : Int) (n : Nat) : Prop where
  x : Tw w X p t (.pointer none) (.pointer none) noM a b
  y : Tw w Y p' t' (.pointer none) (.pointer none) noM a' b'
  bx : Bd t a b n
  by_ : Bd t' a' b' n
  ap : ∀ k, p.all X k → ¬ p'.all Y k
  fx : ∀ k, p.all X k → w0.heap.size ≤ k
  fy : ∀ k, p'.all Y k → w0.heap.size ≤ k
  bl : Below w0.heap.size w0 w
theorem Bd.mono {t : Tb} {a b : Int} {n m : Nat} (h : Bd t a b n) (hn : n ≤ m) : Bd t a b m := by
  obtain ⟨d1, d2, d3, d4, d5, d6, d7⟩ := h
  exact ⟨by omega, by omega, by omega, d4, by omega, d6, by omega⟩
theorem Pw.stepx {w0 w w1 : World} {X Y : Nat} {p p' p1 : Pl} {t t' t1 : Tb} {a b a' b' a1 b1 : Int} {n : Nat} (h : Pw w0 w X Y p p' t t' a b a' b' n) (d : Dn w X p (.pointer none) (.pointer none) noM (n + 1) p1 t1 a1 b1 w1) : Pw w0 w1 X Y p1 p' t1 t' a1 b1 a' b' (n + 1) := by
  obtain ⟨lab, sp⟩ := h.y.sep
  refine ⟨d.tw, h.y.keep mtOk_nil d.ex.size (fun k hk hy => d.ex.block k hk (fun hx => ?_)), d.bd, h.by_.mono (Nat.le_succ _), fun k hk hy => ?_, fun k hk => ?_, h.fy, ?_⟩
  · rcases hy with hy | hy | hy
    · rcases hx with hx | hx | hx
      · exact h.ap k hx hy
      · exact noneB hx
      · exact noneB hx
    · exact noneB hy
    · exact noneB hy
  · rcases d.fx k hk with z | z
    · exact h.ap k z hy
    · have := sp.lt k hy; omega
  · rcases d.fx k hk with z | z
    · exact h.fx k z
    · exact Nat.le_trans h.bl.size z
  · refine h.bl.trans ⟨d.ex.os, d.ex.tape, d.ex.output, d.ex.size, fun k hk => d.ex.block k (Nat.lt_of_lt_of_le hk h.bl.size) (fun hx => ?_)⟩
    rcases hx with hx | hx | hx
    · have := h.fx k hx; omega
    · exact noneB hx
    · exact noneB hx
theorem Pw.swap {w0 w : World} {X Y : Nat} {p p' : Pl} {t t' : Tb} {a b a' b' : Int} {n : Nat} (h : Pw w0 w X Y p p' t t' a b a' b' n) : Pw w0 w Y X p' p t' t a' b' a b n := ⟨h.y, h.x, h.by_, h.bx, fun k hy hx => h.ap k hx hy, h.fy, h.fx, h.bl⟩
theorem Pw.mono {w0 w : World} {X Y : Nat} {p p' : Pl} {t t' : Tb} {a b a' b' : Int} {n m : Nat} (h : Pw w0 w X Y p p' t t' a b a' b' n) (hm : n ≤ m) : Pw w0 w X Y p p' t t' a b a' b' m := ⟨h.x, h.y, h.bx.mono hm, h.by_.mono hm, h.ap, h.fx, h.fy, h.bl⟩
theorem Pw.below {w0 w w' : World} {X Y : Nat} {p p' : Pl} {t t' : Tb} {a b a' b' : Int} {n : Nat} (h : Pw w0 w X Y p p' t t' a b a' b' n) (hb : Below w.heap.size w w') : Pw w0 w' X Y p p' t t' a b a' b' n := ⟨h.x.below mtOk_nil hb, h.y.below mtOk_nil hb, h.bx, h.by_, h.ap, h.fx, h.fy, h.bl.trans (hb.mono h.bl.size)⟩
end Go.Proofs.YtdjabdmnknlaeaaGreat
namespace Go.Proofs.YtdjabdmnknlaeaaGreat
open Go.RowKit Go.WideShapes

/-- A zero table, and the document's new one. -/
structure Zy (w0 : World) (X : Nat) (p : Pl) (w : World) : Prop where
  tv : Tv w X p Tb.new (.pointer none) (.pointer none) noM 1 0
  z : Zt w p.g
  zp : Zp p
  fx : ∀ k, p.all X k → w0.heap.size ≤ k
  bl : Below w0.heap.size w0 w
theorem Zy.below {w0 w w' : World} {X : Nat} {p : Pl} (h : Zy w0 X p w) (hb : Below w.heap.size w w') : Zy w0 X p w' :=
  ⟨h.tv.below mtOk_nil hb, h.z.same (hb.block _ (h.z.lt (by omega))), h.zp, h.fx, h.bl.trans (hb.mono h.bl.size)⟩
/-- What the law looks at, whether the table is ready or not. -/
structure Qx (w : World) (X : Nat) (p : Pl) (t : Tb) (N : Nat) (w1 : World) : Prop where
  hx : Blk w1 X 4 (xF p)
  rt : RtS w1 p.g2 p.ev2 p.q2 t (.pointer none)
  ok : t.Ok
  d3 : w1.cell? ⟨p.g, 3, none⟩ = some (.int .i64 (t.live : Int))
  sight : Calls Tryz.prog 8 #[.pointer (some ⟨p.g, 0, none⟩)] w1 fun e w5 => ∃ hc ev1, e = .returned (sgV t hc ev1) ∧ SgV w1.heap.size w5 t hc ev1 ∧ ∃ gi r h ev a b, Py w (.pointer none) (.pointer none) noM X { p with gi := gi, r := r, h := h, ev := ev } t a b N w5
theorem Py.qx {w : World} {X : Nat} {p : Pl} {t : Tb} {a b : Int} {N : Nat} {w1 : World} (h : Py w (.pointer none) (.pointer none) noM X p t a b N w1) : Qx w X p t N w1 :=
  ⟨h.tw.hx, h.tw.rt, h.tw.ok, h.tw.dt.hd.c 3 (by omega), (dsight_any h.tw.dt (Nat.le_trans h.tw.ok.few h.tw.ok.all)).mono fun _ _ ⟨hc, ev1, h1, h2, h3⟩ => ⟨hc, ev1, h1, h2, p.gi, p.r, p.h, p.ev, a, b, h.below mtOk_nil h3⟩⟩
theorem Zy.qx {w0 w : World} {X : Nat} {p : Pl} (h : Zy w0 X p w) (N : Nat) : Qx w0 X p Tb.new N w := by
  refine ⟨h.tv.hx, h.tv.rt, Tb.new_ok, h.z.c 3 (by omega), (sight_z h.z).mono fun e w5 ⟨hc, ev1, h1, h2, gi, r, hh, hA⟩ => ⟨hc, ev1, h1, h2, gi, r, hh, .slice none 0 0, 1, 0, ?_⟩⟩
  obtain ⟨k1, k2, k3⟩ := h.tv.ready rfl hA
  refine ⟨k1, ⟨Nat.zero_le _, by show 1 ≤ N + 1; omega, Nat.zero_le _, by omega, by omega, by omega, by omega⟩, fun k hk => (k2 k hk).elim (h.fx k) (fun x => Nat.le_trans h.bl.size x), ?_⟩
  exact (ex_of h.bl).next k3 (fun k hk x => by
    rcases x with x | x | x
    · have := h.fx k x; omega
    · exact .inl x
    · exact .inr x)
theorem step_small (x0 x1 x2 x3 x4 : Int) : (Tb.new.step x0 x1 x2 x3 x4).es.length < 100 := by
  have hno : ¬ Tb.new.has x4 := by
    rintro ⟨h1, h2, _⟩
    have h3 : x4 < 0 := h2
    omega
  unfold Tb.step
  split
  · have h1 := (Tb.new_ok.add x1 x2 x3 (by decide)).few
    have h2 := (Tb.new.add_made x1 x2 x3).2.2.1
    have h3 : Tb.new.births = 0 := rfl
    omega
  · split
    · rw [show Tb.new.sput x4 x3 = Tb.new from if_neg hno]
      decide
    · split
      · rw [show Tb.new.skill x4 = Tb.new from if_neg hno]
        decide
      · split
        · show ([] : List En).length < 100
          decide
        · split
          · have h1 := Tb.new_ok.cp.few
            have h3 : Tb.new.cp.births = 0 := rfl
            omega
          · decide
/-- Behind a step from a zero table on. -/
theorem Zy.step {w0 w w1 : World} {X : Nat} {p : Pl} {t' : Tb} (h : Zy w0 X p w) (d : (∃ p' a' b', Dn w X p (.pointer none) (.pointer none) noM (0 + 1) p' t' a' b' w1) ∨ (t' = Tb.new ∧ Below w.heap.size w w1)) : ∃ p', Qx w0 X p' t' (0 + 1) w1 := by
  rcases d with ⟨p', a', b', hd⟩ | ⟨rfl, hb⟩
  · refine ⟨p', Py.qx (a := a') (b := b') ⟨hd.tw, hd.bd, fun k hk => (hd.fx k hk).elim (h.fx k) (fun x => Nat.le_trans h.bl.size x), (ex_of h.bl).next hd.ex (fun k hk x => ?_)⟩⟩
    rcases x with x | x | x
    · have := h.fx k x; omega
    · exact .inl x
    · exact .inr x
  · exact ⟨p, (h.below hb).qx _⟩
/-- As plays lays them. -/
theorem zy_new {w w1 w2 w5 : World} {g2 q2 : Nat} {tT tB : TypeId} (hw1 : Below w.heap.size w w1) (hg2 : w1.heap.size ≤ g2) (hq2 : w1.heap.size ≤ q2) (hR : RtS w2 g2 (.slice none 0 0) q2 Tb.new (.pointer none)) (hw2 : Below w1.heap.size w1 w2)
    (h5 : (w2.alloc (.cells #[.pointer (some ⟨w2.heap.size + 1, 0, none⟩), .pointer (some ⟨g2, 0, none⟩), .pointer none, .pointer none] tT)).alloc (.cells #[.pointer none, .pointer none, .slice none 0 0, .int .i64 0, .int .i64 0, .int .i64 0, .int .i64 0] tB) = w5) :
    Zy w w2.heap.size ⟨w2.heap.size + 1, w2.heap.size + 1, w2.heap.size + 1, w2.heap.size + 1, .slice none 0 0, g2, q2, .slice none 0 0, .pointer none, .pointer none⟩ w5 := by
  obtain ⟨w3, hw3⟩ : ∃ y, w2.alloc (.cells #[.pointer (some ⟨w2.heap.size + 1, 0, none⟩), .pointer (some ⟨g2, 0, none⟩), .pointer none, .pointer none] tT) = y := ⟨_, rfl⟩
  rw [hw3] at h5
  have hw4 := h5
  have s1 := hw1.size
  have s2 := hw2.size
  have s3 : w3.heap.size = w2.heap.size + 1 := by rw [← hw3]; simp
  have s5 : w5.heap.size = w2.heap.size + 2 := by rw [← hw4]; simp [s3]
  have b3 : Below w2.heap.size w2 w3 := by rw [← hw3]; exact (Below.refl _ w2).alloc (Nat.le_refl _) _
  have b4 : Below w3.heap.size w3 w5 := by rw [← hw4]; exact (Below.refl _ w3).alloc (Nat.le_refl _) _
  have b25 : Below w2.heap.size w2 w5 := b3.trans (b4.mono (by omega))
  have hX3 : Blk w3 w2.heap.size 4 (fun j => #[Value.pointer (some ⟨w2.heap.size + 1, 0, none⟩), .pointer (some ⟨g2, 0, none⟩), .pointer none, .pointer none].getD j .nilFunc) := by rw [← hw3]; exact Blk.new w2 _ _
  have hX5 : Blk w5 w2.heap.size 4 (xF ⟨w2.heap.size + 1, w2.heap.size + 1, w2.heap.size + 1, w2.heap.size + 1, .slice none 0 0, g2, q2, .slice none 0 0, .pointer none, .pointer none⟩) := by
    refine (hX3.same (b4.block w2.heap.size (by omega))).congr fun j hj => ?_
    have : j = 0 ∨ j = 1 ∨ j = 2 ∨ j = 3 := by omega
    rcases this with rfl | rfl | rfl | rfl <;> rfl
  have hZ5 : Zt w5 (w2.heap.size + 1) := by
    have hZ4 : Blk w5 w3.heap.size 7 (fun j => #[Value.pointer none, .pointer none, .slice none 0 0, .int .i64 0, .int .i64 0, .int .i64 0, .int .i64 0].getD j .nilFunc) := by rw [← hw4]; exact Blk.new w3 _ _
    rw [s3] at hZ4
    refine hZ4.congr fun j hj => ?_
    have : j = 0 ∨ j = 1 ∨ j = 2 ∨ j = 3 ∨ j = 4 ∨ j = 5 ∨ j = 6 := by omega
    rcases this with rfl | rfl | rfl | rfl | rfl | rfl | rfl <;> rfl
  have hR5 := hR.below b25
  have hRl := hR.lt
  have he : ∀ k, (k = g2 ∨ k = q2 ∨ (Value.slice none 0 0).ownBlock = some k) → w1.heap.size ≤ k ∧ k < w2.heap.size := fun k hk => by
    refine ⟨?_, hRl k hk⟩
    rcases hk with y | y | y
    · omega
    · omega
    · cases y
  refine ⟨⟨hX5, hR5, Tb.new_ok, trivial, .inl rfl, .inl rfl, ?_⟩, hZ5, ⟨rfl, rfl, rfl, rfl, rfl, rfl⟩, ?_, ?_⟩
  · refine ⟨fun k => if k = w2.heap.size then 0 else if k = w2.heap.size + 1 then 1 else 2, ?_, ?_, ?_, ?_, ?_, ?_, ?_, ?_⟩
    · rintro k (rfl | y | y | y | y)
      · omega
      · rcases y with y | y | y | y | y
        · simp only at y; omega
        · simp only at y; omega
        · simp only at y; omega
        · simp only at y; omega
        · cases y
      · have := he k y; omega
      · cases y
      · cases y
    · show (if _ then 0 else _) = 0
      rw [if_pos rfl]
    · intro k y
      have hk : k = w2.heap.size + 1 := by
        rcases y with y | y | y | y | y
        · exact y
        · exact y
        · exact y
        · exact y
        · cases y
      show (if k = w2.heap.size then 0 else _) = 1
      rw [if_neg (by omega), if_pos hk]
    · intro k y
      have := he k y
      show (if k = w2.heap.size then 0 else _) = 2
      rw [if_neg (by omega), if_neg (by omega)]
    · intro k y; cases y
    · intro k y; cases y
    · intro k y; cases y
    · intro k y; cases y
  · rintro k (rfl | y | y | y | y)
    · omega
    · rcases y with y | y | y | y | y
      · simp only at y; omega
      · simp only at y; omega
      · simp only at y; omega
      · simp only at y; omega
      · cases y
    · have := he k y; omega
    · cases y
    · cases y
  · have b12 := hw1.trans (hw2.mono hw1.size)
    exact b12.trans (b25.mono b12.size)
end Go.Proofs.YtdjabdmnknlaeaaGreat
namespace Go.Proofs.YtdjabdmnknlaeaaGreat
open Go.RowKit Go.WideShapes

/-- What is left to be shown. -/
structure Bx (P : Prop) : Prop where
  out : P
set_option maxRecDepth 100000 in
set_option maxHeartbeats 20000000 in
def zplays_cut : (P_rnd : Prop) ×' (P_zrnd : Prop) ×' (P_fin : Prop) ×' (P_zfin : Prop) ×' (Bx P_rnd → Bx P_zrnd → Bx P_fin → Bx P_zfin → (∀ (a0 : Option Addr) (n c0 : Nat) (G : Nat → Nat → Int) (w : World), S5 w a0 n c0 G → n ≤ 400 → Calls Tryz.prog 5 #[.bool true, .slice a0 n c0, .pointer none, .pointer none] w fun e w' => ∃ X, e = .returned (.tuple #[.pointer (some ⟨X, 0, none⟩), .bool true]) ∧ Below w.heap.size w w')) := by
  apply PSigma.mk
  apply PSigma.mk
  apply PSigma.mk
  apply PSigma.mk
  focus
    intro hp_rnd hp_zrnd hp_fin hp_zfin a0 n c0 G w hS hn
    have C1 := new7_any (w := w) (pm := none) (a := 0) (b := 0) (M := noM) mtOk_nil trivial (by decide)
    have hcap : n ≤ c0 := hS.1
    have HROW : Hid (∀ V, Ex (fun k => mB (.pointer none) k ∨ mB (.pointer none) k) w V → S5 V a0 n c0 G) := fun V hV => hS.below hV.nix2
    have HMo := Lib.hid mtOk_nil
    have HMv := Lib.hid mvOk_nil
    clear hS
    go_enter Tryz.func5, Tryz.ntmps5
    go_wp2_with fail
    refine C1.mono ?_
    rintro e w1 ⟨g, gi, r, h, rfl, hg, hgi, hr, hh, hD, hM1, hX1⟩
    clear C1
    have C2 := rtnew_s (w := w1) (mv := .pointer none) (a := 0) (b := 0) (c := 0) (d := 0) (.inl rfl) (by omega)
    have HX1 := Lib.hid hX1.nix
    clear hX1 hD hM1 hg hgi hr hh
    go_wp2_with fail
    refine C2.mono ?_
    rintro e w2 ⟨g2, q2, rfl, hg2, hq2, hR, hMs2, hX2⟩
    clear C2
    have HX2 := Lib.hid hX2.nix
    have HR := Lib.hid hR
    clear hR hMs2 hX2
    obtain ⟨w5, hw5⟩ : ∃ y, (w2.alloc (.cells #[.pointer (some ⟨w2.heap.size + 1, 0, none⟩), .pointer (some ⟨g2, 0, none⟩), .pointer none, .pointer none] 45)).alloc (.cells #[.pointer none, .pointer none, .slice none 0 0, .int .i64 0, .int .i64 0, .int .i64 0, .int .i64 0] 48) = y := ⟨_, rfl⟩
    have hZ5 := zy_new HX1.out hg2 hq2 HR.out HX2.out hw5
    have hnq := eqT (w2.heap.size + 1)
    have c0' : w5.cell? ⟨w2.heap.size, 0, none⟩ = some (.pointer (some ⟨w2.heap.size + 1, 0, none⟩)) := hZ5.tv.hx.c 0 (by omega)
    have HZ5 := Lib.hid hZ5
    have HW5 := Lib.hid hw5
    clear hZ5 hw5 hg2 hq2 HR HX1 HX2
    go_upto_region 4 with fail
    rw [HW5.out]
    clear HW5
    go_wp2_with fail
    clear c0' hnq
    obtain ⟨p0, hp0⟩ : ∃ p0, Hid (Zy w w2.heap.size p0 w5) := ⟨_, HZ5⟩
    clear HZ5
    generalize w2.heap.size = X at *
    go_loopw [11] (fun iv wr => ∃ k : Nat, k ≤ n ∧ iv = .int .i64 (k : Int) ∧ ((∃ p t a b, Py w (.pointer none) (.pointer none) noM X p t a b k wr) ∨ (k = 0 ∧ ∃ p, Zy w X p wr))) (fun iv _ => n - (intOf iv).toNat)
    case atStart => exact ⟨0, Nat.zero_le _, rfl, Or.inr ⟨rfl, p0, hp0.out⟩⟩
    case round =>
      clear hp0
      obtain ⟨k, hk, rfl, hst⟩ := hrel
      by_cases hlt : k < n
      · have t1 : (k : Int) < (n : Int) := by omega
        rcases hst with ⟨p, t, a, b, hPY⟩ | ⟨hk0, p, hZY⟩
        · skip
          rename_i zplays_1 zplays_2 zplays_3
          revert a0 n c0 G w hn hcap HROW HMo HMv zplays_1 w1 g gi r h w2 g2 q2 w5 zplays_2 zplays_3 p0 X wr u8 u9 u30 u31 u32 u33 u34 u35 u36 u37 u38 u39 u40 u41 u42 u43 u44 u45 u46 u47 u48 u49 u50 u51 u52 u53 u54 u55 u56 u57 u58 u59 u60 u61 u62 u63 u64 u65 u66 u67 u68 u69 u70 u71 u72 u73 u74 u75 u76 u77 u78 u79 u80 u81 u82 u83 k hk hlt t1 p t a b hPY
          exact hp_rnd.out
        · clear hp_rnd
          skip
          rename_i zplays_1 zplays_2 zplays_3
          revert a0 n c0 G w hn hcap HROW HMo HMv zplays_1 w1 g gi r h w2 g2 q2 w5 zplays_2 zplays_3 p0 X wr u8 u9 u30 u31 u32 u33 u34 u35 u36 u37 u38 u39 u40 u41 u42 u43 u44 u45 u46 u47 u48 u49 u50 u51 u52 u53 u54 u55 u56 u57 u58 u59 u60 u61 u62 u63 u64 u65 u66 u67 u68 u69 u70 u71 u72 u73 u74 u75 u76 u77 u78 u79 u80 u81 u82 u83 k hk hlt t1 hk0 p hZY
          exact hp_zrnd.out
      · clear hp_rnd hp_zrnd
        obtain rfl : k = n := by omega
        have t1 : ¬ (k : Int) < (k : Int) := by omega
        rcases hst with ⟨p, t, a, b, hPY⟩ | ⟨hk0, p, hZY⟩
        · skip
          rename_i zplays_1 zplays_2 zplays_3
          revert a0 c0 G w HMo HMv zplays_1 w1 g gi r h w2 g2 q2 w5 zplays_2 zplays_3 p0 X wr u8 u9 u30 u31 u32 u33 u34 u35 u36 u37 u38 u39 u40 u41 u42 u43 u44 u45 u46 u47 u48 u49 u50 u51 u52 u53 u54 u55 u56 u57 u58 u59 u60 u61 u62 u63 u64 u65 u66 u67 u68 u69 u70 u71 u72 u73 u74 u75 u76 u77 u78 u79 u80 u81 u82 u83 k hn hcap HROW hk hlt t1 p t a b hPY
          exact hp_fin.out
        · clear hp_fin
          skip
          rename_i zplays_1 zplays_2 zplays_3
          revert a0 c0 G w HMo HMv zplays_1 w1 g gi r h w2 g2 q2 w5 zplays_2 zplays_3 p0 X wr u8 u9 u30 u31 u32 u33 u34 u35 u36 u37 u38 u39 u40 u41 u42 u43 u44 u45 u46 u47 u48 u49 u50 u51 u52 u53 u54 u55 u56 u57 u58 u59 u60 u61 u62 u63 u64 u65 u66 u67 u68 u69 u70 u71 u72 u73 u74 u75 u76 u77 u78 u79 u80 u81 u82 u83 k hn hcap HROW hk hlt t1 hk0 p hZY
          exact hp_zfin.out
end Go.Proofs.YtdjabdmnknlaeaaGreat
