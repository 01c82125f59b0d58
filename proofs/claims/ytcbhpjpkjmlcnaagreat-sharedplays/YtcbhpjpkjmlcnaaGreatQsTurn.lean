/-
  A row's ways in the document's Set: behind, a new key, private.
-/
import Derived.Test.YtcbhpjpkjmlcnaaGreatQsSetO
namespace Go.Proofs.YtcbhpjpkjmlcnaaGreat
open Go.RowKit Go.WideShapes

theorem qbelow_drewN {B : Nat} {a w : World} (h : Below B a w) (n : Nat) : Below B a (w.drewN n) := ⟨h.os, h.tape, h.output, h.size, h.block⟩
theorem QsR.below {w w1 V : World} {f s : Nat} {F : Fa} {mr : Value} {XF XS XF1 XS1 : Nat → Prop} {st : Stn} {v : Nat} {a b c d : Int} (R : QsR w f mr XF XS s F st v a b c d w1 XF1 XS1) (hB : Below w1.heap.size w1 V) : QsR w f mr XF XS s F st v a b c d V XF1 XS1 := R.trans (QsR.met R.qp (R.n.below hB) (ex_of hB))
/-- Private, and then an entry. -/
theorem rturn_up {w w1 : World} {f s : Nat} {F : Fa} {pr : Option Addr} {XF XS XF1 XS1 : Nat → Prop} {vs : List Int} {v : Nat} {a b c d : Int} {c0 : Nat} (R : QsR w f (.pointer pr) XF XS s F (.row vs) v a b c d w1 XF1 XS1) (ha : 0 ≤ a ∧ a ≤ 100000000) (hd : 0 ≤ d ∧ d ≤ 1000000000) (hO : F.Ok hsT c0) (hl : vs.length ≤ F.kt.es.length) (u k x : Int) :
    Calls Tryz.prog 71 #[.pointer (some ⟨s, 0, none⟩)] w1 fun e w2 => e = .returned (.tuple #[]) ∧ ∃ g, w2.cell? ⟨s, 2, none⟩ = some (.pointer (some ⟨g, 0, none⟩)) ∧ Calls Tryz.prog 69 #[.pointer (some ⟨g, 0, none⟩), .int .i64 u, .int .i64 k, .int .i64 x] w2.drew fun e w5 => (∃ n1, e = .returned (.tuple #[.int .i64 n1, .int .i64 0])) ∧ w5.cell? ⟨s, 2, none⟩ = some (.pointer (some ⟨g, 0, none⟩)) ∧
      Hid (∃ XF' XS', QsR w f (.pointer pr) XF XS s F (.own ((turnN F.kt.es vs vs.length).add u k x)) v (a + (((turnN F.kt.es vs vs.length).add u k x).made : Int)) b c (d + 1) w5 XF' XS') := by
  have h256 : F.kt.es.length ≤ 256 := Nat.le_trans hO.len hO.room
  obtain ⟨t1, t2, t3, t4, _⟩ := turnN_is F.kt.es vs vs.length (by omega)
  refine (rprivate_any R.qp R.n ha hd hO hl).mono fun e w2 ⟨e1, e2⟩ => ?_
  obtain ⟨XS2, R2⟩ := e2.left
  have R3 := (R.trans R2).below (Below.refl _ w2).drew
  obtain ⟨g, k2, CA⟩ := radd_own R3 t1 (by omega) ⟨by omega, by omega⟩ (by omega) (by omega) u k x
  have hup := (turnN F.kt.es vs vs.length).add_up u k x
  refine ⟨e1, g, k2, CA.mono fun e w5 ⟨c1, c2, ⟨XF', XS', c3⟩⟩ => ⟨⟨_, c1⟩, c2, ⟨XF', XS', ?_⟩⟩⟩
  rw [show a + (((turnN F.kt.es vs vs.length).add u k x).made : Int) = a + ((turnN F.kt.es vs vs.length).made : Int) + (((turnN F.kt.es vs vs.length).add u k x).made - (turnN F.kt.es vs vs.length).made : Nat) by omega]
  exact c3
theorem rbehind_up {w w1 : World} {f s : Nat} {F : Fa} {pr : Option Addr} {XF XS XF1 XS1 : Nat → Prop} {vs : List Int} {v : Nat} {a b c d : Int} (R : QsR w f (.pointer pr) XF XS s F (.row vs) v a b c d w1 XF1 XS1) (hc : 0 ≤ c ∧ c ≤ 1000000000) (hl : vs.length ≤ 1000) (x : Int) :
    Calls Tryz.prog 68 #[.pointer (some ⟨s, 0, none⟩), .int .i64 x] w1 fun e w2 => e = .returned (.tuple #[]) ∧ Hid (∃ XF' XS', QsR w f (.pointer pr) XF XS s F (.row (vs ++ [x])) v a b (c + 1) d w2 XF' XS') := by
  refine (rbehind_any R.qp R.n hc hl x).mono fun e w2 ⟨e1, e2⟩ => ?_
  obtain ⟨XS2, R2⟩ := e2.left
  exact ⟨e1, ⟨_, _, R.trans R2⟩⟩
/-- A new key. -/
theorem rkeys_up {w w1 : World} {f s : Nat} {F : Fa} {mr : Value} {XF XS XF1 XS1 : Nat → Prop} {st : Stn} {v : Nat} {a b c d : Int} (R : QsR w f mr XF XS s F st v a b c d w1 XF1 XS1) (hO : F.kt.Ok) (hm : F.kt.made ≤ 1000000) (ha : 0 ≤ a ∧ a ≤ 1000000000) (ht : F.kt.turn ≤ 1000000) (hb : F.kt.births < 100000) (u k x : Int) :
    ∃ g, (w1.cell? ⟨s, 0, none⟩ = some (.pointer (some ⟨f, 0, none⟩)) ∧ w1.cell? ⟨f, 2, none⟩ = some (.pointer (some ⟨g, 0, none⟩))) ∧ Calls Tryz.prog 69 #[.pointer (some ⟨g, 0, none⟩), .int .i64 u, .int .i64 k, .int .i64 x] w1 fun e w2 => (∃ n1, e = .returned (.tuple #[.int .i64 n1, .int .i64 0])) ∧ (w2.cell? ⟨s, 0, none⟩ = some (.pointer (some ⟨f, 0, none⟩)) ∧ w2.cell? ⟨f, 2, none⟩ = some (.pointer (some ⟨g, 0, none⟩))) ∧
      ∃ XF', QsR w f mr XF XS s { F with kt := F.kt.add u k x } st v (a + ((F.kt.add u k x).made - F.kt.made : Nat)) b c d w2 XF' XS1 := by
  obtain ⟨g, ev, q, nv, hQ, hXF⟩ := R.qp.fm
  obtain ⟨rv, ov, hhd, hXs⟩ := R.qp.sm.head
  refine ⟨g, ⟨hhd.c 0 (by omega), hQ.hd.c 2 (by omega)⟩, (radd_s hQ.kt hO R.n hm ha ht hb u k x).mono fun e w2 ⟨e1, ev', q', e2, e3, e4, e5, e6⟩ => ?_⟩
  obtain ⟨XF2, R2⟩ := qf_keys R.qp hQ hXF e4 e2 e3 e5 e6
  have hf : w2.heap[f]? = w1.heap[f]? := e6.block f (hQ.lt f (.inl rfl)) (fun y => by
    rcases y with y | y | y | y
    · exact hQ.n1 (.inl y)
    · exact hQ.n1 (.inr (.inl y))
    · exact hQ.n1 (.inr (.inr y))
    · exact (hQ.mp f y).1 rfl)
  have hs : w2.heap[s]? = w1.heap[s]? := e6.block s (hhd.lt (by omega)) (fun y => by
    rcases y with y | y | y | y
    · exact R.qp.ap s (by rw [hXF]; exact .inr (.inl y)) hXs
    · exact R.qp.ap s (by rw [hXF]; exact .inr (.inr (.inl y))) hXs
    · exact R.qp.ap s (by rw [hXF]; exact .inr (.inr (.inr (.inl y)))) hXs
    · exact R.qp.mq s y hXs)
  exact ⟨⟨_, e1⟩, ⟨(World.cell?_of_block (a := ⟨s, 0, none⟩) hs).trans (hhd.c 0 (by omega)), (World.cell?_of_block (a := ⟨f, 2, none⟩) hf).trans (hQ.hd.c 2 (by omega))⟩, XF2, R.trans R2⟩
/-- What a namespace's row and the family's keys show to a walk. -/
theorem row_view {w1 : World} {f s : Nat} {F : Fa} {mr : Value} {XF XS : Nat → Prop} {vs : List Int} {v : Nat} {c0 : Nat} (h : Qp w1 f F mr XF s (.row vs) v XS) (hO : F.Ok hsT c0) : ∃ av cap gk ae cape ge, (w1.cell? ⟨s, 0, none⟩ = some (.pointer (some ⟨f, 0, none⟩)) ∧ w1.cell? ⟨s, 1, none⟩ = some (.slice av vs.length cap) ∧ w1.cell? ⟨s, 2, none⟩ = some (.pointer none) ∧ w1.cell? ⟨f, 0, none⟩ = some (.int .i64 (F.room : Int)) ∧ w1.cell? ⟨f, 2, none⟩ = some (.pointer (some ⟨gk, 0, none⟩)) ∧ w1.cell? ⟨gk, 0, none⟩ = some (.slice ae F.kt.es.length cape)) ∧ ∀ i, i < F.kt.es.length → ae = some ⟨ge, 0, none⟩ ∧ w1.cell? ⟨ge, i * 5 + 2, none⟩ = some (.int .i64 (nth F.kt.es i).key) := by
  obtain ⟨gk, ev, q, nv, hQ, _⟩ := h.fm
  obtain ⟨vv, h1, h2, _, _⟩ := h.sm
  obtain ⟨av, cap, gv, rfl, hcap, _⟩ := h2.open
  obtain ⟨ae, cape, ge, hev, hge0, hro⟩ := hQ.kt.es.open
  refine ⟨av, cap, gk, ae, cape, ge, ⟨h1.c 0 (by omega), h1.c 1 (by omega), h1.c 2 (by omega), hQ.hd.c 0 (by omega), hQ.hd.c 2 (by omega), ?_⟩, fun i hi => ?_⟩
  · have := hQ.kt.hd.c 0 (by omega)
    rw [show tF ev q F.kt.sh mr 0 = ev from rfl, hev, Tb.sh_len] at this
    exact this
  · have hi' : i < F.kt.sh.es.length := by rw [Tb.sh_len]; exact hi
    have q2 := hro.c2 i hi'
    rw [show nth F.kt.sh.es i = nth F.kt.es i from shown_hash (dead_live hO.dead hi)] at q2
    exact ⟨(hge0 (by omega)).1, q2⟩
end Go.Proofs.YtcbhpjpkjmlcnaaGreat
