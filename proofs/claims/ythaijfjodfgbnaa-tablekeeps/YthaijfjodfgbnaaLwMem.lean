/-
  Rows of entries and of ints as the laws read them; the laws' entries and sight.
-/
import Derived.Test.YthaijfjodfgbnaaEnMem
import Derived.Deep.CutRange
import Derived.Deep.RegionHeld3
namespace Go.Proofs.Ythaijfjodfgbnaa
open Go.RowKit Go.WideShapes

/-- Entries in a slice. -/
def SlE (w : World) (a : Option Addr) (n cap : Nat) (es : List En) : Prop := n = es.length ∧ n ≤ cap ∧ ∃ ge, (0 < n → a = some ⟨ge, 0, none⟩ ∧ ge < w.heap.size) ∧ Ro w ge n cap es
theorem Es.sl {w : World} {v : Value} {es : List En} (h : Es w v es) : ∃ a cap, v = .slice a es.length cap ∧ SlE w a es.length cap es := by
  obtain ⟨a, cap, ge, e, hp, hr⟩ := h.open
  exact ⟨a, cap, e, rfl, hr.le, ge, fun h0 => ⟨(hp h0).1, h.lt ge (hp h0).2.1⟩, hr⟩
theorem SlE.below {w w' : World} {a : Option Addr} {n cap : Nat} {es : List En} (h : SlE w a n cap es) (hb : Below w.heap.size w w') : SlE w' a n cap es := by
  obtain ⟨h1, h2, ge, h3, h4⟩ := h
  refine ⟨h1, h2, ge, fun h0 => ⟨(h3 h0).1, Nat.lt_of_lt_of_le (h3 h0).2 hb.size⟩, ?_⟩
  have key : ∀ n', n' < n → ∀ o, w'.cell? ⟨ge, o, none⟩ = w.cell? ⟨ge, o, none⟩ := fun n' hn o => hb.cell (p := ⟨ge, o, none⟩) (h3 (by omega)).2
  exact ⟨h4.le, fun n hn => (key n hn _).trans (h4.c0 n hn), fun n hn => (key n hn _).trans (h4.c1 n hn), fun n hn => (key n hn _).trans (h4.c2 n hn), fun n hn => (key n hn _).trans (h4.c3 n hn), fun n hn => (key n hn _).trans (h4.c4 n hn)⟩
set_option maxRecDepth 100000 in
set_option maxHeartbeats 4000000 in
theorem entries_any (a1 a2 : Option Addr) (n c1 c2 : Nat) (es : List En) (w : World) (h1 : SlE w a1 n c1 es) (h2 : SlE w a2 n c2 es) (hl : n ≤ 1000000) :
    Calls Try.prog 7 #[.slice a1 n c1, .slice a2 n c2] w fun e w' => e = .returned (.bool true) ∧ Below w.heap.size w w' := by
  obtain ⟨-, k1, b1, p1, s1⟩ := h1
  obtain ⟨-, k2, b2, p2, s2⟩ := h2
  have HP1 := Lib.hid p1
  have HP2 := Lib.hid p2
  have HS1 := Lib.hid s1
  have HS2 := Lib.hid s2
  have hl0 : ((n : Int) != (n : Int)) = false := by simp
  clear p1 p2 s1 s2
  go_enter Try.func7, Try.ntmps7
  go_wp2
  go_loopw [5] (fun iv wr => ∃ k : Nat, k ≤ n ∧ iv = .int .i64 (k : Int) ∧ Below w.heap.size w wr) (fun iv _ => n - (intOf iv).toNat)
  case atStart => exact ⟨0, Nat.zero_le _, rfl, Below.refl _ _⟩
  case round =>
    obtain ⟨k, hk, rfl, hB0⟩ := hrel
    by_cases hlt : k < n
    · obtain ⟨e1, q1⟩ := HP1.out (by omega)
      obtain ⟨e2, q2⟩ := HP2.out (by omega)
      have hly : (k : Int) < (n : Int) := by omega
      have key1 : ∀ o, wr.cell? ⟨b1, o, none⟩ = w.cell? ⟨b1, o, none⟩ := fun o => hB0.cell (p := ⟨b1, o, none⟩) q1
      have key2 : ∀ o, wr.cell? ⟨b2, o, none⟩ = w.cell? ⟨b2, o, none⟩ := fun o => hB0.cell (p := ⟨b2, o, none⟩) q2
      have x0 := (key1 _).trans (HS1.out.c0 k hlt)
      have x1 := (key1 _).trans (HS1.out.c1 k hlt)
      have x2 := (key1 _).trans (HS1.out.c2 k hlt)
      have x3 := (key1 _).trans (HS1.out.c3 k hlt)
      have x4 := (key1 _).trans (HS1.out.c4 k hlt)
      have y0 := (key2 _).trans (HS2.out.c0 k hlt)
      have y1 := (key2 _).trans (HS2.out.c1 k hlt)
      have y2 := (key2 _).trans (HS2.out.c2 k hlt)
      have y3 := (key2 _).trans (HS2.out.c3 k hlt)
      have y4 := (key2 _).trans (HS2.out.c4 k hlt)
      subst e1
      subst e2
      clear key1 key2
      generalize (nth es k).live = b0 at *
      generalize (nth es k).hash = z1 at *
      generalize (nth es k).key = z2 at *
      generalize (nth es k).value = z3 at *
      generalize (nth es k).birth = z4 at *
      go_wp2_with fail
      go_region_held3 (fun V => ((V.cell? ⟨b1, k * 5, none⟩ = some (.bool b0) ∧ V.cell? ⟨b1, k * 5 + 1, none⟩ = some (.int .i64 z1)) ∧ (V.cell? ⟨b1, k * 5 + 2, none⟩ = some (.int .i64 z2) ∧ V.cell? ⟨b1, k * 5 + 3, none⟩ = some (.int .i64 z3) ∧ V.cell? ⟨b1, k * 5 + 4, none⟩ = some (.int .i64 z4))) ∧ (V.cell? ⟨b2, k * 5, none⟩ = some (.bool b0) ∧ V.cell? ⟨b2, k * 5 + 1, none⟩ = some (.int .i64 z1)) ∧ (V.cell? ⟨b2, k * 5 + 2, none⟩ = some (.int .i64 z2) ∧ V.cell? ⟨b2, k * 5 + 3, none⟩ = some (.int .i64 z3) ∧ V.cell? ⟨b2, k * 5 + 4, none⟩ = some (.int .i64 z4)))
        (first | exact ⟨⟨⟨x0, x1⟩, x2, x3, x4⟩, ⟨y0, y1⟩, y2, y3, y4⟩ | fail) (fail)
      go_wp2_with fail
      go_roundw
      case rel => exact ⟨k + 1, by omega, by go_num, hB0.drew⟩
      case measure => simp [intOf]; omega
    · have hly : ¬ (k : Int) < (n : Int) := by omega
      go_wp2
      go_ret
      exact ⟨rfl, hB0⟩
/-- Ints in a slice. -/
def SlN (w : World) (a : Option Addr) (n cap : Nat) (f : Nat → Int) : Prop := n ≤ cap ∧ ∃ b, (0 < n → a = some ⟨b, 0, none⟩ ∧ b < w.heap.size) ∧ ∀ j, j < n → w.cell? ⟨b, j, none⟩ = some (.int .i64 (f j))
theorem SlN.below {w w' : World} {a : Option Addr} {n cap : Nat} {f : Nat → Int} (h : SlN w a n cap f) (hb : Below w.heap.size w w') : SlN w' a n cap f := by
  obtain ⟨h2, b, h3, h4⟩ := h
  exact ⟨h2, b, fun h0 => ⟨(h3 h0).1, Nat.lt_of_lt_of_le (h3 h0).2 hb.size⟩, fun j hj => (hb.cell (p := ⟨b, j, none⟩) (h3 (by omega)).2).trans (h4 j hj)⟩
/-- What Sight tells. -/
def siV (log width : Int) (ca : Option Addr) (cn cc : Nat) (ea : Option Addr) (en ec : Nat) (live births made : Int) : Value :=
  .agg #[.int .i64 log, .int .i64 width, .slice ca cn cc, .slice ea en ec, .int .i64 live, .int .i64 births, .int .i64 made]
/-- The first n of these ints. -/
def il (n : Nat) (f : Nat → Int) : List Value := (List.range n).map fun j => Value.int .i64 (f j)
theorem il_len (n : Nat) (f : Nat → Int) : (il n f).length = n := by simp [il]
theorem il_get (n : Nat) (f : Nat → Int) (j : Nat) (hj : j < n) : (il n f)[j]? = some (.int .i64 (f j)) := by simp [il, hj]
theorem il_one (n : Nat) (f : Nat → Int) : ∀ u ∈ il n f, u.oneCell' = true := by
  intro u hu
  simp [il] at hu
  obtain ⟨j, _, rfl⟩ := hu
  rfl
theorem own_sln {B : Nat} {w : World} {v : Value} {n : Nat} {f : Nat → Int} (h : w.ownsRow B 3 1 v n (il n f)) : ∃ a cap, v = .slice a n cap ∧ SlN w a n cap f := by
  rcases h.2 with ⟨rfl, rfl⟩ | ⟨g, cap, cur, rfl, _, hh, hc, _⟩
  · exact ⟨none, 0, rfl, Nat.le_refl _, 0, fun h => by omega, fun j h => by omega⟩
  · exact ⟨_, cap, rfl, hc, g, fun _ => ⟨rfl, (Array.getElem?_eq_some_iff.1 hh).1⟩, fun j hj => by rw [h.cellAt j (by omega), il_get _ _ _ hj]⟩
theorem SlN.same {w w' : World} {a : Option Addr} {n cap B : Nat} {f : Nat → Int} (h : w.ownsRow B 3 1 (.slice a n cap) n (il n f)) (e : ∀ k, B ≤ k → k < w.heap.size → w'.heap[k]? = w.heap[k]?) (hs : w.heap.size ≤ w'.heap.size) : SlN w' a n cap f := by
  rcases h.2 with ⟨h1, h2⟩ | ⟨g, cap', cur, h1, hg, hh, hc, _⟩
  · cases h1; exact ⟨Nat.le_refl _, 0, fun h => by omega, fun j h => by omega⟩
  · cases h1
    have lg := (Array.getElem?_eq_some_iff.1 hh).1
    exact ⟨hc, g, fun _ => ⟨rfl, by omega⟩, fun j hj => (World.cell?_of_block (a := ⟨g, j, none⟩) (e g hg lg)).trans (by rw [h.cellAt j (by omega), il_get _ _ _ hj])⟩
end Go.Proofs.Ythaijfjodfgbnaa
