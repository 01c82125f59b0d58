/-
  Short facts of the program that the lifting asks.
  A list of ints that was handed in.
  A list of ints that was handed in as data, laid open.
  A table as it is told: dead entries keep nothing. No program.
  A place along a trail, which can be left and gone on from: Begin, Cell, Step.
-/
import Derived.ProofKit
import Derived.OpenShut
import Derived.ShutString
import Derived.ChangeOld
import Derived.Below
import Derived.Lib.SmallJoins
import Derived.Test.YtejfmajbggmghaaGreatRows
import Derived.Test.YtejfmajbggmghaaGreatCeBut
import Derived.Test.YtejfmajbggmghaaGreatTbSeek
import Derived.Test.YtejfmajbggmghaaGreatTbModel
import Derived.Test.YtejfmajbggmghaaGreatTrCode
import Derived.Deep.RegionHeld3
import Derived.BigQuiet
import Derived.Deep.CutRange
namespace Go.Proofs.YtejfmajbggmghaaGreat
open Go.ChangeShapes Go.WideShapes Go.ChangeAt Go.RowKit Go.Joins

theorem Tryz.own : ownKnob Tryz.prog.godebug = none := by kernel_rfl
theorem Tryz.laidOut : laidOutB Tryz.prog = true := by kernel_rfl
end Go.Proofs.YtejfmajbggmghaaGreat
namespace Go.Proofs.YtejfmajbggmghaaGreat
open Go.RowKit Go.WideShapes

/-- Ints in a row, at block b from off on. -/
def SegI (w : World) (b off : Nat) (l : List Int) : Prop := ∀ j, j < l.length → w.cell? ⟨b, off + j, none⟩ = some (.int .i64 (l[j]?.getD 0))
def SlI (w : World) (a : Option Addr) (n cap : Nat) (l : List Int) : Prop := n = l.length ∧ l.length ≤ cap ∧ ∃ b off, (0 < l.length → a = some ⟨b, off, none⟩ ∧ b < w.heap.size) ∧ SegI w b off l
theorem SlI.below {w w' : World} {a : Option Addr} {n cap : Nat} {l : List Int} (h : SlI w a n cap l) (hb : Below w.heap.size w w') : SlI w' a n cap l := by
  obtain ⟨h1, h2, b, off, h3, h4⟩ := h
  refine ⟨h1, h2, b, off, fun h0 => ⟨(h3 h0).1, Nat.lt_of_lt_of_le (h3 h0).2 hb.size⟩, fun j hj => ?_⟩
  exact (hb.cell (p := ⟨b, off + j, none⟩) (h3 (by omega)).2).trans (h4 j hj)
/-- The ints of a list, laid open. -/
theorem SlI.open {w : World} {a : Option Addr} {n cap : Nat} {l : List Int} (h : SlI w a n cap l) : ∃ b off, (0 < n → a = some ⟨b, off, none⟩ ∧ b < w.heap.size) ∧ n = l.length ∧ n ≤ cap ∧ ∀ j, j < n → w.cell? ⟨b, off + j, none⟩ = some (.int .i64 (l[j]?.getD 0)) := by
  obtain ⟨h1, h2, b, off, h3, h4⟩ := h
  exact ⟨b, off, by rw [h1]; exact h3, h1, by omega, fun j hj => h4 j (by omega)⟩
end Go.Proofs.YtejfmajbggmghaaGreat
namespace Go.Proofs.YtejfmajbggmghaaGreat
open Go.ChangeShapes Go.WideShapes Go.ChangeAt Go.RowKit Go.Joins

theorem Tryz.cellsI : Tryz.prog.cellsOf 3 = 1 := by kernel_rfl
set_option maxRecDepth 100000 in
theorem ints_open {H : Type} {enc : TypeId × Value → H} {W : World} {r : Reach} {base : Nat} {v : Value} {d : DataW H} {p : List MemPlace} (hv : Value.okWide Tryz.prog W r base 87 v) (h : DataW.Trod enc Tryz.prog W 0 (fun _ => true) true 87 v d p) :
    ∃ a n c l, v = .slice a n c ∧ SlI W a n c l ∧ ∀ x ∈ l, -9223372036854775808 ≤ x ∧ x ≤ 9223372036854775807 := by
  obtain ⟨a0, n0, c0, rfl⟩ := okWide_slice Tryz.underlying87 hv
  have h' := h
  obtain ⟨fuel, hf⟩ := h
  rcases open_ints Tryz.underlying87 Tryz.underlying3 Tryz.cellsI hf with ⟨hcs, _⟩ | ⟨a, len, cap, zs, hcs, _, hl, hm, hz, _, hcell, hwz⟩
  · simp [Value.cells] at hcs
    obtain ⟨rfl, rfl, rfl⟩ := hcs
    exact ⟨none, 0, 0, [], rfl, ⟨rfl, Nat.le_refl _, 0, 0, fun h => absurd h (by simp), fun j h => absurd h (by simp)⟩, fun x hx => by cases hx⟩
  · simp [Value.cells] at hcs
    obtain ⟨rfl, rfl, rfl⟩ := hcs
    simp only [if_true] at hz
    have hlen : (zs.take n0).length = n0 := by simp; omega
    obtain ⟨b, off, spot⟩ := a
    refine ⟨_, _, _, zs.take n0, rfl, ⟨hlen.symm, by omega, b, off, fun h0 => ?_, fun j hj => ?_⟩, fun x hx => ?_⟩
    · have hp : 0 < zs.length := by omega
      have hc := hcell 0 hp
      have hspot : spot = none := by simpa [Addr.add] using World.cell?_spot hc
      subst hspot
      rw [add_plain] at hc
      exact ⟨rfl, lt_of_cell hc⟩
    · rw [hlen] at hj
      have hj' : j < zs.length := by omega
      have hspot : spot = none := by simpa [Addr.add] using World.cell?_spot (hcell 0 (by omega))
      subst hspot
      have hc := hcell j hj'
      rw [add_plain] at hc
      rw [hc]
      simp [hj, hj', List.getD]
    · have := bounds_i64 (hwz x (List.mem_of_mem_take hx))
      omega
end Go.Proofs.YtejfmajbggmghaaGreat
namespace Go.Proofs.YtejfmajbggmghaaGreat

/-- A table as it is told. -/
def Tb.sh (t : Tb) : Tb := { t with es := shw t.es }
theorem liveL_sh (es : List En) : liveL (shw es) = liveL es := by
  induction es with
  | nil => rfl
  | cons e r ih =>
    show liveL (e.shown :: shw r) = _
    rw [liveL, liveL, e.shown_is, ih]
    by_cases h : e.live = true
    · rw [if_pos h, if_pos h, En.shown_live h]
    · rw [if_neg h, if_neg h]
theorem Tb.sh_len (t : Tb) : t.sh.es.length = t.es.length := shw_len _
theorem Tb.sh_live (t : Tb) : t.sh.live = t.live := by
  show (shw t.es).length - deadN (shw t.es) = _
  rw [shw_len, deadN_shw]
  rfl
theorem shown_hash {es : List En} {n : Nat} (h : (nth es n).live = true) : nth (shw es) n = nth es n := by rw [nth_shw, En.shown_live h]
theorem sh_is (es : List En) (n : Nat) : (nth (shw es) n).live = (nth es n).live := by rw [nth_shw, En.shown_is]
theorem of_sh {es : List En} {u : Int} {n : Nat} : Of (shw es) u n ↔ Of es u n := by
  constructor
  · rintro ⟨h1, h2, h3⟩
    rw [sh_is] at h2
    rw [shown_hash h2] at h3
    exact ⟨by rw [shw_len] at h1; exact h1, h2, h3⟩
  · rintro ⟨h1, h2, h3⟩
    exact ⟨by rw [shw_len]; exact h1, by rw [sh_is]; exact h2, by rw [shown_hash h2]; exact h3⟩
theorem pos_sh {es : List En} {L : Nat} {c : Nat → Int} {n i : Nat} (hl : (nth es n).live = true) : Pos (shw es) L c n i ↔ Pos es L c n i := by
  unfold Pos
  rw [shown_hash hl]
theorem told_sh {es : List En} {L : Nat} {c : Nat → Int} {u : Int} {i : Nat} {last : Int} : Told (shw es) L c u i last ↔ Told es L c u i last := by
  constructor
  · intro h n hn p hp
    exact h n (of_sh.2 hn) p ((pos_sh hn.2.1).2 hp)
  · intro h n hn p hp
    exact h n (of_sh.1 hn) p ((pos_sh (of_sh.1 hn).2.1).1 hp)
theorem Inv.sh {es : List En} {L : Nat} {c : Nat → Int} (h : Inv es L c) : Inv (shw es) L c :=
  ⟨by rw [shw_len]; exact h.room, fun x hx => by
    rcases h.val x hx with a | a | ⟨n, a, b, d⟩
    · exact .inl a
    · exact .inr (.inl a)
    · exact .inr (.inr ⟨n, by rw [shw_len]; exact a, b, by rw [sh_is]; exact d⟩), h.inj, fun n hn hl => by
    rw [shw_len] at hn
    rw [sh_is] at hl
    obtain ⟨i, hi⟩ := h.pos n hn hl
    exact ⟨i, (pos_sh hl).2 hi⟩, by rw [shw_len]; exact h.used, by rw [deadN_shw]; exact h.dead⟩
theorem Tb.Ok.sh {t : Tb} (h : t.Ok) : t.sh.Ok := ⟨h.inv.sh, h.sz, by rw [t.sh_len]; exact h.few, h.all⟩
theorem Tb.sh_has (t : Tb) (n : Int) : t.sh.has n ↔ t.has n := by
  unfold Tb.has
  rw [t.sh_len]
  show _ ∧ _ ∧ (nth (shw t.es) n.toNat).live = true ↔ _
  rw [sh_is]
theorem shw_set (es : List En) (n : Nat) (e : En) : shw (es.set n e) = (shw es).set n e.shown := by
  unfold shw
  rw [List.map_set]
theorem Tb.sh_push (t : Tb) (u k v : Int) : (t.push u k v).sh = t.sh.push u k v := by
  unfold Tb.push Tb.sh
  simp only
  rw [shw_app, shw_len]
  rfl
theorem Tb.sh_re (t : Tb) (log : Nat) : (t.re log).sh = t.sh.re log := by
  unfold Tb.re Tb.sh
  simp only
  rw [liveL_sh, shw_all (liveL_live t.es)]
theorem Tb.sh_add (t : Tb) (u k v : Int) : (t.add u k v).sh = t.sh.add u k v := by
  unfold Tb.add
  rw [Tb.sh_push, t.sh_live, t.sh_len]
  by_cases h : t.es.length < rm (2 ^ t.L)
  · rw [if_pos h, if_pos (show t.es.length < rm (2 ^ t.sh.L) from h)]
  · rw [if_neg h, if_neg (show ¬ t.es.length < rm (2 ^ t.sh.L) from h), Tb.sh_re]
theorem Tb.sh_kill (t : Tb) (n : Nat) : (t.kill n).sh = t.sh.killz n := by
  unfold Tb.kill Tb.killz Tb.sh
  simp only
  rw [shw_set]
  rfl
theorem Tb.sh_putv (t : Tb) (n : Nat) (hl : (nth t.es n).live = true) (v : Int) : (t.putv n v).sh = t.sh.putv n v := by
  unfold Tb.putv Tb.sh
  simp only
  rw [shw_set, shown_hash hl, En.shown_live (by exact hl)]
theorem Tb.sh_clear (t : Tb) : t.clear.sh = t.sh.clear := rfl
end Go.Proofs.YtejfmajbggmghaaGreat
namespace Go.Proofs.YtejfmajbggmghaaGreat.Tr
open Go.RowKit Go.WideShapes

theorem u64_small {x : Int} (h0 : 0 ≤ x) (h1 : x < 18446744073709551616) : IntKind.u64.wrap x = x := by rw [IntKind.wrap_u64]; omega
/-- Begin: the first cell, the hash, the mask. -/
theorem begin_any {L S : Nat} (hS : Sz L S) (h : Int) (w : World) : Calls Tryz.prog 91 #[.int .i64 h, .int .i64 (L : Int)] w fun e w' => e = .returned (.agg #[.int .u64 ((uw h % S : Nat) : Int), .int .u64 ((uw h : Nat) : Int), .int .u64 ((S : Int) - 1)]) ∧ Below w.heap.size w w' := by
  have h1 := uw_int h
  have h2 := uw_lt h
  have hp := hS.pos
  have hm := hS.most
  have hle := hS.le
  have hu := hS.u64
  have hw1 : IntKind.u64.wrap ((S : Int) - 1) = (S : Int) - 1 := u64_small (by omega) (by omega)
  have h3 := hS.mask ((uw h : Nat) : Int) (by omega) (by omega)
  rw [← Int.natCast_emod] at h3
  have HL : Hid (∀ w, Calls Tryz.prog 108 #[.int .i64 (L : Int)] w fun e w' => e = .returned (.bool true) ∧ w' = w) := fun w => isLog_yes L hS.le w
  generalize uw h % S = r at h3 ⊢
  generalize uw h = u at h1 h2 h3 ⊢
  go_enter Tryz.func91, Tryz.ntmps91
  go_wp2_with fail
  refine (HL.out _).mono ?_
  rintro e w1 ⟨rfl, rfl⟩
  go_wp2
  refine bodyPost_ret (v := .agg #[.int .u64 (r : Int), .int .u64 (u : Int), .int .u64 ((S : Int) - 1)]) (by simp [results, Tryz.results91, go_sem]) rfl ?_
  exact ⟨rfl, (Below.refl _ w).alloc (Nat.le_refl _) _⟩
theorem cell_any (b o c : Nat) (hc : c < 9223372036854775808) (w : World) (h0 : w.cell? ⟨b, o, none⟩ = some (.int .u64 (c : Int))) : Calls Tryz.prog 94 #[.pointer (some ⟨b, o, none⟩)] w fun e w' => e = .returned (.int .i64 (c : Int)) ∧ w' = w := by
  have h5 : IntKind.i64.wrap (c : Int) = (c : Int) := i64_small (by omega) (by omega)
  go_enter Tryz.func94, Tryz.ntmps94
  go_wp2
  go_ret
  exact ⟨rfl, rfl⟩
/-- The world behind Step. -/
def stepW (w : World) (b o c p : Nat) : World := ((w.setCell ⟨b, o + 1, none⟩ (.int .u64 (p : Int))).setCell ⟨b, o, none⟩ (.int .u64 (c : Int))).drew
theorem step_any {L S : Nat} (hS : Sz L S) (b o c p : Nat) (hc : c < S) (hp : p < 18446744073709551616) (w : World) (h0 : w.cell? ⟨b, o, none⟩ = some (.int .u64 (c : Int))) (h1 : w.cell? ⟨b, o + 1, none⟩ = some (.int .u64 (p : Int))) (h2 : w.cell? ⟨b, o + 2, none⟩ = some (.int .u64 ((S : Int) - 1)))
    (z0 : w.frozen? ⟨b, o, none⟩ = false) (z1 : w.frozen? ⟨b, o + 1, none⟩ = false) :
    Calls Tryz.prog 95 #[.pointer (some ⟨b, o, none⟩)] w fun e w' => e = .returned (.tuple #[]) ∧ w' = stepW w b o ((c * 5 + p / 32 + 1) % S) (p / 32) := by
  have hm := hS.most
  have e2 : IntKind.u64.wrap (5 * (c : Int)) = ((c * 5 : Nat) : Int) := by rw [IntKind.wrap_u64]; omega
  have e3 : (p : Int) / 32 = ((p / 32 : Nat) : Int) := by omega
  have e4 : IntKind.u64.wrap (((c * 5 : Nat) : Int) + ((p / 32 : Nat) : Int)) = ((c * 5 + p / 32 : Nat) : Int) := by rw [IntKind.wrap_u64]; omega
  have e5 : IntKind.u64.wrap (((c * 5 + p / 32 : Nat) : Int) + 1) = ((c * 5 + p / 32 + 1 : Nat) : Int) := by rw [IntKind.wrap_u64]; omega
  have e6 : bits BinOp.and IntKind.u64 ((c * 5 + p / 32 + 1 : Nat) : Int) ((S : Int) - 1) = (((c * 5 + p / 32 + 1) % S : Nat) : Int) := by
    rw [hS.mask _ (by omega) (by omega), Int.natCast_emod]
  generalize (c * 5 + p / 32 + 1) % S = r at e6 ⊢
  generalize c * 5 + p / 32 + 1 = x3 at e5 e6
  generalize c * 5 + p / 32 = x2 at e4 e5
  generalize c * 5 = x1 at e2 e4
  generalize p / 32 = q at e3 e4 ⊢
  unfold stepW
  go_enter Tryz.func95, Tryz.ntmps95
  go_upto_region 1 with fail
  have k0 : (w.setCell ⟨b, o + 1, none⟩ (.int .u64 (q : Int))).cell? ⟨b, o, none⟩ = some (.int .u64 (c : Int)) := (World.cell?_setCell_other _ _ _ _ (by intro he; injection he with h1 h2; omega)).trans h0
  have k1 : (w.setCell ⟨b, o + 1, none⟩ (.int .u64 (q : Int))).cell? ⟨b, o + 1, none⟩ = some (.int .u64 (q : Int)) := World.cell?_setCell_same' _ _ _ (by rw [h1]; rfl)
  have k2 : (w.setCell ⟨b, o + 1, none⟩ (.int .u64 (q : Int))).cell? ⟨b, o + 2, none⟩ = some (.int .u64 ((S : Int) - 1)) := (World.cell?_setCell_other _ _ _ _ (by intro he; injection he with h1 h2; omega)).trans h2
  have k3 : (w.setCell ⟨b, o + 1, none⟩ (.int .u64 (q : Int))).frozen? ⟨b, o, none⟩ = false := by rw [World.frozen?_setCell]; exact z0
  generalize hw1 : w.setCell ⟨b, o + 1, none⟩ (.int .u64 (q : Int)) = w1 at *
  have HW : Hid (w.setCell ⟨b, o + 1, none⟩ (.int .u64 (q : Int)) = w1) := hw1
  clear hw1
  go_region
  all_goals
    go_wp2
    go_end0
    exact ⟨rfl, by rw [HW.out]⟩
end Go.Proofs.YtejfmajbggmghaaGreat.Tr
