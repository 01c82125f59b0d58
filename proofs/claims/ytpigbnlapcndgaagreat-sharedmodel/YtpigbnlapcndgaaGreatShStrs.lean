/-
  A row of texts that was handed in, laid open; pairs told, and compared by the law.
-/
import Derived.Test.YtpigbnlapcndgaaGreatShSight
import Derived.Test.YtpigbnlapcndgaaGreatShSet0
import Derived.Test.YtpigbnlapcndgaaGreatTrOpen
import Derived.ChangeArms
import Derived.Deep.Slices
import Derived.ChangeSame
namespace Go.Proofs.YtpigbnlapcndgaaGreat
open Go.ChangeShapes Go.WideShapes Go.ChangeAt Go.RowKit Go.Joins

/-- A row of texts. -/
def Strs (W : World) (a : Option Addr) (n c : Nat) (G : Nat → ByteArray) : Prop :=
  n ≤ c ∧ ∃ b off, (0 < n → a = some ⟨b, off, none⟩ ∧ b < W.heap.size) ∧ ∀ i, i < n → W.cell? ⟨b, off + i, none⟩ = some (.string (G i))
theorem Tryz.cellsStr1 : Tryz.prog.cellsOf 9 = 1 := by kernel_rfl
theorem one_add (b off q : Nat) : (⟨b, off, none⟩ : Addr).add q = ⟨b, off + q, none⟩ := by
  unfold Addr.add
  split <;> simp_all
set_option maxRecDepth 100000 in
theorem strs_open {H : Type} {enc : TypeId × Value → H} {W : World} {r : Reach} {base : Nat} {v : Value} {d : DataW H} {p : List MemPlace} (hv : Value.okWide Tryz.prog W r base 51 v) (h : DataW.Trod enc Tryz.prog W 0 (fun _ => true) true 51 v d p) :
    ∃ a n c G, v = .slice a n c ∧ Strs W a n c G := by
  obtain ⟨a0, n0, c0, rfl⟩ := okWide_slice Tryz.underlying51 hv
  obtain ⟨fuel, hf⟩ := h
  rcases Deep.open_slice Tryz.underlying51 hf with ⟨hcs, _⟩ | ⟨a, len, cap, m, n, D, Pl, hcs, hb, hl, hm, hmm, _, hx⟩
  · simp [Value.cells] at hcs
    obtain ⟨rfl, rfl, rfl⟩ := hcs
    exact ⟨none, 0, 0, fun _ => ByteArray.empty, rfl, Nat.le_refl _, 0, 0, fun h => absurd h (by omega), fun i h => absurd h (by omega)⟩
  · simp [Value.cells] at hcs
    obtain ⟨rfl, rfl, rfl⟩ := hcs
    simp only [if_true] at hmm
    have each : ∀ i, i < m → ∃ q : ByteArray, W.cell? (a.add i) = some (.string q) := by
      intro i hi
      obtain ⟨cs', h1, h2⟩ := hx i hi
      rw [Tryz.cellsStr1] at h1
      obtain ⟨_, hlen, hcell⟩ := World.cells?_some h1
      match cs', hlen with
      | [v0], _ =>
        obtain ⟨z0, e0, _⟩ := DataW.trod_string Tryz.underlying9 h2
        simp only [List.cons.injEq, and_true] at e0
        subst e0
        have hc0 := hcell 0 (by omega)
        rw [Deep.add_add] at hc0
        exact ⟨z0, by simpa using hc0⟩
    obtain ⟨q, hq⟩ := Deep.choose_lt each
    obtain ⟨b, off, spot⟩ := a
    have hsp : 0 < n0 → spot = none := fun h0 => by
      have := hq 0 (by omega)
      simpa [Addr.add] using World.cell?_spot this
    refine ⟨_, _, _, q, rfl, hl, b, off, fun h0 => ?_, fun i hi => ?_⟩
    · obtain rfl := hsp h0
      have hc := hq 0 (by omega)
      rw [one_add] at hc
      exact ⟨rfl, lt_of_cell hc⟩
    · obtain rfl := hsp (by omega)
      have hc := hq i (by omega)
      rw [one_add] at hc
      exact hc
/-- A row of pairs that can be read. -/
def RdP (w : World) (a : Option Addr) (l : List (ByteArray × Int)) : Prop := ∃ g, (0 < l.length → a = some ⟨g, 0, none⟩) ∧ ∀ j, j < l.length → w.cell? ⟨g, j * 2, none⟩ = some (.string (l[j]?.getD (ByteArray.empty, 0)).1) ∧ w.cell? ⟨g, j * 2 + 1, none⟩ = some (.int .i64 (l[j]?.getD (ByteArray.empty, 0)).2)
theorem pcl_get : ∀ (l : List (ByteArray × Int)) (j : Nat), j < l.length → (pcl l)[j * 2]? = some (.string (l[j]?.getD (ByteArray.empty, 0)).1) ∧ (pcl l)[j * 2 + 1]? = some (.int .i64 (l[j]?.getD (ByteArray.empty, 0)).2)
  | [], j, h => absurd h (by simp)
  | p :: l, 0, _ => ⟨rfl, rfl⟩
  | p :: l, j + 1, h => by
    have := pcl_get l j (by simpa using h)
    rw [show (j + 1) * 2 = j * 2 + 1 + 1 by omega]
    exact this
theorem PsB.rd {B : Nat} {w : World} {v : Value} {l : List (ByteArray × Int)} (h : PsB B w v l) : ∃ a cap, v = .slice a l.length cap ∧ RdP w a l := by
  rcases h.2 with ⟨h1, h2⟩ | ⟨g, cap, cur, h1, h2⟩
  · refine ⟨none, 0, by rw [h1, h2], 0, fun h => by omega, fun j hj => by omega⟩
  · refine ⟨_, cap, h1, g, fun _ => rfl, fun j hj => ?_⟩
    have h3 : w.ownsRow B 48 2 (.slice (some ⟨g, 0, none⟩) l.length cap) l.length (pcl l) := by rw [← h1]; exact h
    have h4 := World.ownsRow.cellAt h3 (j * 2) (by omega)
    have h5 := World.ownsRow.cellAt h3 (j * 2 + 1) (by omega)
    rw [h4, h5]
    exact pcl_get l j hj
theorem RdP.below {w w' : World} {a : Option Addr} {l : List (ByteArray × Int)} (h : RdP w a l) (hb : Below w.heap.size w w') : RdP w' a l := by
  obtain ⟨g, h1, h2⟩ := h
  exact ⟨g, h1, fun j hj => ⟨(hb.cell (p := ⟨g, j * 2, none⟩) (lt_of_cell (h2 j hj).1)).trans (h2 j hj).1, (hb.cell (p := ⟨g, j * 2 + 1, none⟩) (lt_of_cell (h2 j hj).2)).trans (h2 j hj).2⟩⟩
theorem neP (s : ByteArray) (v : Int) (w : World) : (binOp .neq 48 (.agg #[.string s, .int .i64 v]) (.agg #[.string s, .int .i64 v])).run Tryz.prog w = .ok (.bool false) w := by
  have hu : Tryz.prog.underlying 48 = some (.struct (Tryz.prog.fieldsOf 48)) := by kernel_rfl
  have hp : Tryz.prog.stoodInHeld 48 = false := by kernel_rfl
  rw [run_neq_struct, run_equalIn_agg w 9999 _ _ _ hu hp]
  have hF : (Tryz.prog.fieldsOf 48).toList = [⟨"Name", 9, 0, false, "", "", 0⟩, ⟨"Value", 3, 1, false, "", "", 16⟩] := by kernel_rfl
  rw [hF]
  simp [Op.eqFields, go_sem]
set_option maxRecDepth 100000 in
set_option maxHeartbeats 1600000 in
theorem pairs10_eq {w : World} {a1 a2 : Option Addr} {c1 c2 : Nat} {l : List (ByteArray × Int)} (h1 : RdP w a1 l) (h2 : RdP w a2 l) (hl : l.length ≤ 100000) :
    Calls Tryz.prog 13 #[.slice a1 l.length c1, .slice a2 l.length c2] w fun e w' => e = .returned (.bool true) ∧ Below w.heap.size w w' := by
  obtain ⟨g1, ha1, hc1⟩ := h1
  obtain ⟨g2, ha2, hc2⟩ := h2
  obtain ⟨n, hn⟩ : ∃ n, l.length = n := ⟨_, rfl⟩
  rw [hn] at ha1 ha2 hc1 hc2 hl ⊢
  have HC1 := Lib.hid hc1
  have HC2 := Lib.hid hc2
  have HA1 := Lib.hid ha1
  have HA2 := Lib.hid ha2
  clear hc1 hc2 ha1 ha2 hn
  go_enter Tryz.func13, Tryz.ntmps13
  go_wp2_with fail
  go_loopw [5] (fun iv wr => ∃ i : Nat, i ≤ n ∧ iv = .int .i64 (i : Int) ∧ Below w.heap.size w wr) (fun iv _ => n - (intOf iv).toNat)
  case atStart => exact ⟨0, Nat.zero_le _, rfl, Below.refl _ _⟩
  case round =>
    obtain ⟨i, hi, rfl, hB⟩ := hrel
    by_cases hin : i < n
    · have ti : (i : Int) < (n : Int) := by omega
      have e1 := HA1.out (by omega)
      have e2 := HA2.out (by omega)
      subst e1
      subst e2
      obtain ⟨q1, r1⟩ := HC1.out i hin
      obtain ⟨q2, r2⟩ := HC2.out i hin
      have p1 : wr.drew.cell? ⟨g1, i * 2, none⟩ = some (.string (l[i]?.getD (ByteArray.empty, 0)).1) := (hB.cell (p := ⟨g1, i * 2, none⟩) (lt_of_cell q1)).trans q1
      have p2 : wr.drew.cell? ⟨g2, i * 2, none⟩ = some (.string (l[i]?.getD (ByteArray.empty, 0)).1) := (hB.cell (p := ⟨g2, i * 2, none⟩) (lt_of_cell q2)).trans q2
      have p3 : wr.drew.cell? ⟨g1, i * 2 + 1, none⟩ = some (.int .i64 (l[i]?.getD (ByteArray.empty, 0)).2) := (hB.cell (p := ⟨g1, i * 2 + 1, none⟩) (lt_of_cell r1)).trans r1
      have p4 : wr.drew.cell? ⟨g2, i * 2 + 1, none⟩ = some (.int .i64 (l[i]?.getD (ByteArray.empty, 0)).2) := (hB.cell (p := ⟨g2, i * 2 + 1, none⟩) (lt_of_cell r2)).trans r2
      have e5 : IntKind.i64.wrap ((i : Int) + 1) = ((i + 1 : Nat) : Int) := by rw [i64_small (by omega) (by omega)]; omega
      generalize (l[i]?.getD (ByteArray.empty, 0)).1 = x at *
      generalize (l[i]?.getD (ByteArray.empty, 0)).2 = y at *
      have hne := neP x y
      clear q1 q2 r1 r2
      go_wp2_with fail
      go_region_held3 (fun V => (V.cell? ⟨g1, i * 2, none⟩ = some (.string x) ∧ V.cell? ⟨g2, i * 2, none⟩ = some (.string x)) ∧ V.cell? ⟨g1, i * 2 + 1, none⟩ = some (.int .i64 y) ∧ V.cell? ⟨g2, i * 2 + 1, none⟩ = some (.int .i64 y)) (first | with_reducible exact ⟨⟨p1, p2⟩, p3, p4⟩ | fail) (fail)
      go_wp2_with fail
      go_roundw
      case rel => exact ⟨i + 1, by omega, rfl, hB.drew⟩
      case measure => simp [intOf]; omega
    · have ti : ¬ (i : Int) < (n : Int) := by omega
      go_wp2
      go_ret
      exact ⟨rfl, hB⟩
theorem mR_pairs (a : Option Addr) (w : World) : (method 294 59 (.pointer a) "lexicon/shared.pairs").run Tryz.prog w = .ok (102, .pointer a) w := by kernel_rfl
theorem mO_pairs (a : Option Addr) (w : World) : (method 294 177 (.pointer a) "lexicon/shared.pairs").run Tryz.prog w = .ok (142, .pointer a) w := by kernel_rfl
/-- The pairs of a namespace. -/
def prsS (F : Fa) : Stn → List (ByteArray × Int)
  | .row vs => prsN F.all F.kt.es vs vs.length
  | .own t => prsO F.all (liveL t.es)
set_option maxRecDepth 100000 in
theorem spairs_any {w : World} {f : Nat} {F : Fa} {mv : Value} {XF : Nat → Prop} {s : Nat} {st : Stn} {v : Nat} {XS : Nat → Prop} {c0 : Nat} (h : Fs w f F mv XF s st v XS) (hO : F.Ok hsT c0) (hst : st.Ok hsT F c0) (hr : F.kt.es.length ≤ 256) :
    Calls Tryz.prog 14 #[.pointer (some ⟨s, 0, none⟩)] w fun e w' => ∃ v, e = .returned v ∧ PsB w.heap.size w' v (prsS F st) ∧ Below w.heap.size w w' := by
  obtain ⟨g, gi, r, h', ev, mb, nv, hFa, _⟩ := h.fm
  obtain ⟨q, XQ, h1, h2, _, _⟩ := h.sm
  have CN := isNothing_no (h1.c 1 (by omega))
  cases st with
  | row vs =>
    obtain ⟨vv, hqb, hqv, _, _⟩ := h2
    have x1 : w.cell? ⟨s, 1, none⟩ = some (.iface 59 (.pointer (some ⟨q, 0, none⟩))) := h1.c 1 (by omega)
    have hvl : vs.length ≤ F.kt.es.length := hst
    have CP : Calls Tryz.prog 102 #[.pointer (some ⟨q, 0, none⟩)] w fun e w' => ∃ v, e = .returned v ∧ PsB w.heap.size w' v (prsS F (.row vs)) ∧ Below w.heap.size w w' := rowPairs_any hFa hO.nl hqb hqv hvl (by omega) hO.dead
    have mp := mR_pairs (some ⟨q, 0, none⟩)
    clear h hO hst hFa h1 hqb hqv
    go_enter Tryz.func14, Tryz.ntmps14
    go_wp2_with fail
    refine CN.mono ?_
    rintro e w0 ⟨rfl, rfl⟩
    clear CN
    go_wp2_with fail
    refine CP.mono ?_
    rintro e w1 ⟨v1, rfl, hP, hB⟩
    clear CP
    have HP := Lib.hid hP
    clear hP
    go_wp2
    go_ret
    exact ⟨_, rfl, HP.out, hB⟩
  | own t =>
    obtain ⟨tg, tgi, tr, th, tev, hqb, hqd, _, _⟩ := h2
    have x1 : w.cell? ⟨s, 1, none⟩ = some (.iface 177 (.pointer (some ⟨q, 0, none⟩))) := h1.c 1 (by omega)
    have CP : Calls Tryz.prog 142 #[.pointer (some ⟨q, 0, none⟩)] w fun e w' => ∃ v, e = .returned v ∧ PsB w.heap.size w' v (prsS F (.own t)) ∧ Below w.heap.size w w' := ownPairs_any hFa hqb hqd hst.2.1 (by have := hst.1.few; have := hst.1.all; omega)
    have mp := mO_pairs (some ⟨q, 0, none⟩)
    clear h hO hst hFa h1 hqb hqd
    go_enter Tryz.func14, Tryz.ntmps14
    go_wp2_with fail
    refine CN.mono ?_
    rintro e w0 ⟨rfl, rfl⟩
    clear CN
    go_wp2_with fail
    refine CP.mono ?_
    rintro e w1 ⟨v1, rfl, hP, hB⟩
    clear CP
    have HP := Lib.hid hP
    clear hP
    go_wp2
    go_ret
    exact ⟨_, rfl, HP.out, hB⟩
end Go.Proofs.YtpigbnlapcndgaaGreat
