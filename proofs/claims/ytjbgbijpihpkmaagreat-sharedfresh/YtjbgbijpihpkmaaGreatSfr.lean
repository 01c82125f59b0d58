/-
  SharedFresh, as mathematics: names that are given in one order; a meter that counts.
  SharedFresh: names, each once.
  SharedFresh: a family and a namespace of it, with a meter, behind some calls.
  SharedFresh, walked.
-/
import Derived.Test.YtjbgbijpihpkmaaGreatShm
import Derived.Test.YtjbgbijpihpkmaaGreatMet
import Derived.BigQuiet
import Derived.Test.YtjbgbijpihpkmaaGreatLws
import Derived.Deep.CutBlock
namespace Go.Proofs.YtjbgbijpihpkmaaGreat
open Go.RowKit Go.WideShapes

/-- A family whose names are the first mo of l, in their order. -/
structure Frs (l : List ByteArray) (F : Fa) (mo : Nat) : Prop where
  all : F.all = l.take mo
  es : F.kt.es.length = mo
  key : ∀ i, i < mo → (nth F.kt.es i).key = (i : Int)
  mol : mo ≤ l.length
  room : F.room = l.length
  most : F.most = 1000
theorem Frs.new (l : List ByteArray) : Frs l ⟨[], Tb.new, l.length, 1000⟩ 0 := ⟨by simp, rfl, fun i h => by omega, Nat.zero_le _, rfl, rfl⟩
theorem Frs.fnd {l : List ByteArray} {F : Fa} {mo c : Nat} (h : Frs l F mo) (hO : F.Ok hsT c) {k : Int} {n i : Nat} {s : ByteArray} (hi : i < mo) (hs : l[i]? = some s) (hk : Num F.all s k) : Fnd F.kt.es k n ↔ n = i := by
  have h1 : F.all[i]? = some s := by rw [h.all, List.getElem?_take_of_lt hi]; exact hs
  have hki : k = (i : Int) := Num.uniq hO.nd hk (.inl ⟨i, rfl, h1⟩)
  subst hki
  constructor
  · rintro ⟨h2, h3, h4⟩
    rw [h.key n (by rw [← h.es]; exact h2)] at h4
    omega
  · rintro rfl
    exact ⟨by rw [h.es]; exact hi, dead_live hO.dead (by rw [h.es]; exact hi), h.key n hi⟩
theorem Frs.non {l : List ByteArray} {F : Fa} {mo : Nat} (h : Frs l F mo) (nd : l.Nodup) {k : Int} {s : ByteArray} (hs : l[mo]? = some s) (hk : Num F.all s k) : k = -1 := by
  rcases hk with ⟨n, rfl, h1⟩ | ⟨h1, _⟩
  · exfalso
    have hl : n < (l.take mo).length := by rw [← h.all]; exact (List.getElem?_eq_some_iff.1 h1).1
    have hn : n < mo := by simp at hl; omega
    rw [h.all, List.getElem?_take_of_lt hn] at h1
    have := nodup_idx nd h1 hs
    omega
  · exact h1
/-- The next name of a namespace. -/
theorem Frs.set {l : List ByteArray} {F F' : Fa} {mo c : Nat} {vs : List Int} {st' : Stn} {s : ByteArray} {v er : Int} {dc dd : Nat} (h : Frs l F mo) (hO : F.Ok hsT c) (nd : l.Nodup) (hll : l.length ≤ 60) (hv : vs.length ≤ mo) (hs : l[vs.length]? = some s) (hR : SetR hsT F s v (.row vs) F' st' er dc dd) :
    er = 0 ∧ dc = 1 ∧ dd = 0 ∧ st' = .row (vs ++ [v]) ∧ Frs l F' (max mo (vs.length + 1)) ∧ (vs.length < mo → F' = F) := by
  have hlt : vs.length < l.length := (List.getElem?_eq_some_iff.1 hs).1
  have hm := h.most
  have hmx1 : vs.length < mo → max mo (vs.length + 1) = mo := fun h => by omega
  rcases Nat.lt_or_ge vs.length mo with z | z
  · cases hR with
    | @putR _ k n hk hn hl => exact absurd ((h.fnd hO z hs hk).1 hn) (by omega)
    | @fullR _ k hk hn hm' => omega
    | @next _ k hk hn hm' => exact ⟨rfl, rfl, rfl, rfl, by rw [hmx1 z]; exact h, fun _ => rfl⟩
    | @new _ k hk hn hm' hl hr => exact absurd ((h.fnd hO z hs hk).2 rfl) (hn _)
    | @turn _ k hk hn hm' hl => exact absurd (hn _ ((h.fnd hO z hs hk).2 rfl)) (by omega)
  · have e : vs.length = mo := by omega
    rw [e] at hs hlt
    have noF : ∀ n, ¬ Fnd F.kt.es (-1) n := fun n hn => by
      have h4 := hn.2.2
      rw [h.key n (by rw [← h.es]; exact hn.1)] at h4
      omega
    cases hR with
    | @putR _ k n hk hn hl => rw [h.non nd hs hk] at hn; exact absurd hn (noF _)
    | @fullR _ k hk hn hm' => omega
    | @next _ k hk hn hm' => rw [h.non nd hs hk] at hn; exact absurd hn (noF _)
    | @new _ k hk hn hm' hl hr =>
      have hk1 := h.non nd hs hk
      subst hk1
      refine ⟨rfl, rfl, rfl, rfl, ?_, fun z' => by omega⟩
      have hal := add_live hO.dead (hsT s) (numn F.all (-1)) 0
      have hlen : F.all.length = mo := by rw [h.all, List.length_take]; have := h.mol; omega
      have hnum : numn F.all (-1) = (mo : Int) := by unfold numn; rw [if_pos rfl, hlen]
      rw [show max mo (vs.length + 1) = mo + 1 by omega]
      refine ⟨?_, ?_, ?_, by omega, h.room, h.most⟩
      · show alln F.all s (-1) = _
        unfold alln
        rw [if_pos rfl, h.all, List.take_add_one, hs]
        rfl
      · show (F.kt.add _ _ _).es.length = _
        rw [hal]
        simp [h.es]
      · intro i hi
        show (nth (F.kt.add _ _ _).es i).key = _
        rw [hal, hnum]
        rcases Nat.lt_or_ge i mo with y | y
        · have : nth (F.kt.es ++ [⟨true, hsT s, (mo : Int), 0, (F.kt.births : Int)⟩]) i = nth F.kt.es i := by unfold nth; rw [List.getD_eq_getElem?_getD, List.getD_eq_getElem?_getD, List.getElem?_append_left (by rw [h.es]; exact y)]
          rw [this]
          exact h.key i y
        · obtain rfl : i = mo := by omega
          have : nth (F.kt.es ++ [⟨true, hsT s, (i : Int), 0, (F.kt.births : Int)⟩]) i = ⟨true, hsT s, (i : Int), 0, (F.kt.births : Int)⟩ := by unfold nth; rw [List.getD_eq_getElem?_getD, List.getElem?_append_right (by rw [h.es]; exact Nat.le_refl _), h.es]; simp
          rw [this]
    | @turn _ k hk hn hm' hl =>
      exact absurd ⟨by rw [h.es, e], by rw [e, h.room]; exact hlt⟩ hl
/-- A name that a namespace has. -/
theorem Frs.put {l : List ByteArray} {F F' : Fa} {mo c p : Nat} {vs : List Int} {st' : Stn} {s : ByteArray} {v er : Int} {dc dd : Nat} (h : Frs l F mo) (hO : F.Ok hsT c) (hll : l.length ≤ 60) (hv : vs.length ≤ mo) (hp : p < vs.length) (hs : l[p]? = some s) (hR : SetR hsT F s v (.row vs) F' st' er dc dd) :
    er = 0 ∧ dc = 0 ∧ dd = 0 ∧ st' = .row (vs.set p v) ∧ F' = F := by
  have hml := h.mol
  have hm := h.most
  cases hR with
  | @putR _ k n hk hn hl =>
    have := (h.fnd hO (by omega) hs hk).1 hn
    subst this
    exact ⟨rfl, rfl, rfl, rfl, rfl⟩
  | @fullR _ k hk hn hm' => omega
  | @next _ k hk hn hm' => exact absurd ((h.fnd hO (by omega) hs hk).1 hn) (by omega)
  | @new _ k hk hn hm' hl hr => exact absurd ((h.fnd hO (by omega) hs hk).2 rfl) (hn _)
  | @turn _ k hk hn hm' hl => exact absurd (hn _ ((h.fnd hO (by omega) hs hk).2 rfl)) (by omega)
theorem Frs.nms {l : List ByteArray} {F : Fa} {mo : Nat} (h : Frs l F mo) : nmsOf F.all F.kt.es = l.take mo := by
  unfold nmsOf
  apply List.ext_getElem?
  intro i
  rw [List.getElem?_map]
  rcases Nat.lt_or_ge i mo with y | y
  · have hi : i < F.kt.es.length := by rw [h.es]; exact y
    have hk := h.key i y
    unfold nth at hk
    rw [List.getD_eq_getElem?_getD] at hk
    rw [List.getElem?_eq_getElem hi] at hk ⊢
    simp only [Option.getD_some] at hk
    have hl : i < l.length := Nat.lt_of_lt_of_le y h.mol
    rw [List.getElem?_take_of_lt y, List.getElem?_eq_getElem hl, Option.map_some, hk]
    congr 1
    refine nmOf_at ?_
    rw [h.all, List.getElem?_take_of_lt y, List.getElem?_eq_getElem hl]
  · rw [List.getElem?_eq_none (by rw [h.es]; exact y), List.getElem?_eq_none (by simp; omega)]
    rfl
/-- A meter that counts, whatever its cells. -/
def me4 (g : Nat) : Int → Int → Int → Int → World → Prop := fun a _ c d w => ∃ b, Me.Mt w g a b c d
theorem more_one {x : Int} (h0 : 0 ≤ x) (h : x ≤ 1000000000000) : Me.more x 1 = x + 1 := by
  unfold Me.more
  rw [if_pos (by omega)]
  have := i64_small (x := x + 1) (by omega) (by omega)
  first | exact this | (unfold wrap64; omega) | (simp [wrap64]; omega)
theorem me_ex {g : Nat} {w w' : World} (h : Me.But g w w') : Ex (mB (.pointer (some ⟨g, 0, none⟩))) w w' := ⟨h.os, h.tape, h.output, h.size, fun k hk hx => h.block k hk (fun e => hx (by rw [e]; rfl))⟩
theorem meB {g k : Nat} (h : mB (.pointer (some ⟨g, 0, none⟩)) k) : k = g := by cases h; rfl
theorem m4_me (g : Nat) : M4 (.pointer (some ⟨g, 0, none⟩)) (me4 g) := by
  refine ⟨fun c d => ⟨fun a b w h0 h1 hM => ?_, fun a b w w' hM e => ?_, fun a b w k hM hk => ?_⟩, fun c d a b w h0 h1 hM => ?_, fun a b c d w h0 h1 hM => ?_, fun a b c d w h0 h1 hM => ?_⟩
  · obtain ⟨b', hM⟩ := hM
    refine (Me.table_any g a b' c d w hM).mono ?_
    rintro e w' ⟨rfl, hb, hm⟩
    rw [more_one h0 (by omega)] at hm
    exact ⟨rfl, ⟨_, hm⟩, me_ex hb⟩
  · obtain ⟨b', hM⟩ := hM
    exact ⟨b', Me.Mt.same hM (e g rfl)⟩
  · obtain ⟨b', hM⟩ := hM
    rw [meB hk]
    exact Me.Mt.lt hM
  · obtain ⟨b', hM⟩ := hM
    refine (Me.visit_any g 1 a b' c d w hM).mono ?_
    rintro e w' ⟨rfl, hb, hm⟩
    exact ⟨rfl, ⟨_, hm⟩, me_ex hb⟩
  · obtain ⟨b', hM⟩ := hM
    refine (Me.charge_any g 1 a b' c d w hM).mono ?_
    rintro e w' ⟨rfl, hb, hm⟩
    rw [more_one h0 (by omega)] at hm
    exact ⟨rfl, ⟨_, hm⟩, me_ex hb⟩
  · obtain ⟨b', hM⟩ := hM
    refine (Me.turn_any g a b' c d w hM).mono ?_
    rintro e w' ⟨rfl, hb, hm⟩
    rw [more_one h0 (by omega)] at hm
    exact ⟨rfl, ⟨_, hm⟩, me_ex hb⟩
end Go.Proofs.YtjbgbijpihpkmaaGreat
namespace Go.Proofs.YtjbgbijpihpkmaaGreat
open Go.RowKit Go.WideShapes

theorem ckp {w w' : World} {b o : Nat} {v : Value} (h : w.cell? ⟨b, o, none⟩ = some v) (hb : Below w.heap.size w w') : w'.cell? ⟨b, o, none⟩ = some v := (hb.cell (p := ⟨b, o, none⟩) (lt_of_cell h)).trans h
theorem bdN {B : Nat} {a w : World} (h : Below B a w) (n : Nat) : Below B a (w.drewN n) := ⟨h.os, h.tape, h.output, h.size, h.block⟩
theorem take_not {l : List ByteArray} {k : Nat} {s x : ByteArray} (hk : l[k]? = some x) : s ∉ l.take (k + 1) ↔ s ∉ l.take k ∧ s ≠ x := by
  rw [List.take_add_one, hk]
  simp
set_option maxRecDepth 100000 in
set_option maxHeartbeats 8000000 in
theorem unlike_any {w : World} {a : Option Addr} {n c : Nat} {G : Nat → ByteArray} (hS : Strs w a n c G) (hn : n ≤ 60) :
    Calls Tryz.prog 21 #[.slice a n c] w fun e w' => ∃ v l, e = .returned v ∧ NsB w.heap.size w' v l ∧ l.Nodup ∧ l.length ≤ n ∧ (∀ s ∈ l, ∃ j, j < n ∧ s = G j) ∧ Below w.heap.size w w' := by
  obtain ⟨i0, hi0, hz0, hz1, hz2⟩ := info_parts Tryz.infoStr
  obtain ⟨hcap, b, off, hab, hG⟩ := hS
  have HG := Lib.hid hG
  have HAB := Lib.hid hab
  clear hG hab
  go_enter Tryz.func21, Tryz.ntmps21
  go_wp2_with fail
  go_loopw [3, 4, 5, 6] (fun vo iv _ _ wr => ∃ (i : Nat) (l : List ByteArray), i ≤ n ∧ iv = .int .i64 (i : Int) ∧ NsB w.heap.size wr vo l ∧ l.Nodup ∧ l.length ≤ i ∧ (∀ s ∈ l, ∃ j, j < n ∧ s = G j) ∧ Below w.heap.size w wr) (fun _ iv _ _ _ => n - (intOf iv).toNat)
  case atStart => exact ⟨0, [], Nat.zero_le _, rfl, World.ownsRow_nil _ _ _ _, by simp, Nat.le_refl _, by simp, Below.refl _ _⟩
  case round =>
    obtain ⟨wi, hwi⟩ : ∃ y, y = wr := ⟨_, rfl⟩
    subst hwi
    obtain ⟨i, l, hi, rfl, hN, hnd, hll, hmem, hB⟩ := hrel
    obtain ⟨ao, co, rfl, hRd⟩ := hN.rd
    by_cases hin : i < n
    · have ti : (i : Int) < (n : Int) := by omega
      have ti0 : (0 : Int) ≤ (i : Int) := by omega
      have e5 : IntKind.i64.wrap ((i : Int) + 1) = ((i + 1 : Nat) : Int) := by rw [i64_small (by omega) (by omega)]; omega
      obtain ⟨rfl, hbl⟩ := HAB.out (by omega)
      have gi : wi.cell? ⟨b, off + i, none⟩ = some (.string (G i)) := (hB.cell (p := ⟨b, off + i, none⟩) hbl).trans (HG.out i hin)
      have HN := Lib.hid hN
      have HB := Lib.hid hB
      have HM := Lib.hid (And.intro hnd hmem)
      obtain ⟨x, hx⟩ : ∃ x, G i = x := ⟨_, rfl⟩
      rw [hx] at gi
      have HX := Lib.hid hx
      clear hN hB hnd hmem hx
      obtain ⟨go, oo, hgo, hco⟩ := hRd
      have HGO := Lib.hid hgo
      have HCO := Lib.hid hco
      clear hgo hco
      go_wp2_with fail
      go_loopw [5, 6] (fun nb kv wr => ∃ k : Nat, k ≤ l.length ∧ kv = .int .i64 (k : Int) ∧ (∃ tb : Bool, nb = .bool tb ∧ (tb = true ↔ x ∉ l.take k)) ∧ Below wi.heap.size wi wr) (fun _ kv _ => l.length - (intOf kv).toNat)
      case atStart => exact ⟨0, Nat.zero_le _, rfl, ⟨true, rfl, by simp⟩, Below.refl _ _⟩
      case round =>
        obtain ⟨wk, hwk⟩ : ∃ y, y = wr := ⟨_, rfl⟩
        subst hwk
        obtain ⟨k, hk, rfl, ⟨tb, rfl, htb⟩, hBk⟩ := hrel
        have gi2 : wk.cell? ⟨b, off + i, none⟩ = some (.string x) := ckp gi hBk
        by_cases hkl : k < l.length
        · have tk : (k : Int) < (l.length : Int) := by omega
          have tk0 : (0 : Int) ≤ (k : Int) := by omega
          have e6 : IntKind.i64.wrap ((k : Int) + 1) = ((k + 1 : Nat) : Int) := by rw [i64_small (by omega) (by omega)]; omega
          obtain rfl := HGO.out (by omega)
          have ck := ckp (HCO.out k hkl) hBk
          obtain ⟨y, hy⟩ : ∃ y, l[k]? = some y := ⟨_, List.getElem?_eq_getElem hkl⟩
          rw [hy] at ck
          simp only [Option.getD_some] at ck
          have htk := take_not (s := x) hy
          have HBK := Lib.hid hBk
          clear hBk
          cases tb with
          | true =>
            have hnb : x ∉ l.take k := htb.1 rfl
            by_cases hxy : y = x
            · subst hxy
              have hz := neS y
              have HF := Lib.hid (show ((false : Bool) = true ↔ y ∉ l.take (k + 1)) by rw [htk]; simp)
              clear htk hnb hy htb
              go_wp2_with fail
              go_quiet (fail)
              all_goals
                go_wp2_with fail
                go_roundw
                case rel => exact ⟨k + 1, by omega, rfl, ⟨_, rfl, HF.out⟩, bdN HBK.out _⟩
                case measure => simp [intOf]; omega
            · have hz := txt_ne hxy
              have HF := Lib.hid (show ((true : Bool) = true ↔ x ∉ l.take (k + 1)) by rw [htk]; exact ⟨fun _ => ⟨hnb, fun e => hxy e.symm⟩, fun _ => rfl⟩)
              clear htk hnb hy hxy htb
              go_wp2_with fail
              go_quiet (fail)
              all_goals
                go_wp2_with fail
                go_roundw
                case rel => exact ⟨k + 1, by omega, rfl, ⟨true, rfl, by simpa using HF.out⟩, bdN HBK.out _⟩
                case measure => simp [intOf]; omega
          | false =>
            have HF := Lib.hid (show ((false : Bool) = true ↔ x ∉ l.take (k + 1)) by rw [htk]; exact ⟨fun h => Bool.noConfusion h, fun h => htb.2 h.1⟩)
            clear htk hy htb
            go_wp2_with fail
            go_quiet (fail)
            all_goals
              go_wp2_with fail
              go_roundw
              case rel => exact ⟨k + 1, by omega, rfl, ⟨_, rfl, HF.out⟩, bdN HBK.out _⟩
              case measure => simp [intOf]; omega
        · obtain rfl : k = l.length := by omega
          have tk : ¬ (l.length : Int) < (l.length : Int) := by omega
          rw [List.take_length] at htb
          have hBw := HB.out.trans (hBk.mono HB.out.size)
          have hown : NsB w.heap.size wk (.slice ao l.length co) l := own_keep HN.out hBk
          have HBW := Lib.hid hBw
          have hsz := hBw.size
          clear hBk hBw
          cases tb with
          | false =>
            have HOW := Lib.hid hown
            clear hown htb
            go_wp2_with fail
            go_roundw
            case rel => exact ⟨i + 1, l, by omega, rfl, HOW.out, HM.out.1, by omega, HM.out.2, HBW.out⟩
            case measure => simp [intOf]; omega
          | true =>
            have hxl : x ∉ l := htb.1 rfl
            unfold NsB at hown
            have HXL := Lib.hid hxl
            clear hxl htb
            go_wp2_with (at_builtin; refine wpList3_append_own rfl _ _ 50 rfl w.heap.size 9 i0 (.string ByteArray.empty) 1 16 Tryz.underlying50 hi0 hz0 hz1 hz2 rfl (by decide) _ _ _ rfl (World.ownsRow.alloc hown _) ⟨wk.heap.size, 0, none⟩ 1 1 [.string x] rfl rfl (new_one _ _ _) (by simp [Value.oneCell']) (by unfold maxLen; omega) (by omega) (by simp; omega) ?_)
            intro v1 w3 g1 g2 g3
            have hB3 : Below w.heap.size w w3 := below_grown HBW.out (Nat.le_refl _) hown g2
            have hN3 : NsB w.heap.size w3 v1 (l ++ [x]) := by
              unfold NsB
              rw [List.length_append, List.map_append]
              exact g1
            have HB3 := Lib.hid hB3
            have HN3 := Lib.hid hN3
            clear g1 g2 g3 hB3 hN3 hown
            go_wp2_with fail
            go_roundw
            case rel => exact ⟨i + 1, l ++ [x], by omega, rfl, HN3.out, by rw [List.nodup_append]; exact ⟨HM.out.1, by simp, fun a ha b hb e => HXL.out (by simp at hb; rw [← hb, ← e]; exact ha)⟩, by simp; omega, fun s hs => by
              rcases List.mem_append.1 hs with h | h
              · exact HM.out.2 s h
              · simp at h; exact ⟨i, hin, h.trans HX.out.symm⟩, HB3.out⟩
            case measure => simp [intOf]; omega
    · have ti : ¬ (i : Int) < (n : Int) := by omega
      have HN := Lib.hid hN
      have HB := Lib.hid hB
      have HM := Lib.hid (And.intro hnd hmem)
      clear hN hB hnd hmem
      go_wp2_with fail
      go_ret
      exact ⟨_, rfl, l, HN.out, HM.out.1, by omega, HM.out.2, HB.out⟩
end Go.Proofs.YtjbgbijpihpkmaaGreat
namespace Go.Proofs.YtjbgbijpihpkmaaGreat
open Go.RowKit Go.WideShapes

/-- A family whose names are the first mo of l; a and c are what the meter has counted. -/
def Sf (z : Nat → Option Obj) (W1 : World) (g f : Nat) (l : List ByteArray) (mo : Nat) (a c : Int) (c0 : Nat) (W : World) : Prop :=
  ∃ F XF, FamX W f F (.pointer (some ⟨g, 0, none⟩)) XF ∧ Frs l F mo ∧ F.Ok hsT c0 ∧ (∀ k, XF k → W1.heap.size ≤ k) ∧ me4 g a 0 c 0 W ∧ a = (F.kt.made : Int) ∧ 0 ≤ c ∧ c ≤ (c0 : Int) ∧ (∀ k o, z k = some o → W.heap[k]? = some o ∧ k ≠ g ∧ ¬ XF k) ∧ Ex (fun k => k = g) W1 W
/-- And a namespace that has the first k of them. -/
def Sn (z : Nat → Option Obj) (W1 : World) (g f s : Nat) (l : List ByteArray) (mo k : Nat) (a c : Int) (c0 : Nat) (W : World) : Prop :=
  ∃ F XF XS vs v, Fs W f F (.pointer (some ⟨g, 0, none⟩)) XF s (.row vs) v XS ∧ Frs l F mo ∧ F.Ok hsT c0 ∧ vs.length = k ∧ k ≤ mo ∧ v ≤ c0 ∧ (∀ k, XF k → W1.heap.size ≤ k) ∧ (∀ k, XS k → W1.heap.size ≤ k) ∧ me4 g a 0 c 0 W ∧ a = (F.kt.made : Int) ∧ 0 ≤ c ∧ c ≤ (c0 : Int) ∧ (∀ k o, z k = some o → W.heap[k]? = some o ∧ k ≠ g ∧ ¬ XF k ∧ ¬ XS k) ∧ Ex (fun k => k = g) W1 W
theorem Sf.ex {z : Nat → Option Obj} {W1 : World} {g f : Nat} {l : List ByteArray} {mo : Nat} {a c : Int} {c0 : Nat} {W : World} (h : Sf z W1 g f l mo a c c0 W) : Ex (fun k => k = g) W1 W := by
  obtain ⟨F, XF, h⟩ := h
  exact h.2.2.2.2.2.2.2.2.2
theorem Sn.ex {z : Nat → Option Obj} {W1 : World} {g f s : Nat} {l : List ByteArray} {mo k : Nat} {a c : Int} {c0 : Nat} {W : World} (h : Sn z W1 g f s l mo k a c c0 W) : Ex (fun k => k = g) W1 W := by
  obtain ⟨F, XF, XS, vs, v, h⟩ := h
  exact h.2.2.2.2.2.2.2.2.2.2.2.2.2
theorem Sn.drop {z : Nat → Option Obj} {W1 : World} {g f s : Nat} {l : List ByteArray} {mo k : Nat} {a c : Int} {c0 : Nat} {W : World} (h : Sn z W1 g f s l mo k a c c0 W) : Sf z W1 g f l mo a c c0 W := by
  obtain ⟨F, XF, XS, vs, v, h1, h2, h3, h4, h5, h6, h7, h8, h9, h10, h11, h12, hz, h13⟩ := h
  exact ⟨F, XF, h1.fm, h2, h3, h7, h9, h10, h11, h12, fun k o ho => ⟨(hz k o ho).1, (hz k o ho).2.1, (hz k o ho).2.2.1⟩, h13⟩
theorem Sf.more {z : Nat → Option Obj} {W1 : World} {g f : Nat} {l : List ByteArray} {mo : Nat} {a c : Int} {c0 c1 : Nat} {W : World} (h : Sf z W1 g f l mo a c c0 W) (hc : c0 ≤ c1) : Sf z W1 g f l mo a c c1 W := by
  obtain ⟨F, XF, h1, h2, h3, h4, h5, h6, h7, h8, hz, h9⟩ := h
  exact ⟨F, XF, h1, h2, h3.le hc, h4, h5, h6, h7, by omega, hz, h9⟩
theorem Sf.below {z : Nat → Option Obj} {W1 : World} {g f : Nat} {l : List ByteArray} {mo : Nat} {a c : Int} {c0 : Nat} {W W' : World} (h : Sf z W1 g f l mo a c c0 W) (hb : Below W.heap.size W W') : Sf z W1 g f l mo a c c0 W' := by
  obtain ⟨F, XF, h1, h2, h3, h4, ⟨b, h5⟩, h6, h7, h8, hz, h9⟩ := h
  exact ⟨F, XF, h1.same (fun k hk => hb.block k (h1.lt k hk)), h2, h3, h4, ⟨b, h5.below hb⟩, h6, h7, h8, fun k o ho => ⟨(hb.block k (Array.getElem?_eq_some_iff.1 (hz k o ho).1).1).trans (hz k o ho).1, (hz k o ho).2⟩, h9.trans (ex_of hb)⟩
theorem Sn.below {z : Nat → Option Obj} {W1 : World} {g f s : Nat} {l : List ByteArray} {mo k : Nat} {a c : Int} {c0 : Nat} {W W' : World} (h : Sn z W1 g f s l mo k a c c0 W) (hb : Below W.heap.size W W') : Sn z W1 g f s l mo k a c c0 W' := by
  obtain ⟨F, XF, XS, vs, v, h1, h2, h3, h4, h5, h6, h7, h8, ⟨b, h9⟩, h10, h11, h12, hz, h13⟩ := h
  exact ⟨F, XF, XS, vs, v, ⟨h1.fm.same (fun k hk => hb.block k (h1.fm.lt k hk)), h1.sm.same (fun k hk => hb.block k (h1.sm.lt k hk)), h1.ap, h1.mq⟩, h2, h3, h4, h5, h6, h7, h8, ⟨b, h9.below hb⟩, h10, h11, h12, fun k o ho => ⟨(hb.block k (Array.getElem?_eq_some_iff.1 (hz k o ho).1).1).trans (hz k o ho).1, (hz k o ho).2⟩, h13.trans (ex_of hb)⟩
theorem Sf.make {z : Nat → Option Obj} {W1 : World} {g f : Nat} {l : List ByteArray} {mo : Nat} {a c : Int} {c0 : Nat} {W : World} (h : Sf z W1 g f l mo a c c0 W) :
    Calls Tryz.prog 10 #[.pointer (some ⟨f, 0, none⟩)] W fun e w' => ∃ s, e = .returned (.pointer (some ⟨s, 0, none⟩)) ∧ Sn z W1 g f s l mo 0 a c c0 w' := by
  obtain ⟨F, XF, h1, h2, h3, h4, ⟨b, h5⟩, h6, h7, h8, hz, h9⟩ := h
  refine (make_any h1 (fun k hk => by rw [meB hk]; exact h5.lt)).mono ?_
  rintro e w' ⟨s, XS, rfl, hS, hX, hb⟩
  exact ⟨s, rfl, F, XF, XS, [], 0, hS, h2, h3, rfl, Nat.zero_le _, Nat.zero_le _, h4, fun k hk => Nat.le_trans h9.size (hX k hk), ⟨b, h5.below hb⟩, h6, h7, h8, fun k o ho => ⟨(hb.block k (Array.getElem?_eq_some_iff.1 (hz k o ho).1).1).trans (hz k o ho).1, (hz k o ho).2.1, (hz k o ho).2.2, fun hx => by have := hX k hx; have := (Array.getElem?_eq_some_iff.1 (hz k o ho).1).1; omega⟩, h9.trans (ex_of hb)⟩
theorem sn_ex {W1 : World} {g : Nat} {W W' : World} {XF XS : Nat → Prop} (h : Ex (fun k => k = g) W1 W) (hF : ∀ k, XF k → W1.heap.size ≤ k) (hS : ∀ k, XS k → W1.heap.size ≤ k) (e : Ex (fun k => XF k ∨ XS k ∨ mB (.pointer (some ⟨g, 0, none⟩)) k) W W') : Ex (fun k => k = g) W1 W' :=
  h.next e (fun k hk hx => by
    rcases hx with y | y | y
    · have := hF k y; omega
    · have := hS k y; omega
    · exact meB y)
theorem sn_z {g k : Nat} {o : Obj} {W W' : World} {XF XS XF' XS' : Nat → Prop} (h : W.heap[k]? = some o ∧ k ≠ g ∧ ¬ XF k ∧ ¬ XS k) (e : Ex (fun k => XF k ∨ XS k ∨ mB (.pointer (some ⟨g, 0, none⟩)) k) W W') (hf : ∀ k, XF' k → XF k ∨ W.heap.size ≤ k) (hs : ∀ k, XS' k → XS k ∨ W.heap.size ≤ k) : W'.heap[k]? = some o ∧ k ≠ g ∧ ¬ XF' k ∧ ¬ XS' k := by
  obtain ⟨h1, h2, h3, h4⟩ := h
  have hl := (Array.getElem?_eq_some_iff.1 h1).1
  refine ⟨(e.block k hl (fun hx => ?_)).trans h1, h2, fun hx => ?_, fun hx => ?_⟩
  · rcases hx with y | y | y
    · exact h3 y
    · exact h4 y
    · exact h2 (meB y)
  · rcases hf k hx with y | y
    · exact h3 y
    · omega
  · rcases hs k hx with y | y
    · exact h4 y
    · omega
/-- The next name. -/
theorem Sn.set {z : Nat → Option Obj} {W1 : World} {g f s : Nat} {l : List ByteArray} {mo k : Nat} {a c : Int} {c0 : Nat} {W : World} (h : Sn z W1 g f s l mo k a c c0 W) (nd : l.Nodup) (hll : l.length ≤ 60) {nm : ByteArray} (hk : l[k]? = some nm) (hnm : nm.size ≤ 200) (hc0 : c0 ≤ 40000) (x : Int) :
    Calls Tryz.prog 13 #[.pointer (some ⟨s, 0, none⟩), .string nm, .int .i64 x] W fun e w' => e = .returned (.int .i64 0) ∧ ∃ a', Sn z W1 g f s l (max mo (k + 1)) (k + 1) a' (c + 1) (c0 + 1) w' ∧ (k < mo → a' = a) := by
  obtain ⟨F, XF, XS, vs, v, h1, h2, h3, rfl, h5, h6, h7, h8, h9, h10, h11, h12, hz, h13⟩ := h
  have hmd := h3.made
  refine (set_any h1 (m4_me g) h9 (by omega) (by omega) (by omega) (by omega) h3 (by show vs.length ≤ _; rw [h2.es]; exact h5) (by omega) (by omega) (nm := nm) (by omega) x).mono ?_
  rintro e w' ⟨er, rfl, F', st', dc, dd, hset, kk, res, jj, _, _, XF', XS', R⟩
  obtain ⟨o1, o2, o3⟩ := setR_ok hset h3 (by show vs.length ≤ _; rw [h2.es]; exact h5) (by omega) (by omega)
  obtain ⟨rfl, rfl, rfl, rfl, hf, hsame⟩ := h2.set h3 nd hll h5 hk hset
  have hsz := h13.size
  obtain ⟨b', hn⟩ := R.n
  refine ⟨rfl, (F'.kt.made : Int), ⟨F', XF', XS', vs ++ [x], _, R.fs, hf, o1, by simp, by omega, by simp; omega, fun k hk => ?_, fun k hk => ?_, ⟨b', ?_⟩, rfl, by omega, by omega, fun k o ho => sn_z (hz k o ho) R.ex R.hf R.hs, sn_ex h13 h7 h8 R.ex⟩, fun z => by rw [hsame z]; exact h10.symm⟩
  · rcases R.hf k hk with y | y
    · exact h7 k y
    · omega
  · rcases R.hs k hk with y | y
    · exact h8 k y
    · omega
  · have e1 : a + (F'.kt.made : Int) - (F.kt.made : Int) + (mdS (.row (vs ++ [x])) : Int) - (mdS (.row vs) : Int) = (F'.kt.made : Int) := by
      show a + (F'.kt.made : Int) - (F.kt.made : Int) + ((0 : Nat) : Int) - ((0 : Nat) : Int) = _
      omega
    rw [e1] at hn
    simpa using hn
/-- A name that it has. -/
theorem Sn.put {z : Nat → Option Obj} {W1 : World} {g f s : Nat} {l : List ByteArray} {mo k : Nat} {a c : Int} {c0 : Nat} {W : World} (h : Sn z W1 g f s l mo k a c c0 W) (hll : l.length ≤ 60) {nm : ByteArray} {p : Nat} (hp : p < k) (hk : l[p]? = some nm) (hnm : nm.size ≤ 200) (hc0 : c0 ≤ 40000) (x : Int) :
    Calls Tryz.prog 13 #[.pointer (some ⟨s, 0, none⟩), .string nm, .int .i64 x] W fun e w' => e = .returned (.int .i64 0) ∧ Sn z W1 g f s l mo k a c (c0 + 1) w' := by
  obtain ⟨F, XF, XS, vs, v, h1, h2, h3, rfl, h5, h6, h7, h8, h9, h10, h11, h12, hz, h13⟩ := h
  have hmd := h3.made
  refine (set_any h1 (m4_me g) h9 (by omega) (by omega) (by omega) (by omega) h3 (by show vs.length ≤ _; rw [h2.es]; exact h5) (by omega) (by omega) (nm := nm) (by omega) x).mono ?_
  rintro e w' ⟨er, rfl, F', st', dc, dd, hset, kk, res, jj, _, _, XF', XS', R⟩
  obtain ⟨o1, o2, o3⟩ := setR_ok hset h3 (by show vs.length ≤ _; rw [h2.es]; exact h5) (by omega) (by omega)
  obtain ⟨rfl, rfl, rfl, rfl, rfl⟩ := h2.put h3 hll h5 hp hk hset
  have hsz := h13.size
  obtain ⟨b', hn⟩ := R.n
  refine ⟨rfl, F', XF', XS', vs.set p x, _, R.fs, h2, o1, by simp, h5, by simp; omega, fun k hk => ?_, fun k hk => ?_, ⟨b', ?_⟩, h10, h11, by omega, fun k o ho => sn_z (hz k o ho) R.ex R.hf R.hs, sn_ex h13 h7 h8 R.ex⟩
  · rcases R.hf k hk with y | y
    · exact h7 k y
    · omega
  · rcases R.hs k hk with y | y
    · exact h8 k y
    · omega
  · have e1 : a + (F'.kt.made : Int) - (F'.kt.made : Int) + (mdS (.row (vs.set p x)) : Int) - (mdS (.row vs) : Int) = a := by
      show a + (F'.kt.made : Int) - (F'.kt.made : Int) + ((0 : Nat) : Int) - ((0 : Nat) : Int) = _
      omega
    rw [e1] at hn
    simpa using hn
theorem Sn.shared {z : Nat → Option Obj} {W1 : World} {g f s : Nat} {l : List ByteArray} {mo k : Nat} {a c : Int} {c0 : Nat} {W : World} (h : Sn z W1 g f s l mo k a c c0 W) :
    Calls Tryz.prog 11 #[.pointer (some ⟨s, 0, none⟩)] W fun e w' => e = .returned (.bool true) ∧ w' = W := by
  obtain ⟨F, XF, XS, vs, v, h1, _⟩ := h
  exact shared_any h1.sm
theorem Sn.len {z : Nat → Option Obj} {W1 : World} {g f s : Nat} {l : List ByteArray} {mo k : Nat} {a c : Int} {c0 : Nat} {W : World} (h : Sn z W1 g f s l mo k a c c0 W) :
    Calls Tryz.prog 18 #[.pointer (some ⟨s, 0, none⟩)] W fun e w' => e = .returned (.int .i64 (k : Int)) ∧ w' = W := by
  obtain ⟨F, XF, XS, vs, v, h1, h2, h3, rfl, _⟩ := h
  exact slen_any h1.sm
theorem Sf.names {z : Nat → Option Obj} {W1 : World} {g f : Nat} {l : List ByteArray} {mo : Nat} {a c : Int} {c0 : Nat} {W : World} (h : Sf z W1 g f l mo a c c0 W) (hll : l.length ≤ 60) :
    Calls Tryz.prog 24 #[.pointer (some ⟨f, 0, none⟩)] W fun e w' => ∃ v, e = .returned v ∧ NsB W.heap.size w' v (l.take mo) ∧ Below W.heap.size W w' := by
  obtain ⟨F, XF, ⟨g1, gi, r, h, ev, mb, nv, h1, rfl⟩, h2, h3, _⟩ := h
  have hm := h2.mol
  have := names_any h1 h3.nl h3.dead (by rw [h2.es]; omega)
  rw [h2.nms] at this
  exact this
theorem Sf.read {z : Nat → Option Obj} {W1 : World} {g f : Nat} {l : List ByteArray} {mo : Nat} {a c : Int} {c0 : Nat} {W : World} (h : Sf z W1 g f l mo a c c0 W) (hg : g < W1.heap.size) :
    Calls Tryz.prog 22 #[.pointer (some ⟨g, 0, none⟩)] W fun e w' => ∃ b, e = .returned (.agg #[.int .i64 a, .int .i64 b, .int .i64 c, .int .i64 0]) ∧ Sf z W1 g f l mo a c c0 w' := by
  obtain ⟨F, XF, h1, h2, h3, h4, ⟨b, h5⟩, h6, h7, h8, hz, h9⟩ := h
  refine (Me.read_any g a b c 0 W h5).mono ?_
  rintro e w' ⟨rfl, hb, hm⟩
  exact ⟨b, rfl, F, XF, h1.same (fun k hk => hb.block k (h1.lt k hk) (fun e => by have := h4 k hk; omega)), h2, h3, h4, ⟨b, hm⟩, h6, h7, h8, fun k o ho => ⟨(hb.block k (Array.getElem?_eq_some_iff.1 (hz k o ho).1).1 (hz k o ho).2.1).trans (hz k o ho).1, (hz k o ho).2⟩, h9.trans ((me_ex hb).mono (fun k _ hk => meB hk))⟩
theorem Sn.read {z : Nat → Option Obj} {W1 : World} {g f s : Nat} {l : List ByteArray} {mo k : Nat} {a c : Int} {c0 : Nat} {W : World} (h : Sn z W1 g f s l mo k a c c0 W) (hg : g < W1.heap.size) :
    Calls Tryz.prog 22 #[.pointer (some ⟨g, 0, none⟩)] W fun e w' => ∃ b, e = .returned (.agg #[.int .i64 a, .int .i64 b, .int .i64 c, .int .i64 0]) ∧ Sn z W1 g f s l mo k a c c0 w' := by
  obtain ⟨F, XF, XS, vs, v, h1, h2, h3, h4, h5, h6, h7, h8, ⟨b, h9⟩, h10, h11, h12, hz, h13⟩ := h
  refine (Me.read_any g a b c 0 W h9).mono ?_
  rintro e w' ⟨rfl, hb, hm⟩
  exact ⟨b, rfl, F, XF, XS, vs, v, ⟨h1.fm.same (fun k hk => hb.block k (h1.fm.lt k hk) (fun e => by have := h7 k hk; omega)), h1.sm.same (fun k hk => hb.block k (h1.sm.lt k hk) (fun e => by have := h8 k hk; omega)), h1.ap, h1.mq⟩, h2, h3, h4, h5, h6, h7, h8, ⟨b, hm⟩, h10, h11, h12, fun k o ho => ⟨(hb.block k (Array.getElem?_eq_some_iff.1 (hz k o ho).1).1 (hz k o ho).2.1).trans (hz k o ho).1, (hz k o ho).2⟩, h13.trans ((me_ex hb).mono (fun k _ hk => meB hk))⟩
/-- A block of one's own, laid beside. -/
theorem Sf.lay {W1 : World} {g f : Nat} {l : List ByteArray} {mo : Nat} {a c : Int} {c0 : Nat} {W : World} (h : Sf (fun _ => none) W1 g f l mo a c c0 W) (hg : g < W1.heap.size) (o : Obj) : Sf (fun k => if k = W.heap.size then some o else none) W1 g f l mo a c c0 (W.alloc o) := by
  have hb : Below W.heap.size W (W.alloc o) := (Below.refl _ W).alloc (Nat.le_refl _) _
  obtain ⟨F, XF, h1, h2, h3, h4, ⟨b, h5⟩, h6, h7, h8, hz, h9⟩ := h
  have hsz := h9.size
  refine ⟨F, XF, h1.same (fun k hk => hb.block k (h1.lt k hk)), h2, h3, h4, ⟨b, h5.below hb⟩, h6, h7, h8, fun k o' ho => ?_, h9.trans (ex_of hb)⟩
  by_cases e : k = W.heap.size
  · subst e
    simp at ho
    subst ho
    exact ⟨World.alloc_heap_new W o, by omega, fun hx => by have := h1.lt _ hx; omega⟩
  · simp [e] at ho
theorem Sn.more {z : Nat → Option Obj} {W1 : World} {g f s : Nat} {l : List ByteArray} {mo k : Nat} {a c : Int} {c0 c1 : Nat} {W : World} (h : Sn z W1 g f s l mo k a c c0 W) (hc : c0 ≤ c1) : Sn z W1 g f s l mo k a c c1 W := by
  obtain ⟨F, XF, XS, vs, v, h1, h2, h3, h4, h5, h6, h7, h8, h9, h10, h11, h12, hz, h13⟩ := h
  exact ⟨F, XF, XS, vs, v, h1, h2, h3.le hc, h4, h5, by omega, h7, h8, h9, h10, h11, by omega, hz, h13⟩
end Go.Proofs.YtjbgbijpihpkmaaGreat
namespace Go.Proofs.YtjbgbijpihpkmaaGreat
open Go.RowKit Go.WideShapes

theorem Ex.kp {W1 W : World} {g b o : Nat} {v : Value} (h : Ex (fun k => k = g) W1 W) (hg : b ≠ g) (hc : W1.cell? ⟨b, o, none⟩ = some v) : W.cell? ⟨b, o, none⟩ = some v := (World.cell?_of_block (a := ⟨b, o, none⟩) (h.block b (lt_of_cell hc) hg)).trans hc
theorem rem_int (x : Int) (k p : Nat) (hk : 0 < k) (hp : Int.tmod x (k : Int) = (p : Int)) (w : World) : (binOp .rem 3 (.int .i64 x) (.int .i64 (k : Int))).run Tryz.prog w = .ok (.int .i64 (p : Int)) w := by
  simp [binOp, go_sem, hp]
  omega
theorem Sf.mol {z : Nat → Option Obj} {W1 : World} {g f : Nat} {l : List ByteArray} {mo : Nat} {a c : Int} {c0 : Nat} {W : World} (h : Sf z W1 g f l mo a c c0 W) : mo ≤ l.length := by
  obtain ⟨F, XF, _, h2, _⟩ := h
  exact h2.mol
theorem cell_of {w : World} {b o : Nat} {cs : Array Value} {t : TypeId} {v : Value} (h : w.heap[b]? = some (.cells cs t)) (hv : cs[o]? = some v) : w.cell? ⟨b, o, none⟩ = some v := by
  simp [World.cell?, h, hv]
theorem Sf.cb {z : Nat → Option Obj} {W1 : World} {g f : Nat} {l : List ByteArray} {mo : Nat} {a c : Int} {c0 : Nat} {W : World} (h : Sf z W1 g f l mo a c c0 W) : 0 ≤ c ∧ c ≤ (c0 : Int) := by
  obtain ⟨F, XF, _, _, _, _, _, _, h7, h8, _⟩ := h
  exact ⟨h7, h8⟩
theorem Sn.z {z : Nat → Option Obj} {W1 : World} {g f s : Nat} {l : List ByteArray} {mo k : Nat} {a c : Int} {c0 : Nat} {W : World} (h : Sn z W1 g f s l mo k a c c0 W) {b : Nat} {o : Obj} (hz : z b = some o) : W.heap[b]? = some o := by
  obtain ⟨F, XF, XS, vs, v, h⟩ := h
  exact (h.2.2.2.2.2.2.2.2.2.2.2.2.1 b o hz).1
set_option maxRecDepth 100000 in
set_option maxHeartbeats 8000000 in
theorem sfresh_walk (a : Option Addr) (n c : Nat) (G : Nat → ByteArray) (ca : Option Addr) (cn cc : Nat) (cl : List Int) (ga : Option Addr) (gn gc : Nat) (gl : List Int) (nn : Int) (w : World) (hS : Strs w a n c G) (hC : SlI w ca cn cc cl) (hA : SlI w ga gn gc gl) :
    Calls Tryz.prog 4 #[.slice a n c, .slice ca cn cc, .slice ga gn gc, .int .i64 nn] w fun e w' => e = .returned (.bool true) ∧ Below w.heap.size w w' := by
  by_cases hsz : n ≤ 60 ∧ cn ≤ 20 ∧ gn ≤ 60
  case neg =>
    have CA := awake10_any w
    clear hS hC hA
    by_cases q0 : (60 : Int) < (n : Int)
    · go_enter Tryz.func4, Tryz.ntmps4
      go_wp2_with fail
      refine CA.mono ?_
      rintro e wz ⟨rfl, hBz⟩
      clear CA
      go_wp2
      go_ret
      exact ⟨rfl, hBz⟩
    by_cases q1 : (20 : Int) < (cn : Int)
    · go_enter Tryz.func4, Tryz.ntmps4
      go_wp2_with fail
      refine CA.mono ?_
      rintro e wz ⟨rfl, hBz⟩
      clear CA
      go_wp2
      go_ret
      exact ⟨rfl, hBz⟩
    have q2 : (60 : Int) < (gn : Int) := by omega
    go_enter Tryz.func4, Tryz.ntmps4
    go_wp2_with fail
    refine CA.mono ?_
    rintro e wz ⟨rfl, hBz⟩
    clear CA
    go_wp2
    go_ret
    exact ⟨rfl, hBz⟩
  case pos =>
    obtain ⟨hn, hcn, hgn⟩ := hsz
    have q0 : ¬ (60 : Int) < (n : Int) := by omega
    have q1 : ¬ (20 : Int) < (cn : Int) := by omega
    have q2 : ¬ (60 : Int) < (gn : Int) := by omega
    have CU := unlike_any hS hn
    obtain ⟨hcap, b, off, hab, hG⟩ := hS
    obtain ⟨b1, o1, hab1, -, -, hG1⟩ := hC.open
    obtain ⟨b2, o2, hab2, -, -, hG2⟩ := hA.open
    have HG := Lib.hid hG
    have HAB := Lib.hid hab
    have HG1 := Lib.hid hG1
    have HAB1 := Lib.hid hab1
    have HG2 := Lib.hid hG2
    have HAB2 := Lib.hid hab2
    have HCU := Lib.hid CU
    clear hG hab hC hA hab1 hG1 hab2 hG2 CU
    go_enter Tryz.func4, Tryz.ntmps4
    go_wp2_with fail
    go_loopw [9] (fun iv wr => ∃ i : Nat, i ≤ n ∧ iv = .int .i64 (i : Int) ∧ (∀ j, j < i → (G j).size ≤ 200) ∧ w = wr) (fun iv _ => n - (intOf iv).toNat)
    case atStart => exact ⟨0, Nat.zero_le _, rfl, fun j hj => absurd hj (by omega), rfl⟩
    case round =>
      obtain ⟨i, hi, rfl, hshort, hwr⟩ := hrel
      subst hwr
      by_cases hin : i < n
      · have ti : (i : Int) < (n : Int) := by omega
        have ti0 : (0 : Int) ≤ (i : Int) := by omega
        have e5 : IntKind.i64.wrap ((i : Int) + 1) = ((i + 1 : Nat) : Int) := by rw [i64_small (by omega) (by omega)]; omega
        obtain ⟨rfl, hbl⟩ := HAB.out (by omega)
        have g0 := HG.out i hin
        by_cases hw : (G i).size ≤ 200
        · have tw : ¬ (200 : Int) < ((G i).size : Int) := by omega
          go_wp2_with fail
          go_roundw
          case rel => exact ⟨i + 1, by omega, rfl, fun j hj => by
            rcases Nat.lt_or_ge j i with y | y
            · exact hshort j y
            · rw [show j = i by omega]; exact hw, by first | rfl | trivial⟩
          case measure => simp [intOf]; omega
        · have tw : (200 : Int) < ((G i).size : Int) := by omega
          have CA := awake10_any w
          go_wp2_with fail
          refine CA.mono ?_
          rintro e wz ⟨rfl, hBz⟩
          clear CA
          go_wp2
          go_ret
          exact ⟨rfl, hBz⟩
      · obtain rfl : i = n := by omega
        have ti : ¬ (i : Int) < (i : Int) := by omega
        have CU := HCU.out
        clear HCU
        go_wp2_with fail
        refine CU.mono ?_
        rintro e wu ⟨v, l, rfl, hN, hnd, hll, hmem, hBu⟩
        clear CU
        have hl60 : l.length ≤ 60 := by omega
        have hsh : ∀ s ∈ l, s.size ≤ 200 := fun s hs => by
          obtain ⟨j, hj, rfl⟩ := hmem s hs
          exact hshort j hj
        obtain ⟨la, lc, rfl, hlc, hRd⟩ : ∃ la lc, v = .slice la l.length lc ∧ l.length ≤ lc ∧ RdS wu la l := by
          obtain ⟨a3, c3, rfl, h3⟩ := hN.rd
          rcases hN.2 with ⟨h4, h5⟩ | ⟨g4, c4, u4, e4, _, _, h6, _⟩
          · exact ⟨a3, c3, rfl, by rw [h5]; exact Nat.zero_le _, h3⟩
          · injection e4 with _ _ e5
            subst e5
            exact ⟨a3, c3, rfl, h6, h3⟩
        obtain ⟨gN, oN, hla, hlcells⟩ := hRd
        obtain ⟨W1, hW1⟩ : ∃ y, wu.alloc (.cells #[.int .i32 0, .int .u32 0, .int .u32 0, .int .u32 0, .int .i32 0, .int .i32 0, .int .i64 0, .int .i64 0, .int .i64 0, .int .i64 0] 70) = y := ⟨_, rfl⟩
        have hMt : Me.Mt W1 wu.heap.size 0 0 0 0 := by rw [← hW1]; exact Me.Mt.new wu _
        have hb1 : Below wu.heap.size wu W1 := by rw [← hW1]; exact (Below.refl _ wu).alloc (Nat.le_refl _) _
        have hs1 : W1.heap.size = wu.heap.size + 1 := by rw [← hW1]; simp
        have hBw := hBu.trans (hb1.mono hBu.size)
        have CN := shnew_any (w := W1) (m4_me wu.heap.size) (a := 0) (b := 0) (c := 0) (d := 0) ⟨0, hMt⟩ (by omega) l.length 1000 (by omega) (by omega)
        have HK0 : Hid (∀ W, Ex (fun k => k = wu.heap.size) W1 W → ∀ b o v, b < w.heap.size → w.cell? ⟨b, o, none⟩ = some v → W.cell? ⟨b, o, none⟩ = some v) := fun W hW b o v hb hc => hW.kp (by have := hBu.size; omega) ((hBw.cell (p := ⟨b, o, none⟩) hb).trans hc)
        have HKL : Hid (∀ W, Ex (fun k => k = wu.heap.size) W1 W → ∀ k nm, l[k]? = some nm → la = some ⟨gN, oN, none⟩ ∧ W.cell? ⟨gN, oN + k, none⟩ = some (.string nm)) := fun W hW k nm hk => by
          have hkl := (List.getElem?_eq_some_iff.1 hk).1
          have hc := hlcells k hkl
          rw [hk] at hc
          simp only [Option.getD_some] at hc
          have hgl := lt_of_cell hc
          exact ⟨hla (by omega), hW.kp (by omega) ((hb1.cell (p := ⟨gN, oN + k, none⟩) hgl).trans hc)⟩
        have HRN : Hid (∀ W mo, Ex (fun k => k = wu.heap.size) W1 W → mo ≤ l.length → RdS W la (l.take mo)) := fun W mo hW hmo => by
          refine ⟨gN, oN, fun h => hla (by simp at h; omega), fun j hj => ?_⟩
          have hj2 : j < mo := by simp at hj; omega
          rw [List.getElem?_take_of_lt hj2]
          have hc := hlcells j (by omega)
          have hgl := lt_of_cell hc
          exact hW.kp (by omega) ((hb1.cell (p := ⟨gN, oN + j, none⟩) hgl).trans hc)
        have HSH := Lib.hid (And.intro hnd hsh)
        have HBW := Lib.hid hBw
        have HS1 := Lib.hid hs1
        have HBU := Lib.hid hBu
        have hW1' := Lib.hid hW1
        clear hN hnd hmem hsh hMt hb1 hs1 hBw hla hlcells hW1 hBu hshort
        go_wp2_with fail
        rw [hW1'.out]
        refine CN.mono ?_
        rintro e w2 ⟨f, XF, rfl, hF2, hX2, hN2, hx2⟩
        clear CN hW1'
        have hSF : Sf (fun _ => none) W1 wu.heap.size f l 0 1 0 0 w2 := ⟨_, XF, hF2, Frs.new l, fa_new hsT (by omega) (by omega), hX2, hN2, rfl, by omega, by omega, (fun k o h => by cases h), hx2.mono (fun k _ hk => meB hk)⟩
        have h1 := eqFa f
        have HSF := Lib.hid hSF
        clear hF2 hX2 hN2 hx2 hSF
        go_wp2_with fail
        clear h1
        generalize hgm : wu.heap.size = g at *
        go_loopw [14, 15, 16, 17] (fun mv iv _ _ wr => ∃ (i mo : Nat) (ta tc : Int), i ≤ cn ∧ iv = .int .i64 (i : Int) ∧ mv = .int .i64 (mo : Int) ∧ Sf (fun _ => none) W1 g f l mo ta tc (120 * i) wr) (fun _ iv _ _ _ => cn - (intOf iv).toNat)
        case atStart => exact ⟨0, 0, 1, 0, Nat.zero_le _, rfl, rfl, HSF.out⟩
        case round =>
          clear HSF
          obtain ⟨wi, hwi⟩ : ∃ y, y = wr := ⟨_, rfl⟩
          subst hwi
          obtain ⟨i, mo, ta, tc, hi, rfl, rfl, hSf⟩ := hrel
          by_cases hin : i < cn
          · have ti : (i : Int) < (cn : Int) := by omega
            have ti0 : (0 : Int) ≤ (i : Int) := by omega
            have e5 : IntKind.i64.wrap ((i : Int) + 1) = ((i + 1 : Nat) : Int) := by rw [i64_small (by omega) (by omega)]; omega
            obtain ⟨rfl, hb1l⟩ := HAB1.out (by omega)
            have gc1 := HG1.out i hin
            obtain ⟨ci, hci⟩ : ∃ ci, cl[i]?.getD 0 = ci := ⟨_, rfl⟩
            rw [hci] at gc1
            have HGC := Lib.hid gc1
            have CM := hSf.make
            clear hSf gc1 hci
            go_wp2_with fail
            refine CM.mono ?_
            rintro e w3 ⟨s, rfl, hSn⟩
            clear CM
            have h1 := eqSp s
            have HSn := Lib.hid hSn
            clear hSn
            go_wp2_with fail
            clear h1
            go_loopw [14, 17] (fun mv kv wr => ∃ (k mo : Nat) (ta tc : Int), k ≤ l.length ∧ kv = .int .i64 (k : Int) ∧ mv = .int .i64 (mo : Int) ∧ Sn (fun _ => none) W1 g f s l mo k ta tc (120 * i + 2 * k) wr) (fun _ kv _ => l.length - (intOf kv).toNat)
            case atStart => exact ⟨0, mo, ta, tc, Nat.zero_le _, rfl, rfl, HSn.out⟩
            case round =>
              clear HSn
              obtain ⟨wk, hwk⟩ : ∃ y, y = wr := ⟨_, rfl⟩
              subst hwk
              obtain ⟨k, mo2, ta2, tc2, hk, rfl, rfl, hSn⟩ := hrel
              have c1 := HK0.out wk hSn.ex b1 (o1 + i) _ hb1l HGC.out
              have tk0 : (0 : Int) ≤ (k : Int) := by omega
              by_cases hkc : (k : Int) < ci ∧ k < l.length
              · obtain ⟨hkc1, hkl⟩ := hkc
                have tk : (k : Int) < (l.length : Int) := by omega
                obtain ⟨k1, hk1⟩ : ∃ k1, k + 1 = k1 := ⟨_, rfl⟩
                have e6 : IntKind.i64.wrap ((k : Int) + 1) = (k1 : Int) := by rw [i64_small (by omega) (by omega)]; omega
                obtain ⟨nm, hnm⟩ : ∃ nm, l[k]? = some nm := ⟨_, List.getElem?_eq_getElem hkl⟩
                obtain ⟨hla, cnm⟩ := HKL.out wk hSn.ex k nm hnm
                have CS := hSn.set HSH.out.1 hl60 hnm (HSH.out.2 nm (List.mem_of_getElem? hnm)) (by omega) (i : Int)
                rw [hk1] at CS
                have hla' := Lib.hid hla
                clear hSn hnm
                subst hla
                go_wp2_with fail
                refine CS.mono ?_
                rintro e w4 ⟨rfl, ta3, hSn4, -⟩
                have HSn4 := Lib.hid hSn4
                clear CS hSn4 c1 cnm
                go_upto_if 102 with fail
                go_cut [14] from 77 to 130 (fun mv wd => mv = .int .i64 ((max mo2 k1 : Nat) : Int) ∧ wd = w4)
                case first =>
                  by_cases hmk : mo2 < k1
                  · have tm : (mo2 : Int) < (k1 : Int) := by omega
                    have em : max mo2 k1 = k1 := by omega
                    go_wp2_with fail
                    go_meet
                    case rel => exact ⟨by rw [em], by first | rfl | trivial⟩
                  · have tm : ¬ (mo2 : Int) < (k1 : Int) := by omega
                    have em : max mo2 k1 = mo2 := by omega
                    go_wp2_with fail
                    go_meet
                    case rel => exact ⟨by rw [em], by first | rfl | trivial⟩
                case rest =>
                  obtain ⟨rfl, hwc⟩ := hcut
                  obtain ⟨w5, hw5⟩ : ∃ y, y = wc := ⟨_, rfl⟩
                  subst hw5
                  have hSn5 : Sn (fun _ => none) W1 g f s l (max mo2 k1) k1 ta3 (tc2 + 1) (120 * i + 2 * k + 1) w5 := by rw [hwc]; exact HSn4.out
                  clear hwc HSn4
                  have hfin : ∀ V, Sn (fun _ => none) W1 g f s l (max mo2 k1) k1 ta3 (tc2 + 1) (120 * i + 2 * k + 1) V → Sn (fun _ => none) W1 g f s l (max mo2 k1) k1 ta3 (tc2 + 1) (120 * i + 2 * k1) V := fun V h => h.more (by omega)
                  have HFIN := Lib.hid hfin
                  clear hfin
                  by_cases hkg : k < gn
                  · have tg : (k : Int) < (gn : Int) := by omega
                    obtain ⟨rfl, hb2l⟩ := HAB2.out (by omega)
                    have c2 := HK0.out w5 hSn5.ex b2 (o2 + k) _ hb2l (HG2.out k hkg)
                    obtain ⟨ak, hak⟩ : ∃ ak, gl[k]?.getD 0 = ak := ⟨_, rfl⟩
                    rw [hak] at c2
                    by_cases hak0 : 0 ≤ ak
                    · have ne0 : ¬ (k1 : Int) = 0 := by omega
                      have ne1 : ¬ (k1 : Int) = -1 := by omega
                      obtain ⟨p, hp1, hp2⟩ : ∃ p : Nat, p < k1 ∧ Int.tmod ak (k1 : Int) = (p : Int) := by
                        have z1 := Int.tmod_nonneg (k1 : Int) hak0
                        have z2 := Int.tmod_lt_of_pos ak (show (0 : Int) < (k1 : Int) by omega)
                        exact ⟨(Int.tmod ak (k1 : Int)).toNat, by omega, by omega⟩
                      have tp0 : (0 : Int) ≤ (p : Int) := by omega
                      have tp : (p : Int) < (l.length : Int) := by omega
                      obtain ⟨nm2, hnm2⟩ : ∃ nm, l[p]? = some nm := ⟨_, List.getElem?_eq_getElem (by omega)⟩
                      obtain ⟨-, cnm2⟩ := HKL.out w5 hSn5.ex p nm2 hnm2
                      have CS2 := hSn5.put hl60 hp1 hnm2 (HSH.out.2 nm2 (List.mem_of_getElem? hnm2)) (by omega) 7
                      clear hSn5 hnm2 hak
                      have hrem : ∀ wx, (binOp .rem 3 (.int .i64 ak) (.int .i64 (k1 : Int))).run Tryz.prog wx = .ok (.int .i64 (p : Int)) wx := fun wx => rem_int ak k1 p (by omega) hp2 wx
                      go_wp2_with fail
                      refine CS2.mono ?_
                      rintro e w6 ⟨rfl, hSn6⟩
                      have HSn6 := Lib.hid hSn6
                      clear CS2 hSn6 c2 cnm2
                      go_wp2_with fail
                      go_roundw
                      case rel => exact ⟨k1, max mo2 k1, ta3, tc2 + 1, by omega, rfl, rfl, HSn6.out.more (by omega)⟩
                      case measure => simp [intOf]; omega
                    · have tak : ¬ 0 ≤ ak := hak0
                      have HSn5 := Lib.hid hSn5
                      clear hSn5 hak
                      go_wp2_with fail
                      go_roundw
                      case rel => exact ⟨k1, max mo2 k1, ta3, tc2 + 1, by omega, rfl, rfl, HFIN.out _ HSn5.out⟩
                      case measure => simp [intOf]; omega
                  · have tg : ¬ (k : Int) < (gn : Int) := by omega
                    have HSn5 := Lib.hid hSn5
                    clear hSn5
                    go_wp2_with fail
                    go_roundw
                    case rel => exact ⟨k1, max mo2 k1, ta3, tc2 + 1, by omega, rfl, rfl, HFIN.out _ HSn5.out⟩
                    case measure => simp [intOf]; omega
              · have CH := hSn.shared
                have HSn := Lib.hid hSn
                clear hSn
                have hend : ∀ (K : Prop), ((k : Int) < ci → (k : Int) < (l.length : Int) → K) → True := fun _ _ => trivial
                clear hend
                by_cases hk1 : (k : Int) < ci
                · have tk : ¬ (k : Int) < (l.length : Int) := by omega
                  go_wp2_with fail
                  refine CH.mono ?_
                  rintro e w6 ⟨rfl, hw6⟩
                  rw [hw6]
                  clear CH hw6 c1
                  go_wp2_with fail
                  go_roundw
                  case rel => exact ⟨i + 1, mo2, ta2, tc2, by omega, rfl, rfl, HSn.out.drop.more (by omega)⟩
                  case measure => simp [intOf]; omega
                · go_wp2_with fail
                  refine CH.mono ?_
                  rintro e w6 ⟨rfl, hw6⟩
                  rw [hw6]
                  clear CH hw6 c1
                  go_wp2_with fail
                  go_roundw
                  case rel => exact ⟨i + 1, mo2, ta2, tc2, by omega, rfl, rfl, HSn.out.drop.more (by omega)⟩
                  case measure => simp [intOf]; omega
          · have ti : ¬ (i : Int) < (cn : Int) := by omega
            have hgW : g < W1.heap.size := by have := HS1.out; omega
            have hmol := hSf.mol
            have htc := hSf.cb
            have CR := hSf.read hgW
            clear hSf
            go_wp2_with fail
            refine CR.mono ?_
            rintro e w3 ⟨tb, rfl, hSf3⟩
            clear CR
            obtain ⟨w4, hw4⟩ : ∃ y, w3.alloc (.cells #[.int .i64 ta, .int .i64 tb, .int .i64 tc, .int .i64 0] 72) = y := ⟨_, rfl⟩
            have hSf4 := hSf3.lay hgW (.cells #[.int .i64 ta, .int .i64 tb, .int .i64 tc, .int .i64 0] 72)
            rw [hw4] at hSf4
            have hb4 : Blk w4 w3.heap.size 4 (fun j => #[Value.int .i64 ta, .int .i64 tb, .int .i64 tc, .int .i64 0].getD j .nilFunc) := by rw [← hw4]; exact Blk.new w3 _ _
            have c43 : w4.cell? ⟨w3.heap.size, 3, none⟩ = some (.int .i64 0) := hb4.c 3 (by omega)
            have tmo : ((l.take mo).length) = mo := by simp; omega
            have tm0 : (0 : Int) ≤ (mo : Int) := by omega
            have tml : (mo : Int) ≤ (l.length : Int) := by omega
            have tmc : (mo : Int) ≤ (lc : Int) := by omega
            have HCN : Hid (∀ V, Below w4.heap.size w4 V → Calls Tryz.prog 24 #[.pointer (some ⟨f, 0, none⟩)] V fun e w' => ∃ a1 c1, e = .returned (.slice a1 mo c1) ∧ RdS w' a1 (l.take mo) ∧ Below V.heap.size V w') := fun V hV => by
              refine ((hSf4.below hV).names hl60).mono ?_
              rintro e w' ⟨v, rfl, h5, h6⟩
              obtain ⟨a1, c1, rfl, h7⟩ := h5.rd
              rw [tmo]
              exact ⟨a1, c1, rfl, h7, h6⟩
            have HCQ : Hid (∀ V a1 c1, Below w4.heap.size w4 V → RdS V a1 (l.take mo) → Calls Tryz.prog 23 #[.slice a1 mo c1, .slice la mo lc] V fun e w' => e = .returned (.bool true) ∧ Below V.heap.size V w') := fun V a1 c1 hV h5 => by
              have h6 := names_eq (c1 := c1) (c2 := lc) h5 (HRN.out V mo ((hSf4.below hV).ex) hmol) (by rw [tmo]; omega)
              rw [tmo] at h6
              exact h6
            have HSf4 := Lib.hid hSf4
            have HB4 := Lib.hid hb4
            have HW4 := Lib.hid hw4
            clear hSf3 hSf4 hb4 hw4 tmo
            go_upto_region 32 with fail
            rw [HW4.out]
            clear HW4
            go_cut [147] from 134 to 147 (fun cv wd => cv = .bool false ∧ Below w4.heap.size w4 wd)
            case first =>
              go_region_with (first
                | (go_at_call 24; refine (HCN.out _ (Below.refl _ _).drew).mono ?_; rintro e w5 ⟨a1, c1, rfl, h51, hb5⟩; have HB5 := Lib.hid (((Below.refl _ w4).drew).trans hb5))
                | (go_at_call 23; refine (HCQ.out _ _ _ HB5.out h51).mono ?_; rintro e w6 ⟨rfl, hb6⟩; have HB6 := Lib.hid (HB5.out.trans (hb6.mono HB5.out.size)))
                | fail)
              all_goals
                go_wp2_with fail
                go_meet
                case rel => exact ⟨rfl, HB6.out⟩
            case rest =>
              obtain ⟨hcv, hb6⟩ := hcut
              subst hcv
              obtain ⟨w6, hw6⟩ : ∃ y, y = wc := ⟨_, rfl⟩
              subst hw6
              have CM := (HSf4.out.below hb6).make
              clear hb6 c43 HCN HCQ HRN HSf4 HB4
              obtain ⟨z, hz⟩ : ∃ z : Nat → Option Obj, (fun k => if k = w3.heap.size then some (.cells #[.int .i64 ta, .int .i64 tb, .int .i64 tc, .int .i64 0] 72) else none) = z := ⟨_, rfl⟩
              rw [hz] at CM
              have HZ : Hid (z w3.heap.size = some (.cells #[.int .i64 ta, .int .i64 tb, .int .i64 tc, .int .i64 0] 72)) := by
                show _ = _
                rw [← hz]
                simp
              clear hz
              go_wp2_with fail
              refine CM.mono ?_
              rintro e w7 ⟨s2, rfl, hSn7⟩
              clear CM
              have h1 := eqSp s2
              have HSn7 := Lib.hid hSn7
              clear hSn7
              go_wp2_with fail
              clear h1
              go_loopw [20, 21] (fun gv kv wr => ∃ k : Nat, k ≤ mo ∧ gv = .int .i64 (k : Int) ∧ kv = .int .i64 (k : Int) ∧ Sn z W1 g f s2 l mo k ta (tc + (k : Int)) (120 * i + k) wr) (fun _ kv _ => mo - (intOf kv).toNat)
              case atStart => exact ⟨0, Nat.zero_le _, rfl, rfl, by simpa using HSn7.out⟩
              case round =>
                clear HSn7
                obtain ⟨wk, hwk⟩ : ∃ y, y = wr := ⟨_, rfl⟩
                subst hwk
                obtain ⟨k, hk, rfl, rfl, hSn⟩ := hrel
                have tk0 : (0 : Int) ≤ (k : Int) := by omega
                by_cases hkc : (k : Int) < nn ∧ k < mo
                · obtain ⟨hkn, hkm⟩ := hkc
                  have tk : (k : Int) < (mo : Int) := by omega
                  have tkl : (k : Int) < (l.length : Int) := by omega
                  obtain ⟨k1, hk1⟩ : ∃ k1, k + 1 = k1 := ⟨_, rfl⟩
                  have e6 : IntKind.i64.wrap ((k : Int) + 1) = (k1 : Int) := by rw [i64_small (by omega) (by omega)]; omega
                  obtain ⟨nm, hnm⟩ : ∃ nm, l[k]? = some nm := ⟨_, List.getElem?_eq_getElem (by omega)⟩
                  obtain ⟨hla, cnm⟩ := HKL.out wk hSn.ex k nm hnm
                  have CS := hSn.set HSH.out.1 hl60 hnm (HSH.out.2 nm (List.mem_of_getElem? hnm)) (by omega) (k : Int)
                  clear hSn hnm
                  subst hla
                  go_wp2_with fail
                  refine CS.mono ?_
                  rintro e w8 ⟨rfl, ta3, hSn8, hta⟩
                  have hta3 := hta hkm
                  subst hta3
                  have hSn9 : Sn z W1 g f s2 l mo k1 ta3 (tc + (k1 : Int)) (120 * i + k1) w8 := by
                    have e1 : max mo (k + 1) = mo := by omega
                    have e2 : tc + (k : Int) + 1 = tc + (k1 : Int) := by omega
                    rw [e1, e2, hk1] at hSn8
                    exact hSn8.more (by omega)
                  have HSn9 := Lib.hid hSn9
                  clear CS hSn8 hSn9 cnm hta
                  go_wp2_with fail
                  go_roundw
                  case rel => exact ⟨k1, by omega, rfl, rfl, HSn9.out⟩
                  case measure => simp [intOf]; omega
                · have CR2 := hSn.read hgW
                  clear hSn
                  have hout : ¬ (k : Int) < nn ∨ ¬ (k : Int) < (mo : Int) := by omega
                  by_cases hk1 : (k : Int) < nn
                  · have tk : ¬ (k : Int) < (mo : Int) := by omega
                    clear hout hkc
                    go_wp2_with fail
                    refine CR2.mono ?_
                    rintro e w8 ⟨tb2, rfl, hSn8⟩
                    clear CR2
                    obtain ⟨w9, hw9⟩ : ∃ y, w8.alloc (.cells #[.int .i64 ta, .int .i64 tb2, .int .i64 (tc + (k : Int)), .int .i64 0] 72) = y := ⟨_, rfl⟩
                    have hb9 : Blk w9 w8.heap.size 4 (fun j => #[Value.int .i64 ta, .int .i64 tb2, .int .i64 (tc + (k : Int)), .int .i64 0].getD j .nilFunc) := by rw [← hw9]; exact Blk.new w8 _ _
                    have hSn9 : Sn z W1 g f s2 l mo k ta (tc + (k : Int)) (120 * i + k) w9 := by rw [← hw9]; exact hSn8.below ((Below.refl _ w8).alloc (Nat.le_refl _) _)
                    have c20 : w9.cell? ⟨w8.heap.size, 0, none⟩ = some (.int .i64 ta) := hb9.c 0 (by omega)
                    have c22 : w9.cell? ⟨w8.heap.size, 2, none⟩ = some (.int .i64 (tc + (k : Int))) := hb9.c 2 (by omega)
                    have c23 : w9.cell? ⟨w8.heap.size, 3, none⟩ = some (.int .i64 0) := hb9.c 3 (by omega)
                    have hz9 := hSn9.z HZ.out
                    have c10 : w9.cell? ⟨w3.heap.size, 0, none⟩ = some (.int .i64 ta) := cell_of hz9 rfl
                    have c12 : w9.cell? ⟨w3.heap.size, 2, none⟩ = some (.int .i64 tc) := cell_of hz9 rfl
                    have e9 : IntKind.i64.wrap (tc + (k : Int)) = tc + (k : Int) := i64_small (by omega) (by omega)
                    have CH := hSn9.shared
                    have CL := hSn9.len
                    have hBf : Below w.heap.size w w9 := HBW.out.trans (hSn9.ex.below (fun j hj => by rw [hj]; have := HBU.out.size; omega) HBW.out.size)
                    have HBF := Lib.hid hBf
                    have CA := awake10_any w9
                    have HW9 := Lib.hid hw9
                    clear hSn9 hSn8 hb9 hz9 hBf hw9
                    go_wp2_with fail
                    rw [HW9.out]
                    refine CH.mono ?_
                    rintro e wa ⟨rfl, hwa⟩
                    rw [hwa]
                    clear CH hwa
                    go_wp2_with fail
                    refine CL.mono ?_
                    rintro e wa ⟨rfl, hwa⟩
                    rw [hwa]
                    clear CL hwa
                    go_wp2_with fail
                    refine CA.mono ?_
                    rintro e wa ⟨rfl, hBa⟩
                    clear CA
                    go_wp2_with fail
                    go_ret
                    exact ⟨rfl, HBF.out.trans (hBa.mono HBF.out.size)⟩
                  · clear hout hkc
                    go_wp2_with fail
                    refine CR2.mono ?_
                    rintro e w8 ⟨tb2, rfl, hSn8⟩
                    clear CR2
                    obtain ⟨w9, hw9⟩ : ∃ y, w8.alloc (.cells #[.int .i64 ta, .int .i64 tb2, .int .i64 (tc + (k : Int)), .int .i64 0] 72) = y := ⟨_, rfl⟩
                    have hb9 : Blk w9 w8.heap.size 4 (fun j => #[Value.int .i64 ta, .int .i64 tb2, .int .i64 (tc + (k : Int)), .int .i64 0].getD j .nilFunc) := by rw [← hw9]; exact Blk.new w8 _ _
                    have hSn9 : Sn z W1 g f s2 l mo k ta (tc + (k : Int)) (120 * i + k) w9 := by rw [← hw9]; exact hSn8.below ((Below.refl _ w8).alloc (Nat.le_refl _) _)
                    have c20 : w9.cell? ⟨w8.heap.size, 0, none⟩ = some (.int .i64 ta) := hb9.c 0 (by omega)
                    have c22 : w9.cell? ⟨w8.heap.size, 2, none⟩ = some (.int .i64 (tc + (k : Int))) := hb9.c 2 (by omega)
                    have c23 : w9.cell? ⟨w8.heap.size, 3, none⟩ = some (.int .i64 0) := hb9.c 3 (by omega)
                    have hz9 := hSn9.z HZ.out
                    have c10 : w9.cell? ⟨w3.heap.size, 0, none⟩ = some (.int .i64 ta) := cell_of hz9 rfl
                    have c12 : w9.cell? ⟨w3.heap.size, 2, none⟩ = some (.int .i64 tc) := cell_of hz9 rfl
                    have e9 : IntKind.i64.wrap (tc + (k : Int)) = tc + (k : Int) := i64_small (by omega) (by omega)
                    have CH := hSn9.shared
                    have CL := hSn9.len
                    have hBf : Below w.heap.size w w9 := HBW.out.trans (hSn9.ex.below (fun j hj => by rw [hj]; have := HBU.out.size; omega) HBW.out.size)
                    have HBF := Lib.hid hBf
                    have CA := awake10_any w9
                    have HW9 := Lib.hid hw9
                    clear hSn9 hSn8 hb9 hz9 hBf hw9
                    go_wp2_with fail
                    rw [HW9.out]
                    refine CH.mono ?_
                    rintro e wa ⟨rfl, hwa⟩
                    rw [hwa]
                    clear CH hwa
                    go_wp2_with fail
                    refine CL.mono ?_
                    rintro e wa ⟨rfl, hwa⟩
                    rw [hwa]
                    clear CL hwa
                    go_wp2_with fail
                    refine CA.mono ?_
                    rintro e wa ⟨rfl, hBa⟩
                    clear CA
                    go_wp2_with fail
                    go_ret
                    exact ⟨rfl, HBF.out.trans (hBa.mono HBF.out.size)⟩
end Go.Proofs.YtjbgbijpihpkmaaGreat
