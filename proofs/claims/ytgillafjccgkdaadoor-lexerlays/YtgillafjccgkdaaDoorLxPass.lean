/-
  A reader passes over blanks and remarks.
-/
import Derived.Test.YtgillafjccgkdaaDoorLxOps
namespace Go.Proofs.YtgillafjccgkdaaDoor
open Go.RowKit Go.WideShapes
namespace Lx

theorem size_set (w : World) (a : Addr) (v : Value) : (w.setCell a v).heap.size = w.heap.size := by simp [World.setCell]
theorem lk_is {l : List UInt8} {a : Nat} (c : UInt8) : lk l a = (c.toNat : Int) ↔ a < l.length ∧ l.getD a 0 = c := by
  unfold lk
  split
  · rename_i h
    constructor
    · intro e
      exact ⟨h, UInt8.toNat_inj.1 (by omega)⟩
    · rintro ⟨-, e⟩
      rw [e]
  · rename_i h
    constructor
    · intro e
      exact absurd e (by omega)
    · rintro ⟨e, -⟩
      exact absurd e h
theorem lk_over {l : List UInt8} {a : Nat} : lk l a = -1 ↔ l.length ≤ a := by
  unfold lk
  split
  · constructor
    · intro e
      exact absurd e (by omega)
    · intro e
      exact absurd e (by omega)
  · exact ⟨fun _ => by omega, fun _ => rfl⟩
theorem drop_cons {l : List UInt8} {a : Nat} (h : a < l.length) : l.drop a = l.getD a 0 :: l.drop (a + 1) := by
  rw [List.drop_eq_getElem_cons h]
  congr 1
  rw [List.getD, List.getElem?_eq_getElem h]
  rfl
theorem rem_step {l : List UInt8} {a : Nat} (h : a < l.length) (hc : l.getD a 0 ≠ 10) : a + rem (l.drop a) = a + 1 + rem (l.drop (a + 1)) := by
  rw [drop_cons h, rem, if_neg hc]
  omega
theorem rem_none {l : List UInt8} {a : Nat} (h : l.length ≤ a ∨ l.getD a 0 = 10) : rem (l.drop a) = 0 := by
  by_cases hl : a < l.length
  · rw [drop_cons hl, rem, if_pos (by rcases h with h | h; exact absurd hl (by omega); exact h)]
  · rw [List.drop_eq_nil_of_le (by omega)]
    rfl
theorem rem_stop (l : List UInt8) : ∀ (n a : Nat), l.length - a = n → a ≤ l.length → (a + rem (l.drop a) = l.length ∨ a + rem (l.drop a) < l.length ∧ l.getD (a + rem (l.drop a)) 0 = 10)
  | 0, a, hn, ha => by
    left
    rw [rem_none (Or.inl (by omega))]
    omega
  | n + 1, a, hn, ha => by
    by_cases hc : l.getD a 0 = 10
    · right
      rw [rem_none (Or.inr hc)]
      exact ⟨by omega, hc⟩
    · rw [rem_step (by omega) hc]
      exact rem_stop l n (a + 1) (by omega) (by omega)
set_option maxRecDepth 100000 in
set_option maxHeartbeats 1000000 in
theorem passRemark_any {B : Nat} {w : World} {g : Nat} {src : ByteArray} {s : St} (hX : RdX B w g src s) (hsz : src.size ≤ 65536) (hle : s.at_ ≤ src.size) :
    Calls Tryd.prog 28 #[.pointer (some ⟨g, 0, none⟩)] w fun e w' => e = .returned (.tuple #[]) ∧ RdX B w' g src { s with at_ := s.at_ + rem (src.data.toList.drop s.at_) } ∧ Below B w w' := by
  have HX := Lib.hid hX
  have HBw : Hid (B ≤ w.heap.size) := by obtain ⟨_, _, h⟩ := hX; have := h.lo; have := h.lt; show B ≤ _; omega
  obtain ⟨bv, tv, h⟩ := hX
  have C := look_any h hle
  clear h
  go_enter Tryd.func28, Tryd.ntmps28
  go_wp2_with fail
  refine C.mono ?_
  rintro e w1 ⟨rfl, hb⟩
  clear C
  have HB1 := Lib.hid hb
  clear hb
  go_wp2_with fail
  go_loopg [2] (src.size - s.at_) (fun gk v2 wr => ∃ a, a + gk = src.size ∧ s.at_ ≤ a ∧ v2 = .int .i64 (lk src.data.toList a) ∧ a + rem (src.data.toList.drop a) = s.at_ + rem (src.data.toList.drop s.at_) ∧ RdX B wr g src { s with at_ := a } ∧ Below B w wr)
  case atStart => exact ⟨s.at_, by omega, Nat.le_refl _, rfl, rfl, HX.out.below HB1.out, HB1.out.mono HBw.out⟩
  case round =>
    obtain ⟨a, hg, ha, rfl, hr, ⟨bv, tv, h⟩, hB⟩ := hrel
    have c1 := h.c1
    have z1 := h.b.z 1
    have HH := Lib.hid h
    have HB := Lib.hid hB
    have HR := Lib.hid hr
    by_cases hst : lk src.data.toList a = -1 ∨ lk src.data.toList a = ((10 : UInt8).toNat : Int)
    · have HE : Hid (rem (src.data.toList.drop a) = 0) := by
        refine rem_none ?_
        rcases hst with e | e
        · exact Or.inl (lk_over.1 e)
        · exact Or.inr ((lk_is 10).1 e).2
      have hst2 : lk src.data.toList a = -1 ∨ lk src.data.toList a = 10 := hst
      generalize lk src.data.toList a = c at *
      clear h hB hr hst c1 z1
      rcases hst2 with rfl | rfl
      · go_wp2
        go_end0
        have := HR.out
        rw [HE.out, Nat.add_zero] at this
        rw [← this]
        exact ⟨rfl, ⟨_, _, HH.out⟩, HB.out⟩
      · go_wp2
        go_end0
        have := HR.out
        rw [HE.out, Nat.add_zero] at this
        rw [← this]
        exact ⟨rfl, ⟨_, _, HH.out⟩, HB.out⟩
    · have h1 : ¬ lk src.data.toList a = -1 := fun e => hst (Or.inl e)
      have h2 : ¬ lk src.data.toList a = 10 := fun e => hst (Or.inr e)
      have hlt : a < src.data.toList.length := by
        rcases Nat.lt_or_ge a src.data.toList.length with z | z
        · exact z
        · exact absurd (lk_over.2 z) h1
      rw [size_list] at hlt
      have HE : Hid (a + rem (src.data.toList.drop a) = a + 1 + rem (src.data.toList.drop (a + 1))) := rem_step (by rw [size_list]; exact hlt) (fun e => h2 ((lk_is 10).2 ⟨by rw [size_list]; exact hlt, e⟩))
      have C2 := look_any (h.at_ (a + 1)) (by show a + 1 ≤ src.size; omega)
      simp only at C2
      have e1 : IntKind.i64.wrap ((a : Int) + 1) = ((a + 1 : Nat) : Int) := by rw [i64_small (by omega) (by omega)]; omega
      have t1 : (lk src.data.toList a != -1) = true := by simp [h1]
      have t2 : (lk src.data.toList a != 10) = true := by simp [h2]
      generalize lk src.data.toList a = c at *
      clear h hB hr hst h1 h2
      go_wp2_with fail
      refine C2.mono ?_
      rintro e w2 ⟨rfl, hb2⟩
      clear C2
      go_wp2_with fail
      go_roundg (gk - 1)
      case measure => omega
      case rel =>
        refine ⟨a + 1, by omega, by omega, rfl, ?_, ⟨_, _, (HH.out.at_ (a + 1)).below hb2⟩, ?_⟩
        · rw [← HE.out]
          exact HR.out
        · refine (HB.out.setCell (p := ⟨g, 1, none⟩) HH.out.lo _).trans (hb2.mono ?_)
          have := HB.out.size
          have := HBw.out
          rw [size_set]
          omega
/-- From a configuration to another one. -/
def Via (l : List UInt8) (c c' : Cf) : Prop := ∀ r, Lex l c' r → Lex l c r
theorem Via.refl (l : List UInt8) (c : Cf) : Via l c c := fun _ h => h
theorem Via.step {l : List UInt8} {c c1 c2 : Cf} (h : Via l c c1) (e : stp l c1 = .inr c2) : Via l c c2 := fun r hr => h r (.more e hr)
theorem Via.trans {l : List UInt8} {c c1 c2 : Cf} (h : Via l c c1) (h' : Via l c1 c2) : Via l c c2 := fun r hr => h r (h' r hr)
/-- What is passed over, from a configuration on. -/
structure PaI (l : List UInt8) (hd : Bool) (b : Nat) (s : St) (a b' : Nat) : Prop where
  via : Via l ⟨hd, b, s⟩ ⟨hd, b', { s with at_ := a }⟩
  ge : s.at_ ≤ a
  le : a ≤ l.length
  bl : s.opn = 0 → b' = b + (a - s.at_) ∨ l.length ≤ a ∨ l.getD a 0 = 10
  stay : lk l s.at_ ≠ 35 → lk l s.at_ ≠ 32 → lk l s.at_ ≠ 10 → a = s.at_
def PaR (l : List UInt8) (hd : Bool) (b : Nat) (s : St) (B : Nat) (w : World) (g : Nat) (src : ByteArray) (w' : World) : Prop :=
  ∃ a b', PaI l hd b s a b' ∧ lk l a ≠ 35 ∧ lk l a ≠ 32 ∧ (lk l a = 10 → s.opn = 0) ∧ RdX B w' g src { s with at_ := a } ∧ Below B w w'
theorem PaI.start {l : List UInt8} (hd : Bool) (b : Nat) (s : St) (h : s.at_ ≤ l.length) : PaI l hd b s s.at_ b := ⟨Via.refl _ _, Nat.le_refl _, h, fun _ => Or.inl (by omega), fun _ _ _ => rfl⟩
theorem PaI.remark {l : List UInt8} {hd : Bool} {b : Nat} {s : St} {a b' : Nat} (h : PaI l hd b s a b') (hc : lk l a = 35) : PaI l hd b s (a + rem (l.drop a)) b' ∧ a < a + rem (l.drop a) := by
  have hc0 := hc
  obtain ⟨hl, hc⟩ := (lk_is (l := l) (a := a) 35).1 hc
  have hst := rem_stop l _ a rfl h.le
  have hlt : a < a + rem (l.drop a) := by
    rw [rem_step hl (by rw [hc]; decide)]
    omega
  refine ⟨⟨h.via.step ?_, by have := h.ge; omega, ?_, fun _ => Or.inr ?_, fun h1 h2 h3 => absurd hc0 (by rw [h.stay h1 h2 h3]; exact h1)⟩, hlt⟩
  · unfold stp
    simp only
    rw [if_neg (by omega), if_pos hc]
  · rcases hst with e | e <;> omega
  · rcases hst with e | e
    · exact Or.inl (by omega)
    · exact Or.inr e.2
theorem PaI.blank {l : List UInt8} {hd : Bool} {b : Nat} {s : St} {a b' : Nat} (h : PaI l hd b s a b') (hc : lk l a = 32) : PaI l hd b s (a + 1) (b' + 1) := by
  have hc0 := hc
  obtain ⟨hl, hc⟩ := (lk_is (l := l) (a := a) 32).1 hc
  refine ⟨h.via.step ?_, by have := h.ge; omega, by omega, fun ho => Or.inl ?_, fun h1 h2 h3 => absurd hc0 (by rw [h.stay h1 h2 h3]; exact h2)⟩
  · unfold stp
    simp only
    rw [if_neg (by omega), if_neg (by rw [hc]; decide), if_pos hc]
  · have hge := h.ge
    rcases h.bl ho with e | e | e
    · omega
    · omega
    · rw [hc] at e
      exact absurd e (by decide)
theorem PaI.end_ {l : List UInt8} {hd : Bool} {b : Nat} {s : St} {a b' : Nat} (h : PaI l hd b s a b') (hc : lk l a = 10) (ho : 0 < s.opn) : PaI l hd b s (a + 1) 0 := by
  have hc0 := hc
  obtain ⟨hl, hc⟩ := (lk_is (l := l) (a := a) 10).1 hc
  refine ⟨h.via.step ?_, by have := h.ge; omega, by omega, fun ho => by omega, fun h1 h2 h3 => absurd hc0 (by rw [h.stay h1 h2 h3]; exact h3)⟩
  unfold stp
  simp only
  rw [if_neg (by omega), if_neg (by rw [hc]; decide), if_neg (by rw [hc]; decide), if_pos hc, if_neg (by omega)]
set_option maxRecDepth 100000 in
set_option maxHeartbeats 1000000 in
theorem pass_any {B : Nat} {w : World} {g : Nat} {src : ByteArray} {s : St} (hd : Bool) (b : Nat) (hX : RdX B w g src s) (hsz : src.size ≤ 65536) (hle : s.at_ ≤ src.size) :
    Calls Tryd.prog 17 #[.pointer (some ⟨g, 0, none⟩)] w fun e w' => e = .returned (.tuple #[]) ∧ PaR src.data.toList hd b s B w g src w' := by
  have HX := Lib.hid hX
  have HBw : Hid (B ≤ w.heap.size) := by obtain ⟨_, _, h⟩ := hX; have := h.lo; have := h.lt; show B ≤ _; omega
  clear hX
  go_enter Tryd.func17, Tryd.ntmps17
  go_wp2_with fail
  go_loopg [2] (src.size - s.at_) (fun gk _ wr => ∃ a b', a + gk = src.size ∧ PaI src.data.toList hd b s a b' ∧ RdX B wr g src { s with at_ := a } ∧ Below B w wr)
  case atStart => exact ⟨s.at_, b, by omega, PaI.start _ _ _ (by rw [size_list]; exact hle), HX.out, Below.refl _ _⟩
  case round =>
    obtain ⟨a, b', hg, hI, ⟨bv, tv, h⟩, hB⟩ := hrel
    have hal : a ≤ src.size := by omega
    have C := look_any h hal
    simp only at C
    have HH := Lib.hid h
    have HB := Lib.hid hB
    have HI := Lib.hid hI
    have HBr : Hid (B ≤ wr.heap.size) := by have := HBw.out; have := hB.size; show B ≤ _; omega
    clear h hB hI
    by_cases h35 : lk src.data.toList a = 35
    · obtain ⟨hn, hlt⟩ := HI.out.remark h35
      have HN := Lib.hid hn
      have hle2 := hn.le
      rw [size_list] at hle2
      have HL := Lib.hid hle2
      have HT := Lib.hid hlt
      rw [h35] at C
      clear hn hlt hle2 h35
      go_wp2_with fail
      refine C.mono ?_
      rintro e w2 ⟨rfl, hb2⟩
      clear C
      have C2 := passRemark_any (s := { s with at_ := a }) ⟨_, _, HH.out.below hb2⟩ hsz hal
      simp only at C2
      go_wp2_with fail
      refine C2.mono ?_
      rintro e w3 ⟨rfl, h3, hb3⟩
      clear C2
      go_wp2_with fail
      go_roundg (src.size - (a + rem (src.data.toList.drop a)))
      case measure => have := HL.out; have := HT.out; omega
      case rel => exact ⟨_, b', by have := HL.out; omega, HN.out, h3, (HB.out.trans (hb2.mono HBr.out)).trans hb3⟩
    · have t35 : (lk src.data.toList a == 35) = false := beq_eq_false_iff_ne.2 h35
      by_cases h32 : lk src.data.toList a = 32
      · have hn := HI.out.blank h32
        have hle2 := hn.le
        rw [size_list] at hle2
        have HN := Lib.hid hn
        have HL := Lib.hid hle2
        have e1 : IntKind.i64.wrap ((a : Int) + 1) = ((a + 1 : Nat) : Int) := by rw [i64_small (by omega) (by omega)]; omega
        rw [h32] at C
        clear hn hle2 h32 h35 t35
        go_wp2_with fail
        refine C.mono ?_
        rintro e w2 ⟨rfl, hb2⟩
        clear C
        have HH2 := Lib.hid (HH.out.below hb2)
        have c1 := HH2.out.c1
        have z1 := HH2.out.b.z 1
        simp only at c1
        go_wp2_with fail
        go_roundg (gk - 1)
        case measure => have := HL.out; omega
        case rel => exact ⟨a + 1, b' + 1, by have := HL.out; omega, HN.out, ⟨_, _, HH2.out.at_ (a + 1)⟩, (HB.out.trans (hb2.mono HBr.out)).setCell (p := ⟨g, 1, none⟩) HH.out.lo _⟩
      · have t32 : (lk src.data.toList a == 32) = false := beq_eq_false_iff_ne.2 h32
        by_cases h10 : lk src.data.toList a = 10 ∧ 0 < s.opn
        · have hn := HI.out.end_ h10.1 h10.2
          have hle2 := hn.le
          rw [size_list] at hle2
          have HN := Lib.hid hn
          have HL := Lib.hid hle2
          have e1 : IntKind.i64.wrap ((a : Int) + 1) = ((a + 1 : Nat) : Int) := by rw [i64_small (by omega) (by omega)]; omega
          have to : (0 : Int) < (s.opn : Int) := by omega
          rw [h10.1] at C
          clear hn hle2 h32 h35 t35 t32 h10
          go_wp2_with fail
          refine C.mono ?_
          rintro e w2 ⟨rfl, hb2⟩
          clear C
          have HH2 := Lib.hid (HH.out.below hb2)
          have c1 := HH2.out.c1
          have c2 := HH2.out.c2
          have z1 := HH2.out.b.z 1
          simp only at c1 c2
          go_wp2_with fail
          go_roundg (gk - 1)
          case measure => have := HL.out; omega
          case rel => exact ⟨a + 1, 0, by have := HL.out; omega, HN.out, ⟨_, _, HH2.out.at_ (a + 1)⟩, (HB.out.trans (hb2.mono HBr.out)).setCell (p := ⟨g, 1, none⟩) HH.out.lo _⟩
        · have HS : Hid (lk src.data.toList a = 10 → s.opn = 0) := fun e => by
            rcases Nat.eq_zero_or_pos s.opn with z | z
            · exact z
            · exact absurd ⟨e, z⟩ h10
          by_cases h10 : lk src.data.toList a = 10
          · have ho := HS.out h10
            have HO := Lib.hid ho
            have H1 := Lib.hid h10
            rw [h10] at C
            clear h32 h35 t35 t32 h10 ho
            go_wp2_with fail
            refine C.mono ?_
            rintro e w2 ⟨rfl, hb2⟩
            clear C
            have HH2 := Lib.hid (HH.out.below hb2)
            have c2 := HH2.out.c2
            simp only at c2
            rw [HO.out] at c2
            go_wp2_with fail
            refine bodyPost_ret (results_none rfl _ _ _) rfl ?_
            refine ⟨rfl, a, b', HI.out, ?_, ?_, fun _ => HO.out, ⟨_, _, HH2.out⟩, HB.out.trans (hb2.mono HBr.out)⟩
            · rw [H1.out]; decide
            · rw [H1.out]; decide
          · have t10 : (lk src.data.toList a == 10) = false := beq_eq_false_iff_ne.2 h10
            have H1 := Lib.hid h35
            have H2 := Lib.hid h32
            clear h35 h32 h10
            obtain ⟨c, hc⟩ : ∃ c, lk src.data.toList a = c := ⟨_, rfl⟩
            rw [hc] at C t35 t32 t10
            have HC := Lib.hid hc
            clear hc
            go_wp2_with fail
            refine C.mono ?_
            rintro e w2 ⟨rfl, hb2⟩
            clear C
            have HH2 := Lib.hid (HH.out.below hb2)
            go_wp2_with fail
            refine bodyPost_ret (results_none rfl _ _ _) rfl ?_
            exact ⟨rfl, a, b', HI.out, H1.out, H2.out, HS.out, ⟨_, _, HH2.out⟩, HB.out.trans (hb2.mono HBr.out)⟩
end Lx
end Go.Proofs.YtgillafjccgkdaaDoor
