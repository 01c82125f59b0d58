/-
  The walk of a reader through its labels.
-/
import Derived.Test.YtgillafjccgkdaaDoorLxFr
import Derived.Test.YtgillafjccgkdaaDoorLxFin
import Derived.Test.YtgillafjccgkdaaDoorLxQuo
import Derived.WalkMore
namespace Go.Proofs.YtgillafjccgkdaaDoor
open Go.RowKit Go.WideShapes
namespace Lx

/-- How reading ends. -/
def RunR (B : Nat) (w : World) (g : Nat) (src : ByteArray) (e : Ending) (w' : World) : Prop :=
  ∃ o, Lex src.data.toList cf0 o ∧ Below B w w' ∧ match o with
    | .ok ts => e = .returned (.tuple #[]) ∧ ∃ a p bs, RdX B w' g src ⟨a, p, bs, ts⟩
    | .bad c p => e = offE c p
structure J0 (B : Nat) (w0 : World) (g : Nat) (src : ByteArray) (n : Nat) (w : World) (s : St) : Prop where
  n : n = 4 * (src.size - s.at_) + 3
  x : RdX B w g src s
  k : s.Ok src.size
  o : s.opn = 0
  v : Via src.data.toList cf0 ⟨true, 0, s⟩
  b : Below B w0 w
structure J1 (B : Nat) (w0 : World) (g : Nat) (src : ByteArray) (n : Nat) (w : World) (s : St) (hd : Bool) (b : Nat) : Prop where
  n : n = 0
  x : RdX B w g src s
  k : s.Ok src.size
  e : src.size ≤ s.at_
  v : Via src.data.toList cf0 ⟨hd, b, s⟩
  b : Below B w0 w
structure J2 (B : Nat) (w0 : World) (g : Nat) (src : ByteArray) (n : Nat) (w : World) (s : St) (b : Nat) : Prop where
  n : n = 4 * (src.size - s.at_) + 2
  x : RdX B w g src s
  k : s.Ok src.size ∨ TOk src.size s ∧ Tl src.data.toList s.at_
  v : Via src.data.toList cf0 ⟨false, b, s⟩
  b : Below B w0 w
structure J3 (B : Nat) (w0 : World) (g : Nat) (src : ByteArray) (n : Nat) (w : World) (s : St) (b : Nat) : Prop where
  n : n = 4 * (src.size - s.at_) + 1
  x : RdX B w g src s
  k : s.Ok src.size
  c : lk src.data.toList s.at_ = 10
  o : s.opn = 0
  v : Via src.data.toList cf0 ⟨false, b, s⟩
  b : Below B w0 w
structure JT (c : UInt8 → Prop) (B : Nat) (w0 : World) (g : Nat) (src : ByteArray) (n : Nat) (w : World) (s : St) (b : Nat) : Prop where
  n : n = 4 * (src.size - s.at_) + 1
  x : RdX B w g src s
  k : TOk src.size s
  t : Tl src.data.toList s.at_
  c : c (src.data.toList.getD s.at_ 0)
  v : Via src.data.toList cf0 ⟨false, b, s⟩
  b : Below B w0 w
def q4 (c : UInt8) : Prop := c = 39 ∨ c = 34
def q5 (c : UInt8) : Prop := ¬ q4 c ∧ isD c = true
def q6 (c : UInt8) : Prop := ¬ q4 c ∧ isD c = false ∧ isP c = true
def q7 (c : UInt8) : Prop := ¬ q4 c ∧ isD c = false ∧ isP c = false
def JS (B : Nat) (w0 : World) (g : Nat) (src : ByteArray) (n : Nat) (w : World) : Nat → Prop
  | 0 => ∃ s, J0 B w0 g src n w s
  | 1 => ∃ s hd b, J1 B w0 g src n w s hd b
  | 2 => ∃ s b, J2 B w0 g src n w s b
  | 3 => ∃ s b, J3 B w0 g src n w s b
  | 4 => ∃ s b, JT q4 B w0 g src n w s b
  | 5 => ∃ s b, JT q5 B w0 g src n w s b
  | 6 => ∃ s b, JT q6 B w0 g src n w s b
  | 7 => ∃ s b, JT q7 B w0 g src n w s b
  | _ => False
def JJ (B : Nat) (w0 : World) (g : Nat) (src : ByteArray) (l n : Nat) (a : Act) (w : World) : Prop := Fr g a ∧ JS B w0 g src n w l
theorem jj_lt {B : Nat} {w0 : World} {g : Nat} {src : ByteArray} (l n : Nat) (a : Act) (w : World) (h : JJ B w0 g src l n a w) : l < 8 := by
  obtain ⟨-, h⟩ := h
  match l, h with
  | 0, _ => omega
  | 1, _ => omega
  | 2, _ => omega
  | 3, _ => omega
  | 4, _ => omega
  | 5, _ => omega
  | 6, _ => omega
  | 7, _ => omega
  | _ + 8, h => exact h.elim
theorem tk4 {r : List UInt8} {o : Nat} (h : q4 (r.getD 0 0)) : tk r o = qt r o := by unfold tk; rw [if_pos (show r.getD 0 0 = 39 ∨ r.getD 0 0 = 34 from h)]; rfl
theorem tk5 {r : List UInt8} {o : Nat} (h : q5 (r.getD 0 0)) : tk r o = if isN (r.take (prt r)) then .ok (3, r.take (prt r), prt r, o) else .error 105 := by unfold tk; rw [if_neg (show ¬ (r.getD 0 0 = 39 ∨ r.getD 0 0 = 34) from h.1), if_pos h.2]
theorem tk6 {r : List UInt8} {o : Nat} (h : q6 (r.getD 0 0)) : tk r o = .ok (if wrd (r.take (prt r)) then 2 else 1, r.take (prt r), prt r, o) := by unfold tk; rw [if_neg (show ¬ (r.getD 0 0 = 39 ∨ r.getD 0 0 = 34) from h.1), if_neg (by rw [h.2.1]; simp), if_pos h.2.2]
theorem tk7 {r : List UInt8} {o : Nat} (h : q7 (r.getD 0 0)) : tk r o = sg r o := by unfold tk sg; rw [if_neg (show ¬ (r.getD 0 0 = 39 ∨ r.getD 0 0 = 34) from h.1), if_neg (by rw [h.2.1]; simp), if_neg (by rw [h.2.2]; simp)]
/-- Behind a token. -/
theorem jt_step {c : UInt8 → Prop} {B : Nat} {w0 : World} {g : Nat} {src : ByteArray} {n : Nat} {w w' : World} {s : St} {b : Nat} {e : Ending} (h : JT c B w0 g src n w s b) (he : EnR B w g src s.at_ (aft s (tk (src.data.toList.drop s.at_) s.opn)) e w') :
    (∃ s' m, e = .returned (.tuple #[]) ∧ m < n ∧ J2 B w0 g src m w' s' b) ∨ (∃ ch, e = .panicked ch ∧ RunR B w0 g src (.panicked ch) w') := by
  have hk := h.k
  rw [← size_list] at hk
  cases hx : aft s (tk (src.data.toList.drop s.at_) s.opn) with
  | error c =>
    rw [hx] at he
    obtain ⟨rfl, hb⟩ := he
    exact Or.inr ⟨_, rfl, .bad c s.at_, h.v _ (.done ((stp_tok h.t).trans (tkn_bad hx))), h.b.trans hb, rfl⟩
  | ok s' =>
    rw [hx] at he
    obtain ⟨rfl, hX, hb⟩ := he
    obtain ⟨hok, hlt⟩ := aft_ok hk hx
    rw [size_list] at hok
    have hle := hok.le
    have hn := h.n
    exact Or.inl ⟨s', _, rfl, by omega, ⟨rfl, hX, Or.inl hok, h.v.step ((stp_tok h.t).trans (tkn_ok hx)), h.b.trans hb⟩⟩
set_option maxRecDepth 100000 in
set_option maxHeartbeats 8000000 in
theorem run_any {B : Nat} {w0 : World} {g : Nat} {src : ByteArray} (hX : RdX B w0 g src cf0.s) (hsz : src.size ≤ 65536) (hE : ∀ w, Below B w0 w → Env w) :
    Calls Tryd.prog 16 #[.pointer (some ⟨g, 0, none⟩)] w0 fun e w' => RunR B w0 g src e w' := by
  have HX := Lib.hid hX
  have HE := Lib.hid hE
  have HBw : Hid (B ≤ w0.heap.size) := by obtain ⟨_, _, h⟩ := hX; have := h.lo; have := h.lt; show B ≤ _; omega
  clear hX hE
  go_enter Tryd.func16, Tryd.ntmps16
  go_wp2_with fail
  refine wp_scope_eight (JJ B w0 g src) jj_lt rfl rfl rfl rfl rfl rfl rfl rfl ?p1 ?p2 ?p0 ?p3 ?p4 ?p5 ?p6 ?p7 ?first
  case p1 =>
    rintro n a w ⟨hf, hj⟩
    obtain ⟨u1, u2, u3, u4, u5, u6, u7, u8, u9, u10, u11, u12, u13, u14, u15, u16, u17, u18, u19, u20, u21, u22, u23, u24, u25, u26, u27, u28, u29, u30, u31, u32, u33, u34, u35, u36, u37, u38, u39, u40, u41, u42, u43, u44, u45, u46, u47, u48, u49, u50, u51, u52, u53, u54, u55, u56, u57, u58, u59, u60, u61, u62, u63, u64, u65, rfl⟩ := fr_open hf
    clear hf
    obtain ⟨s, hd, b, h⟩ := hj
    have C := finish_any h.x h.k hsz
    have HH := Lib.hid h
    clear h
    go_wp2_with fail
    refine C.mono ?_
    rintro e w2 ⟨rfl, ⟨bs, h2⟩, hb2⟩
    clear C
    go_wp2_with fail
    refine bodyPost_end (results_none rfl _ _ _) rfl ?_
    refine ⟨.ok (fin s), HH.out.v _ (.done ?_), HH.out.b.trans hb2, rfl, _, _, _, h2⟩
    unfold stp
    simp only
    rw [if_pos (by rw [size_list]; exact HH.out.e)]
  case p3 =>
    rintro n a w ⟨hf, hj⟩
    obtain ⟨u1, u2, u3, u4, u5, u6, u7, u8, u9, u10, u11, u12, u13, u14, u15, u16, u17, u18, u19, u20, u21, u22, u23, u24, u25, u26, u27, u28, u29, u30, u31, u32, u33, u34, u35, u36, u37, u38, u39, u40, u41, u42, u43, u44, u45, u46, u47, u48, u49, u50, u51, u52, u53, u54, u55, u56, u57, u58, u59, u60, u61, u62, u63, u64, u65, rfl⟩ := fr_open hf
    clear hf
    obtain ⟨s, b, h⟩ := hj
    have hm := h.k.many
    have hl := h.k.le
    have C := put_any h.x 6 [] 1 ⟨#[]⟩ rfl (by omega) (by omega) (by omega)
    have HH := Lib.hid h
    clear h
    go_wp2_with fail
    refine C.mono ?_
    rintro e w2 ⟨rfl, h2, hb2⟩
    clear C
    go_wp2_with fail
    go_step3
    have h := HH.out
    obtain ⟨hl2, hc⟩ := (lk_is (l := src.data.toList) (a := s.at_) 10).1 h.c
    rw [size_list] at hl2
    refine ⟨4 * (src.size - (s.at_ + 1)) + 3, by have := h.n; omega, ⟨_, rfl, rfl⟩, s.add 6 [] 1, ⟨rfl, h2, ⟨?_, h.k.o, h.k.ne, h.k.last, h.k.few, h.k.down, ?_, ?_⟩, h.o, h.v.step ?_, h.b.trans hb2⟩⟩
    · show s.at_ + 1 ≤ src.size; omega
    · show (s.ts ++ [_]).length ≤ 41 * (s.at_ + 1)
      rw [List.length_append]
      simp
      omega
    · intro t ht
      unfold St.add at ht
      simp at ht
      subst ht
      exact ⟨by show (6 : Nat) ≠ 7; omega, by show (6 : Nat) ≠ 8; omega⟩
    · unfold stp
      simp only
      rw [if_neg (by rw [size_list]; omega), if_neg (by rw [hc]; decide), if_neg (by rw [hc]; decide), if_pos hc, if_pos h.o]
      rfl
  case p4 =>
    rintro n a w ⟨hf, hj⟩
    obtain ⟨u1, u2, u3, u4, u5, u6, u7, u8, u9, u10, u11, u12, u13, u14, u15, u16, u17, u18, u19, u20, u21, u22, u23, u24, u25, u26, u27, u28, u29, u30, u31, u32, u33, u34, u35, u36, u37, u38, u39, u40, u41, u42, u43, u44, u45, u46, u47, u48, u49, u50, u51, u52, u53, u54, u55, u56, u57, u58, u59, u60, u61, u62, u63, u64, u65, rfl⟩ := fr_open hf
    clear hf
    obtain ⟨s, b, h⟩ := hj
    have hm := h.k.many
    have hl := h.k.le
    have C := quoted_any h.x hsz (Nat.le_of_lt hl) (by omega) (HE.out w h.b)
    rw [← tk4 (by rw [drop_get]; exact h.c)] at C
    have HH := Lib.hid h
    clear h
    go_wp2_with fail
    refine C.mono ?_
    rintro e w2 he
    clear C
    rcases jt_step HH.out he with ⟨s', m, rfl, hmn, hJ⟩ | ⟨ch, rfl, hR⟩
    · have HJ := Lib.hid hJ
      clear hJ he
      go_wp2_with fail
      go_step3
      exact ⟨m, hmn, ⟨_, rfl, rfl⟩, s', b, HJ.out⟩
    · exact ⟨rfl, hR⟩
  case p5 =>
    rintro n a w ⟨hf, hj⟩
    obtain ⟨u1, u2, u3, u4, u5, u6, u7, u8, u9, u10, u11, u12, u13, u14, u15, u16, u17, u18, u19, u20, u21, u22, u23, u24, u25, u26, u27, u28, u29, u30, u31, u32, u33, u34, u35, u36, u37, u38, u39, u40, u41, u42, u43, u44, u45, u46, u47, u48, u49, u50, u51, u52, u53, u54, u55, u56, u57, u58, u59, u60, u61, u62, u63, u64, u65, rfl⟩ := fr_open hf
    clear hf
    obtain ⟨s, b, h⟩ := hj
    have hm := h.k.many
    have hl := h.k.le
    have C := number_any h.x hsz (Nat.le_of_lt hl) (by omega) (prt_pos (by rw [size_list]; exact hl) (isP_of_isD h.c.2))
    have hT : aft s (tk (src.data.toList.drop s.at_) s.opn) = (if isN ((src.data.toList.drop s.at_).take (prt (src.data.toList.drop s.at_))) then .ok (s.add 3 ((src.data.toList.drop s.at_).take (prt (src.data.toList.drop s.at_))) (prt (src.data.toList.drop s.at_))) else .error 105) := by
      rw [tk5 (by rw [drop_get]; exact h.c)]
      split <;> rfl
    rw [← hT] at C
    clear hT
    have HH := Lib.hid h
    clear h
    go_wp2_with fail
    refine C.mono ?_
    rintro e w2 he
    clear C
    rcases jt_step HH.out he with ⟨s', m, rfl, hmn, hJ⟩ | ⟨ch, rfl, hR⟩
    · have HJ := Lib.hid hJ
      clear hJ he
      go_wp2_with fail
      go_step3
      exact ⟨m, hmn, ⟨_, rfl, rfl⟩, s', b, HJ.out⟩
    · exact ⟨rfl, hR⟩
  case p6 =>
    rintro n a w ⟨hf, hj⟩
    obtain ⟨u1, u2, u3, u4, u5, u6, u7, u8, u9, u10, u11, u12, u13, u14, u15, u16, u17, u18, u19, u20, u21, u22, u23, u24, u25, u26, u27, u28, u29, u30, u31, u32, u33, u34, u35, u36, u37, u38, u39, u40, u41, u42, u43, u44, u45, u46, u47, u48, u49, u50, u51, u52, u53, u54, u55, u56, u57, u58, u59, u60, u61, u62, u63, u64, u65, rfl⟩ := fr_open hf
    clear hf
    obtain ⟨s, b, h⟩ := hj
    have hm := h.k.many
    have hl := h.k.le
    have C := name_any h.x hsz (Nat.le_of_lt hl) (by omega)
    have hT : aft s (tk (src.data.toList.drop s.at_) s.opn) = .ok (s.add (if wrd ((src.data.toList.drop s.at_).take (prt (src.data.toList.drop s.at_))) then 2 else 1) ((src.data.toList.drop s.at_).take (prt (src.data.toList.drop s.at_))) (prt (src.data.toList.drop s.at_))) := by
      rw [tk6 (by rw [drop_get]; exact h.c)]
      rfl
    rw [← hT] at C
    clear hT
    have HH := Lib.hid h
    clear h
    go_wp2_with fail
    refine C.mono ?_
    rintro e w2 he
    clear C
    rcases jt_step HH.out he with ⟨s', m, rfl, hmn, hJ⟩ | ⟨ch, rfl, hR⟩
    · have HJ := Lib.hid hJ
      clear hJ he
      go_wp2_with fail
      go_step3
      exact ⟨m, hmn, ⟨_, rfl, rfl⟩, s', b, HJ.out⟩
    · exact ⟨rfl, hR⟩
  case p7 =>
    rintro n a w ⟨hf, hj⟩
    obtain ⟨u1, u2, u3, u4, u5, u6, u7, u8, u9, u10, u11, u12, u13, u14, u15, u16, u17, u18, u19, u20, u21, u22, u23, u24, u25, u26, u27, u28, u29, u30, u31, u32, u33, u34, u35, u36, u37, u38, u39, u40, u41, u42, u43, u44, u45, u46, u47, u48, u49, u50, u51, u52, u53, u54, u55, u56, u57, u58, u59, u60, u61, u62, u63, u64, u65, rfl⟩ := fr_open hf
    clear hf
    obtain ⟨s, b, h⟩ := hj
    have hm := h.k.many
    have hl := h.k.le
    have C := sign_any h.x hsz (Nat.le_of_lt hl) (by omega) h.k.o
    rw [← tk7 (by rw [drop_get]; exact h.c)] at C
    have HH := Lib.hid h
    clear h
    go_wp2_with fail
    refine C.mono ?_
    rintro e w2 he
    clear C
    rcases jt_step HH.out he with ⟨s', m, rfl, hmn, hJ⟩ | ⟨ch, rfl, hR⟩
    · have HJ := Lib.hid hJ
      clear hJ he
      go_wp2_with fail
      go_step3
      exact ⟨m, hmn, ⟨_, rfl, rfl⟩, s', b, HJ.out⟩
    · exact ⟨rfl, hR⟩
  case p2 =>
    rintro n a w ⟨hf, hj⟩
    obtain ⟨u1, u2, u3, u4, u5, u6, u7, u8, u9, u10, u11, u12, u13, u14, u15, u16, u17, u18, u19, u20, u21, u22, u23, u24, u25, u26, u27, u28, u29, u30, u31, u32, u33, u34, u35, u36, u37, u38, u39, u40, u41, u42, u43, u44, u45, u46, u47, u48, u49, u50, u51, u52, u53, u54, u55, u56, u57, u58, u59, u60, u61, u62, u63, u64, u65, rfl⟩ := fr_open hf
    clear hf
    obtain ⟨s, b, h⟩ := hj
    have hle : s.at_ ≤ src.size := by rcases h.k with k | k; exact k.le; exact Nat.le_of_lt k.1.le
    have C := pass_any false b h.x hsz hle
    have HH := Lib.hid h
    clear h
    go_wp2_with fail
    refine C.mono ?_
    rintro e w2 ⟨rfl, a, b', hI, n35, n32, n10, hX2, hb2⟩
    clear C
    have hk : (St.Ok src.size { s with at_ := a } ∨ TOk src.size { s with at_ := a } ∧ Tl src.data.toList a) := by
      have hg := hI.ge
      have hl2 := hI.le
      rw [size_list] at hl2
      rcases HH.out.k with k | ⟨k, kt⟩
      · exact Or.inl ⟨hl2, k.o, k.ne, k.last, k.few, k.down, by show s.ts.length ≤ 41 * a; have := k.many; omega, k.kind⟩
      · have hst := hI.stay kt.ne.2.1 kt.ne.2.2.1 kt.ne.2.2.2
        subst hst
        exact Or.inr ⟨k, kt⟩
    have hV := HH.out.v.trans hI.via
    have hB := HH.out.b.trans hb2
    have hN := HH.out.n
    have hge := hI.ge
    have hle2 := hI.le
    rw [size_list] at hle2
    have HI := Lib.hid hI
    have HV := Lib.hid hV
    have HB := Lib.hid hB
    have HK := Lib.hid hk
    have HX2 := Lib.hid hX2
    have HGE := Lib.hid hge
    have HN := Lib.hid hN
    have H35 := Lib.hid n35
    have H32 := Lib.hid n32
    have H10 := Lib.hid n10
    obtain ⟨bv, tv, h2⟩ := hX2
    have C := look_any h2 hle2
    simp only at C
    clear h2 hI hV hB hk hge hN n35 n32 n10 hb2
    have fin : ∀ (m : Nat) (w' : World), Below w2.heap.size w2 w' → m = 4 * (src.size - a) + 1 → m < n := fun m _ _ e => by have := HN.out; have := HGE.out; omega
    have HF := Lib.hid fin
    clear fin
    have HBB : Hid (∀ w', Below w2.heap.size w2 w' → Below B w0 w') := fun w' hb => HB.out.trans (hb.mono (by have := HB.out.size; have := HBw.out; omega))
    by_cases hv : lk src.data.toList a = -1
    · have HVV := Lib.hid hv
      rw [hv] at C
      clear hv
      go_wp2_with fail
      refine C.mono ?_
      rintro e w3 ⟨rfl, hb3⟩
      clear C
      go_wp2_with fail
      go_step3
      refine ⟨0, by have := HN.out; omega, ⟨_, rfl, rfl⟩, { s with at_ := a }, false, b', ⟨rfl, HX2.out.below hb3, ?_, ?_, HV.out, HBB.out _ hb3⟩⟩
      · rcases HK.out with k | ⟨_, kt⟩
        · exact k
        · exact absurd HVV.out kt.ne.1
      · have := lk_over.1 HVV.out
        rw [size_list] at this
        exact this
    · by_cases hv10 : lk src.data.toList a = 10
      · have HVV := Lib.hid hv10
        rw [hv10] at C
        clear hv10 hv
        go_wp2_with fail
        refine C.mono ?_
        rintro e w3 ⟨rfl, hb3⟩
        clear C
        go_wp2_with fail
        go_step3
        refine ⟨_, HF.out _ _ hb3 rfl, ⟨_, rfl, rfl⟩, { s with at_ := a }, b', ⟨rfl, HX2.out.below hb3, ?_, HVV.out, H10.out HVV.out, HV.out, HBB.out _ hb3⟩⟩
        rcases HK.out with k | ⟨_, kt⟩
        · exact k
        · exact absurd HVV.out kt.ne.2.2.2
      · have ht : Tl src.data.toList a := tl_of hv H35.out H32.out hv10
        have HT := Lib.hid ht
        have hlt : a < src.size := by have := ht.1; rw [size_list] at this; exact this
        have HTK : Hid (TOk src.size { s with at_ := a }) := by
          rcases HK.out with k | ⟨k, _⟩
          · exact tok_of k hlt
          · exact k
        have hcv : lk src.data.toList a = ((src.data.toList.getD a 0).toNat : Int) := by unfold lk; rw [if_pos ht.1]
        have t1 : (((src.data.toList.getD a 0).toNat : Int) == -1) = false := beq_eq_false_iff_ne.2 (by omega)
        have t10 : (((src.data.toList.getD a 0).toNat : Int) == 10) = false := beq_eq_false_iff_ne.2 (by rw [← hcv]; exact hv10)
        rw [hcv] at C
        have D1 := fun w => isDigit_any (src.data.toList.getD a 0) w
        have D2 := fun w => isPart_any (src.data.toList.getD a 0) w
        have HJT : Hid (∀ (q : UInt8 → Prop) (w' : World), Below w2.heap.size w2 w' → q (src.data.toList.getD a 0) → JT q B w0 g src (4 * (src.size - a) + 1) w' { s with at_ := a } b') := fun q w' hb hq => ⟨rfl, HX2.out.below hb, HTK.out, HT.out, hq, HV.out, HBB.out _ hb⟩
        have h39 : ((src.data.toList.getD a 0).toNat : Int) = 39 ↔ src.data.toList.getD a 0 = 39 := by
          constructor
          · intro e; exact UInt8.toNat_inj.1 (by show _ = 39; omega)
          · intro e; rw [e]; rfl
        have h34 : ((src.data.toList.getD a 0).toNat : Int) = 34 ↔ src.data.toList.getD a 0 = 34 := by
          constructor
          · intro e; exact UInt8.toNat_inj.1 (by show _ = 34; omega)
          · intro e; rw [e]; rfl
        clear hv hv10 ht hcv hlt
        generalize src.data.toList.getD a 0 = c at *
        have H39 := Lib.hid h39
        have H34 := Lib.hid h34
        clear h39 h34
        by_cases c1 : (c.toNat : Int) = 39
        · have HQ : Hid (q4 c) := Or.inl (H39.out.1 c1)
          rw [c1] at C
          clear t1 t10 D1 D2
          go_wp2_with fail
          refine C.mono ?_
          rintro e w3 ⟨rfl, hb3⟩
          clear C
          go_wp2_with fail
          go_step3
          exact ⟨_, HF.out _ _ hb3 rfl, ⟨_, rfl, rfl⟩, _, _, HJT.out _ _ hb3 HQ.out⟩
        · by_cases c2 : (c.toNat : Int) = 34
          · have HQ : Hid (q4 c) := Or.inr (H34.out.1 c2)
            rw [c2] at C
            clear t1 t10 D1 D2 c1
            go_wp2_with fail
            refine C.mono ?_
            rintro e w3 ⟨rfl, hb3⟩
            clear C
            go_wp2_with fail
            go_step3
            exact ⟨_, HF.out _ _ hb3 rfl, ⟨_, rfl, rfl⟩, _, _, HJT.out _ _ hb3 HQ.out⟩
          · have t39 : ((c.toNat : Int) == 39) = false := beq_eq_false_iff_ne.2 c1
            have t34 : ((c.toNat : Int) == 34) = false := beq_eq_false_iff_ne.2 c2
            have HQ4 : Hid (¬ q4 c) := fun h => by rcases h with h | h; exact c1 (H39.out.2 h); exact c2 (H34.out.2 h)
            clear c1 c2
            by_cases d1 : isD c = true
            · have HQ : Hid (q5 c) := ⟨HQ4.out, d1⟩
              rw [d1] at D1
              clear D2 d1
              go_wp2_with fail
              refine C.mono ?_
              rintro e w3 ⟨rfl, hb3⟩
              clear C
              go_wp2_with (go_at_call 20; refine (D1 _).mono ?_; rintro e w' ⟨rfl, rfl⟩)
              go_step3
              exact ⟨_, HF.out _ _ hb3 rfl, ⟨_, rfl, rfl⟩, _, _, HJT.out _ _ hb3 HQ.out⟩
            · have d1 : isD c = false := by simpa using d1
              rw [d1] at D1
              by_cases d2 : isP c = true
              · have HQ : Hid (q6 c) := ⟨HQ4.out, d1, d2⟩
                rw [d2] at D2
                clear d1 d2
                go_wp2_with fail
                refine C.mono ?_
                rintro e w3 ⟨rfl, hb3⟩
                clear C
                go_wp2_with (first | (go_at_call 20; refine (D1 _).mono ?_; rintro e w' ⟨rfl, rfl⟩) | (go_at_call 21; refine (D2 _).mono ?_; rintro e w' ⟨rfl, rfl⟩))
                go_step3
                exact ⟨_, HF.out _ _ hb3 rfl, ⟨_, rfl, rfl⟩, _, _, HJT.out _ _ hb3 HQ.out⟩
              · have d2 : isP c = false := by simpa using d2
                have HQ : Hid (q7 c) := ⟨HQ4.out, d1, d2⟩
                rw [d2] at D2
                clear d1 d2
                go_wp2_with fail
                refine C.mono ?_
                rintro e w3 ⟨rfl, hb3⟩
                clear C
                go_wp2_with (first | (go_at_call 20; refine (D1 _).mono ?_; rintro e w' ⟨rfl, rfl⟩) | (go_at_call 21; refine (D2 _).mono ?_; rintro e w' ⟨rfl, rfl⟩))
                go_step3
                exact ⟨_, HF.out _ _ hb3 rfl, ⟨_, rfl, rfl⟩, _, _, HJT.out _ _ hb3 HQ.out⟩
  case p0 =>
    intro hnext
    have HNX := Lib.hid hnext
    clear hnext
    rintro n a w ⟨hf, hj⟩
    obtain ⟨u1, u2, u3, u4, u5, u6, u7, u8, u9, u10, u11, u12, u13, u14, u15, u16, u17, u18, u19, u20, u21, u22, u23, u24, u25, u26, u27, u28, u29, u30, u31, u32, u33, u34, u35, u36, u37, u38, u39, u40, u41, u42, u43, u44, u45, u46, u47, u48, u49, u50, u51, u52, u53, u54, u55, u56, u57, u58, u59, u60, u61, u62, u63, u64, u65, rfl⟩ := fr_open hf
    clear hf
    obtain ⟨s, h⟩ := hj
    have hle := h.k.le
    have C := pass_any true 0 h.x hsz hle
    obtain ⟨bv0, tv0, h0⟩ := h.x
    have c1 := h0.c1
    have HH := Lib.hid h
    clear h h0
    go_wp2_with fail
    refine C.mono ?_
    rintro e w2 ⟨rfl, a, b', hI, n35, n32, n10, hX2, hb2⟩
    clear C c1
    have hk : St.Ok src.size { s with at_ := a } := by
      have hg := hI.ge
      have hl2 := hI.le
      rw [size_list] at hl2
      have k := HH.out.k
      exact ⟨hl2, k.o, k.ne, k.last, k.few, k.down, by show s.ts.length ≤ 41 * a; have := k.many; omega, k.kind⟩
    have hV := HH.out.v.trans hI.via
    have hB := HH.out.b.trans hb2
    have hN := HH.out.n
    have hge := hI.ge
    have hle2 := hI.le
    rw [size_list] at hle2
    have hbl := hI.bl HH.out.o
    have HBL := Lib.hid hbl
    have HV := Lib.hid hV
    have HB := Lib.hid hB
    have HK := Lib.hid hk
    have HX2 := Lib.hid hX2
    have HN := Lib.hid hN
    have H35 := Lib.hid n35
    have H32 := Lib.hid n32
    obtain ⟨bv, tv, h2⟩ := hX2
    have C := look_any h2 hle2
    simp only at C
    clear h2 hI hV hB hk hN n35 n32 n10 hb2 hbl
    have HBB : Hid (∀ w', Below w2.heap.size w2 w' → Below B w0 w') := fun w' hb => HB.out.trans (hb.mono (by have := HB.out.size; have := HBw.out; omega))
    by_cases hv : lk src.data.toList a = -1
    · have HVV := Lib.hid hv
      rw [hv] at C
      clear hv
      go_wp2_with fail
      refine C.mono ?_
      rintro e w3 ⟨rfl, hb3⟩
      clear C
      go_wp2_with fail
      go_step3
      refine ⟨0, by have := HN.out; omega, ⟨_, rfl, rfl⟩, { s with at_ := a }, true, b', ⟨rfl, HX2.out.below hb3, HK.out, ?_, HV.out, HBB.out _ hb3⟩⟩
      have := lk_over.1 HVV.out
      rw [size_list] at this
      exact this
    · by_cases hv10 : lk src.data.toList a = 10
      · have HVV := Lib.hid hv10
        rw [hv10] at C
        clear hv10 hv
        have e1 : IntKind.i64.wrap ((a : Int) + 1) = ((a + 1 : Nat) : Int) := by rw [i64_small (by omega) (by omega)]; omega
        go_wp2_with fail
        refine C.mono ?_
        rintro e w3 ⟨rfl, hb3⟩
        clear C
        obtain ⟨bv3, tv3, h3⟩ := HX2.out.below hb3
        have c1 := h3.c1
        have z1 := h3.b.z 1
        simp only at c1
        have H3 := Lib.hid h3
        clear h3
        go_wp2_with fail
        go_step3
        obtain ⟨hl2, hc⟩ := (lk_is (l := src.data.toList) (a := a) 10).1 HVV.out
        have hl3 := hl2
        rw [size_list] at hl3
        have k := HK.out
        refine ⟨4 * (src.size - (a + 1)) + 3, by have := HN.out; omega, ⟨_, rfl, rfl⟩, { s with at_ := a + 1 }, ⟨rfl, ⟨_, _, H3.out.at_ (a + 1)⟩, ⟨?_, k.o, k.ne, k.last, k.few, k.down, ?_, k.kind⟩, HH.out.o, HV.out.step ?_, (HBB.out _ hb3).setCell (p := ⟨g, 1, none⟩) H3.out.lo _⟩⟩
        · show a + 1 ≤ src.size; omega
        · show s.ts.length ≤ 41 * (a + 1); have := k.many; simp only at this; omega
        · have ho := HH.out.o
          unfold stp
          simp only
          rw [if_neg (by omega), if_neg (by rw [hc]; decide), if_neg (by rw [hc]; decide), if_pos hc, if_pos ho]
          rfl
      · have ht : Tl src.data.toList a := tl_of hv H35.out H32.out hv10
        have HT := Lib.hid ht
        have hlt : a < src.size := by have := ht.1; rw [size_list] at this; exact this
        have hb0 : b' = a - s.at_ := by
          rcases HBL.out with e | e | e
          · omega
          · exact absurd ht.1 (by omega)
          · exact absurd e ht.2.2.2
        subst hb0
        have t1 : (lk src.data.toList a == -1) = false := beq_eq_false_iff_ne.2 hv
        have t10 : (lk src.data.toList a == 10) = false := beq_eq_false_iff_ne.2 hv10
        have e1 : IntKind.i64.wrap ((a : Int) - (s.at_ : Int)) = ((a - s.at_ : Nat) : Int) := by rw [i64_small (by omega) (by omega)]; omega
        clear hv hv10 ht
        generalize lk src.data.toList a = c at *
        go_wp2_with fail
        refine C.mono ?_
        rintro e w3 ⟨rfl, hb3⟩
        clear C
        obtain ⟨bv3, tv3, h3⟩ := HX2.out.below hb3
        have c1 := h3.c1
        simp only at c1
        have H3 := Lib.hid (HX2.out.below hb3)
        clear h3
        have k := HK.out
        have C2 := settle_any (n := a - s.at_) H3.out k.ne k.last k.few (by show a ≤ _; omega) (by have := k.many; simp only at this; show s.ts.length ≤ _; omega)
        simp only at C2
        clear k
        go_wp2_with fail
        refine C2.mono ?_
        rintro e w4 he
        clear C2
        cases hx : stl (a - s.at_) { s with at_ := a } with
        | error c5 =>
          rw [hx] at he
          obtain ⟨rfl, hb4⟩ := he
          refine ⟨rfl, .bad c5 a, HV.out _ (.done (stp_head_bad HT.out hx)), (HBB.out _ hb3).trans hb4, rfl⟩
        | ok s' =>
          rw [hx] at he
          obtain ⟨rfl, hX4, hb4⟩ := he
          obtain ⟨hT, ha, ho⟩ := stl_ok HK.out hlt hx
          have ha : s'.at_ = a := ha
          have hJ : J2 B w0 g src (4 * (src.size - s'.at_) + 2) w4 s' (a - s.at_) := ⟨rfl, hX4, Or.inr ⟨hT, by rw [ha]; exact HT.out⟩, HV.out.trans (via_same ((stp_head HT.out hx).trans (stp_tok (by rw [ha]; exact HT.out)).symm)), (HBB.out _ hb3).trans hb4⟩
          have HJ := Lib.hid hJ
          have HA := Lib.hid ha
          clear hJ hT ha ho hX4 hx
          go_wp2_with fail
          go_step3
          rename_i hK
          refine hK _ _ ?_
          refine wp_monoQ (HNX.out (4 * (src.size - s'.at_) + 2) _ _ ?hh) (less_mono ?_)
          · exact ⟨⟨_, rfl, rfl⟩, s', _, HJ.out⟩
          · have := HN.out
            have := HA.out
            omega
  case first =>
    intro hline
    have HL := Lib.hid hline
    clear hline
    go_wp2_with fail
    go_step3
    rename_i hK
    refine hK _ _ ?_
    refine HL.out (4 * (src.size - 0) + 3) _ _ ?_
    exact ⟨⟨_, rfl, rfl⟩, cf0.s, ⟨rfl, HX.out, ok0 _, rfl, Via.refl _ _, Below.refl _ _⟩⟩
end Lx
end Go.Proofs.YtgillafjccgkdaaDoor
