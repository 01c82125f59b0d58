/-
  What divideWords of package whole does.
-/
import Derived.Test.YteplmnnpmekngaaDlLong
import Derived.Test.YteplmnnpmekngaaRParse
namespace Go.Proofs.Yteplmnnpmekngaa
open Go.RowKit

theorem NumIs.nil (B : Nat) (w : World) : NumIs B w (.slice none 0 0) 0 := ⟨[], Ow_nil _ _ _ _ _, okw_nil, Or.inl rfl, rfl⟩

set_option maxRecDepth 100000 in
set_option maxHeartbeats 2000000 in
theorem divideWords_any (ax ay : Option Addr) (nx cx ny cy : Nat) (xs ys : List Nat) (w : World) (hx : Sl .u32 w (.slice ax nx cx) xs) (hy : Sl .u32 w (.slice ay ny cy) ys) (ox : okw xs) (oy : okw ys) (tx : Tr xs) (ty : Tr ys) (bx : xs.length ≤ 1000) (by_ : ys.length ≤ 1000) (hpos : 0 < val ys) :
    Calls Try.prog 57 #[.slice ax nx cx, .slice ay ny cy] w fun e w' => ∃ a1 l1 c1 a2 l2 c2, e = .returned (.tuple #[.slice a1 l1 c1, .slice a2 l2 c2]) ∧ NumIs w.heap.size w' (.slice a1 l1 c1) (val xs / val ys) ∧ NumIs w.heap.size w' (.slice a2 l2 c2) (val xs % val ys) ∧ Below w.heap.size w w' := by
  obtain rfl := hx.len
  have HNy : Hid (ny = ys.length) := hy.len
  go_enter Try.func57, Try.ntmps57
  go_wp2_with fail
  refine (cmpw_any ax ay _ cx ny cy xs ys w hx hy ox oy tx ty (by omega)).mono ?_
  rintro e w1 ⟨rfl, hb1⟩
  have hx1 := hx.below hb1
  have hy1 := hy.below hb1
  by_cases hlt : val xs < val ys
  · have e1 : cmpN (val xs) (val ys) = -1 := by unfold cmpN; rw [if_pos hlt]
    rw [e1]
    clear e1
    have HQ : Hid (val xs / val ys = 0 ∧ val xs % val ys = val xs) := ⟨Nat.div_eq_of_lt hlt, Nat.mod_eq_of_lt hlt⟩
    clear hlt
    go_wp2_with fail
    refine (clone_any ax _ cx xs w1 hx1 (by omega)).mono ?_
    rintro e w2 ⟨a', c', rfl, hO, hb2⟩
    have hB : Below w.heap.size w w2 := hb1.trans (hb2.mono hb1.size)
    have hs1 := hb1.size
    go_wp2
    refine bodyPost_ret (v := .tuple #[.slice none 0 0, .slice a' xs.length c']) ?_ rfl ⟨_, _, _, _, _, _, rfl, by rw [HQ.out.1]; exact NumIs.nil _ _, by rw [HQ.out.2]; exact ⟨xs, hO.mono hs1, ox, tx, rfl⟩, hB⟩
    simp [results, Try.f57, go_sem]
  · have hge : val ys ≤ val xs := by omega
    have e1 : ¬ cmpN (val xs) (val ys) < 0 := by unfold cmpN; rw [if_neg hlt]; split <;> omega
    obtain ⟨c, hc⟩ : ∃ c, cmpN (val xs) (val ys) = c := ⟨_, rfl⟩
    rw [hc] at e1 ⊢
    clear hc hlt
    have hy0 : ys ≠ [] := fun h => by rw [h] at hpos; simp [val] at hpos
    have hx0 : xs ≠ [] := fun h => by rw [h] at hge; simp [val] at hge; omega
    by_cases h1 : ys.length = 1
    · obtain ⟨y, rfl⟩ : ∃ y, ys = [y] := List.length_eq_one_iff.1 h1
      have hyv : val [y] = y := by simp [val]
      rw [hyv] at hpos
      have HV : Hid (val [y] = y) := hyv
      have hyb : y < 4294967296 := (okw_cons.1 oy).1
      obtain rfl : ny = 1 := HNy.out
      obtain ⟨b2, o2, hp2, s2⟩ := hy1.place
      obtain ⟨rfl, hb2lt⟩ := hp2 hy0
      have cy0 := s2 0 (by simp)
      simp only [Nat.add_zero, List.getElem?_cons_zero, Option.getD_some] at cy0
      clear HNy h1 hyv hge hy hp2
      go_wp2_with fail
      refine (clone_any ax _ cx xs w1 hx1 (by omega)).mono ?_
      rintro e w2 ⟨a', c', rfl, hO, hb2⟩
      have hB2 : Below w.heap.size w w2 := hb1.trans (hb2.mono hb1.size)
      have cy2 : w2.cell? ⟨b2, o2, none⟩ = some (.int .u32 (y : Int)) := (hb2.cell (p := ⟨b2, o2, none⟩) hb2lt).trans cy0
      have hs1 := hb1.size
      obtain ⟨g, off, hp, hge, sg, fr⟩ := hO.place
      obtain ⟨rfl, hg⟩ := hp hx0
      have hcap : xs.length ≤ c' := by
        obtain ⟨_, _, e, h, _⟩ := hO
        injection e with _ _ e3
        omega
      clear hp cy0 hx1 hy1 hO hx
      go_wp2_with fail
      refine (divideBy_some g off xs.length c' y _ xs w2 (by omega) rfl (fun _ => rfl) hg sg fr ox hpos hyb).mono ?_
      rintro e w3 ⟨rfl, ⟨qs, lq, oq, vq, sq⟩, ht⟩
      have hgB : w.heap.size ≤ g := Nat.le_trans hs1 hge
      have hB3 : Below w.heap.size w w3 := hB2.trans (ht.below hgB hB2.size)
      have f3 : Free w3 g off qs.length := fun j hj => (ht.frozen _).trans (fr j (by omega))
      have hm : val xs % y < y := Nat.mod_lt _ hpos
      obtain ⟨r, hr⟩ : ∃ r, val xs % y = r := ⟨_, rfl⟩
      rw [hr] at hm ⊢
      have HR : Hid (val xs % y = r) := hr
      have O3 : Ow .u32 w.heap.size w3 (.slice (some ⟨g, off, none⟩) xs.length c') qs := ⟨_, _, by rw [lq], by omega, fun _ => ⟨g, off, rfl, hgB, sq, f3⟩⟩
      clear hr ht sq f3 hB2 sg fr hge cy2
      have HLq : Hid (qs.length = xs.length) := lq
      clear lq
      go_wp2_with fail
      refine (trim_any _ _ _ qs w3 O3.sl (by rw [HLq.out]; omega)).mono ?_
      rintro e w4 ⟨rfl, rfl⟩
      go_wp2_with fail
      have sR := sl_one w4 r 55
      refine (trim_any _ 1 1 [r] _ sR (by simp)).mono ?_
      rintro e w5 ⟨rfl, rfl⟩
      have ba := below_alloc w4 (.cells #[.int .u32 (r : Int)] 55)
      have OR : Ow .u32 w.heap.size (w4.alloc (.cells #[.int .u32 (r : Int)] 55)) (.slice (some ⟨w4.heap.size, 0, none⟩) 1 1) [r] := by
        obtain ⟨_, _, e, h2, h3⟩ := sR
        refine ⟨_, _, rfl, by simp, fun hn => ?_⟩
        obtain ⟨b, o, e4, h5⟩ := h3 hn
        cases e
        cases e4
        exact ⟨_, _, rfl, hB3.size, h5, fun j _ => World.frozen?_alloc_at _ _ _ _ rfl⟩
      have F1 := (O3.below ba).trimmed
      have F2 := OR.trimmed
      have HF : Hid (NumIs w.heap.size (w4.alloc (.cells #[.int .u32 (r : Int)] 55)) (.slice (some ⟨g, off, none⟩) (tl qs qs.length) c') (val xs / y) ∧ NumIs w.heap.size (w4.alloc (.cells #[.int .u32 (r : Int)] 55)) (.slice (some ⟨w4.heap.size, 0, none⟩) (tl [r] [r].length) 1) r ∧ Below w.heap.size w (w4.alloc (.cells #[.int .u32 (r : Int)] 55))) :=
        ⟨⟨_, F1, okw_trimL oq, Tr_trimL _, by rw [val_trimL]; exact vq⟩, ⟨_, F2, okw_trimL (okw_cons.2 ⟨by omega, okw_nil⟩), Tr_trimL _, by rw [val_trimL]; simp [val]⟩, hB3.trans (ba.mono hB3.size)⟩
      clear F1 F2 OR O3 sR ba
      go_wp2
      refine bodyPost_ret (v := .tuple #[.slice (some ⟨g, off, none⟩) (tl qs qs.length) c', .slice (some ⟨w4.heap.size, 0, none⟩) (tl [r] [r].length) 1]) ?_ rfl ⟨_, _, _, _, _, _, rfl, by rw [HV.out]; exact HF.out.1, by rw [HV.out, HR.out]; exact HF.out.2.1, HF.out.2.2⟩
      simp [results, Try.f57, go_sem]
    · have hl2 : 0 < ys.length := List.length_pos_iff.2 hy0
      obtain ⟨m, hm⟩ : ∃ m, ys.length = m + 2 := ⟨ys.length - 2, by omega⟩
      have hty : ys[m + 1]?.getD 0 ≠ 0 := by
        rcases ty with h | h
        · omega
        · rwa [hm] at h
      have hxy : ys.length ≤ xs.length := Tr_len_of_le ty ox hge
      have LA := long_any ax ay _ cx ny cy m xs ys w1 hx1 hy1 ox oy bx hm hxy hty
      have n2 : ¬ (ny : Int) = 1 := by have := HNy.out; omega
      have n1 : ((ny : Int) == 1) = false := by simpa using n2
      clear h1 hl2 hm hty hxy hge
      go_wp2_with fail
      refine LA.mono ?_
      rintro e w2 ⟨a1, l1, c1, a2, l2, c2, Q, R, rfl, o1, o2, k1, k2, t1, t2, v1, v2, hb2⟩
      have hB : Below w.heap.size w w2 := hb1.trans (hb2.mono hb1.size)
      have hs1 := hb1.size
      have HF : Hid (NumIs w.heap.size w2 (.slice a1 l1 c1) (val xs / val ys) ∧ NumIs w.heap.size w2 (.slice a2 l2 c2) (val xs % val ys)) := ⟨⟨Q, o1.mono hs1, k1, t1, v1⟩, ⟨R, o2.mono hs1, k2, t2, v2⟩⟩
      clear LA o1 o2 k1 k2 t1 t2 v1 v2
      go_wp2
      refine bodyPost_ret (v := .tuple #[.slice a1 l1 c1, .slice a2 l2 c2]) ?_ rfl ⟨_, _, _, _, _, _, rfl, HF.out.1, HF.out.2, hB⟩
      simp [results, Try.f57, go_sem]
end Go.Proofs.Yteplmnnpmekngaa
