/-
  What subWords does.
-/
import Derived.Test.YteplmnnpmekngabAdd
namespace Go.Proofs.Yteplmnnpmekngab
open Go.RowKit

theorem sub_val {xs ys ds : List Nat} {k bv d b x y : Nat} (h : val (xs.take k) + pw k * bv = val ds + val (ys.take k)) (hd : ds.length = k) (ex : xs[k]?.getD 0 = x) (ey : ys[k]?.getD 0 = y) (hs : x + 4294967296 * b = d + y + bv) :
    val (xs.take (k + 1)) + pw (k + 1) * b = val (ds ++ [d]) + val (ys.take (k + 1)) := by
  rw [val_append, hd, val_take_succ', val_take_succ', ex, ey]
  simp only [val, pw]
  have e : pw k * (x + 4294967296 * b) = pw k * (d + y + bv) := by rw [hs]
  rw [Nat.mul_add, Nat.mul_add, Nat.mul_add] at e
  have e2 : 4294967296 * pw k * b = pw k * (4294967296 * b) := by rw [Nat.mul_comm 4294967296 (pw k), Nat.mul_assoc]
  rw [e2]
  simp only [Nat.mul_zero, Nat.add_zero]
  omega
/-- Where a slice's words lie. -/
theorem Sl.place {k : IntKind} {w : World} {a : Option Addr} {n c : Nat} {zs : List Nat} (h : Sl k w (.slice a n c) zs) : ∃ b off, (zs ≠ [] → a = some ⟨b, off, none⟩ ∧ b < w.heap.size) ∧ Seg k w b off zs := by
  rcases h.cases with ⟨rfl, _⟩ | ⟨_, b, off, cap', e, _, hs, hl⟩
  · exact ⟨0, 0, fun h => absurd rfl h, fun j hj => by simp at hj⟩
  · injection e with e1
    exact ⟨b, off, fun _ => ⟨e1, hl⟩, hs⟩
theorem Ow.place {k : IntKind} {B : Nat} {w : World} {a : Option Addr} {n c : Nat} {zs : List Nat} (h : Ow k B w (.slice a n c) zs) : ∃ b off, (zs ≠ [] → a = some ⟨b, off, none⟩ ∧ b < w.heap.size) ∧ B ≤ b ∧ Seg k w b off zs ∧ Free w b off zs.length := by
  rcases h.cases with ⟨rfl, _⟩ | ⟨_, b, off, cap', e, _, hB, hs, hf, hl⟩
  · exact ⟨B, 0, fun h => absurd rfl h, Nat.le_refl _, fun j hj => by simp at hj, fun j hj => by simp at hj⟩
  · injection e with e1
    exact ⟨b, off, fun _ => ⟨e1, hl⟩, hB, hs, hf⟩
theorem Ow.cap {k : IntKind} {B : Nat} {w : World} {a : Option Addr} {n c : Nat} {zs : List Nat} (h : Ow k B w (.slice a n c) zs) : zs.length ≤ c := by
  obtain ⟨a', c', e, hc, _⟩ := h
  injection e with _ _ e
  omega

set_option maxRecDepth 100000 in
set_option maxHeartbeats 1000000 in
/-- subWords: new memory that holds the difference. -/
theorem subWords_any (ax ay : Option Addr) (nx cx ny cy : Nat) (xs ys : List Nat) (w : World) (hx : Sl .u32 w (.slice ax nx cx) xs) (hy : Sl .u32 w (.slice ay ny cy) ys) (bx : xs.length ≤ 100000) (hlen : ys.length ≤ xs.length) (hle : val ys ≤ val xs) (ox : okw xs) (oy : okw ys) :
    Calls Try.prog 25 #[.slice ax nx cx, .slice ay ny cy] w fun e w' => ∃ a m cap, e = .returned (.slice a m cap) ∧ m ≤ xs.length ∧ NumIs w.heap.size w' (.slice a m cap) (val xs - val ys) ∧ Below w.heap.size w w' := by
  obtain rfl := hx.len
  obtain rfl := hy.len
  obtain ⟨b2, off2, hay, sy⟩ := hy.place
  have hcl := clone_any ax xs.length cx xs w hx (by omega)
  clear hx hy
  go_enter Try.func25, Try.ntmps25
  go_wp2_with (go_at_call 29; refine hcl.mono ?_; rintro e w1 ⟨a1, c1, rfl, ho, hb1⟩)
  clear hcl
  have hcap := ho.cap
  obtain ⟨g, off, hag, hBg, sx, fx⟩ := ho.place
  clear ho
  have sy1 : ys ≠ [] → Seg .u32 w1 b2 off2 ys := fun h => sy.below hb1 (hay h).2
  go_loopw [6, 15] (fun c i wr => ∃ (k bv : Nat) (ds : List Nat), k ≤ xs.length ∧ bv ≤ 1 ∧ c = .int .u32 (bv : Int) ∧ i = .int .i64 (k : Int) ∧ ds.length = k ∧ okw ds ∧ val (xs.take k) + pw k * bv = val ds + val (ys.take k) ∧ Seg .u32 wr g off (ds ++ xs.drop k) ∧ OnlyRow w1 wr g off xs.length)
    (fun _ i _ => xs.length - (intOf i).toNat)
  case atStart => exact ⟨0, 0, [], Nat.zero_le _, by omega, rfl, rfl, rfl, okw_nil, by simp [val], by simpa using sx, OnlyRow.refl _ _ _ _⟩
  case round =>
    obtain ⟨k, bv, ds, hk, hbv, rfl, rfl, hdl, hdo, hval, hseg, hor⟩ := hrel
    have HV : Hid (val (xs.take k) + pw k * bv = val ds + val (ys.take k)) := hval
    have HL : Hid (ds.length = k) := hdl
    clear hval hdl
    -- what the end owes
    have out : ∀ zs : List Nat, zs.length = xs.length → okw zs → Seg .u32 wr g off zs → val zs = val xs - val ys →
        Ow .u32 w.heap.size wr (.slice a1 xs.length c1) zs ∧ Below w.heap.size w wr := by
      intro zs hz hzo hzs _
      refine ⟨⟨a1, c1, by rw [hz], by rw [hz]; exact hcap, fun hn => ?_⟩, hb1.trans (hor.below hBg)⟩
      have hxn : xs ≠ [] := fun h => hn (List.eq_nil_of_length_eq_zero (by rw [hz, h]; rfl))
      exact ⟨g, off, (hag hxn).1, hBg, hzs, fun j hj => (hor.frozen _).trans (fx j (by omega))⟩
    by_cases hlt : k < xs.length
    · have hxn : xs ≠ [] := by intro h; subst h; simp at hlt
      obtain ⟨ea, hglt⟩ := hag hxn
      obtain ⟨x, hx⟩ : ∃ x, xs[k]?.getD 0 = x := ⟨_, rfl⟩
      obtain ⟨y, hy'⟩ : ∃ y, ys[k]?.getD 0 = y := ⟨_, rfl⟩
      have hcell : wr.cell? ⟨g, off + k, none⟩ = some (.int .u32 (x : Int)) := by
        have := hseg k (by rw [List.length_append, HL.out, List.length_drop]; omega)
        rw [this, List.getElem?_append_right (by rw [HL.out]; omega), HL.out, ← hx]
        simp
      have hfr : wr.frozen? ⟨g, off + k, none⟩ = false := (hor.frozen _).trans (fx k hlt)
      have h1 := okw_get ox k
      have h2 := okw_get oy k
      rw [hx] at h1
      rw [hy'] at h2
      have EX : Hid (xs[k]?.getD 0 = x) := hx
      have EY : Hid (ys[k]?.getD 0 = y) := hy'
      clear hx hy'
      have fin : ∀ (c d : Nat) (v : Int), v = (d : Int) → d < 4294967296 → x + 4294967296 * c = d + y + bv →
          ∃ ds' : List Nat, ds'.length = k + 1 ∧ okw ds' ∧ val (xs.take (k + 1)) + pw (k + 1) * c = val ds' + val (ys.take (k + 1)) ∧ Seg .u32 (wr.setCell ⟨g, off + k, none⟩ (.int .u32 v)) g off (ds' ++ xs.drop (k + 1)) ∧ OnlyRow w1 (wr.setCell ⟨g, off + k, none⟩ (.int .u32 v)) g off xs.length := by
        intro c d v hv hd hs
        subst hv
        exact ⟨ds ++ [d], by simp [HL.out], okw_append.2 ⟨hdo, okw_cons.2 ⟨hd, okw_nil⟩⟩, sub_val HV.out HL.out EX.out EY.out hs, seg_mid hseg HL.out hlt _, hor.set k hlt _⟩
      by_cases hky : k < ys.length
      · have hyn : ys ≠ [] := by intro h; subst h; simp at hky
        obtain ⟨e1, e2⟩ := hay hyn
        have hcy : wr.cell? ⟨b2, off2 + k, none⟩ = some (.int .u32 (y : Int)) := by rw [← EY.out]; exact hor.seg (sy1 hyn) (by omega) k hky
        subst e1
        subst ea
        have FIN : Hid (∀ (c d : Nat) (v : Int), v = (d : Int) → d < 4294967296 → x + 4294967296 * c = d + y + bv →
          ∃ ds' : List Nat, ds'.length = k + 1 ∧ okw ds' ∧ val (xs.take (k + 1)) + pw (k + 1) * c = val ds' + val (ys.take (k + 1)) ∧ Seg .u32 (wr.setCell ⟨g, off + k, none⟩ (.int .u32 v)) g off (ds' ++ xs.drop (k + 1)) ∧ OnlyRow w1 (wr.setCell ⟨g, off + k, none⟩ (.int .u32 v)) g off xs.length) := fin
        clear out fin
        by_cases hc : x < y + bv
        · obtain ⟨ds', a1', a2, a3, a4, a5⟩ := FIN.out 1 (x + 4294967296 - y - bv) (((x : Int) - y - bv) % 4294967296) (by omega) (by omega) (by omega)
          have A1 : Hid (ds'.length = k + 1) := a1'
          have A3 : Hid (val (xs.take (k + 1)) + pw (k + 1) * 1 = val ds' + val (ys.take (k + 1))) := a3
          clear a1' a3 FIN
          go_wp2
          all_goals
            first
              | (exfalso; omega)
              | skip
          all_goals
            go_roundw
            case rel => exact ⟨k + 1, 1, ds', by omega, by omega, rfl, by go_num, A1.out, a2, A3.out, a4, a5⟩
            case measure => simp [intOf]; omega
        · obtain ⟨ds', a1', a2, a3, a4, a5⟩ := FIN.out 0 (x - y - bv) ((x : Int) - y - bv) (by omega) (by omega) (by omega)
          have A1 : Hid (ds'.length = k + 1) := a1'
          have A3 : Hid (val (xs.take (k + 1)) + pw (k + 1) * 0 = val ds' + val (ys.take (k + 1))) := a3
          clear a1' a3 FIN
          go_wp2
          all_goals
            first
              | (exfalso; omega)
              | skip
          all_goals
            go_roundw
            case rel => exact ⟨k + 1, 0, ds', by omega, by omega, rfl, by go_num, A1.out, a2, A3.out, a4, a5⟩
            case measure => simp [intOf]; omega
      · have hy0 : y = 0 := by rw [← EY.out, List.getElem?_eq_none (by omega)]; rfl
        subst hy0
        by_cases hc0 : bv = 0
        · subst hc0
          have h3 := HV.out
          rw [List.take_of_length_le (show ys.length ≤ k by omega)] at h3
          obtain ⟨hO, hBB⟩ := out (ds ++ xs.drop k) (by rw [List.length_append, HL.out, List.length_drop]; omega) (okw_append.2 ⟨hdo, okw_drop ox k⟩) hseg (by rw [val_append, HL.out, val_split xs k (by omega)]; omega)
          have hv3 : val (ds ++ xs.drop k) = val xs - val ys := by rw [val_append, HL.out, val_split xs k (by omega)]; omega
          have HV3 : Hid (val (ds ++ xs.drop k) = val xs - val ys) := hv3
          have ho3 : okw (ds ++ xs.drop k) := okw_append.2 ⟨hdo, okw_drop ox k⟩
          have HL3 : Hid ((ds ++ xs.drop k).length = xs.length) := by show (ds ++ xs.drop k).length = _; rw [List.length_append, HL.out, List.length_drop]; omega
          obtain ⟨zs, hzs⟩ : ∃ zs, ds ++ xs.drop k = zs := ⟨_, rfl⟩
          rw [hzs] at hO HV3 ho3 HL3
          clear fin hcell hfr EX EY out hzs hv3 h3 hseg ea hag hay
          have hz : (((0 : Nat) : Int) == 0) = true := rfl
          go_wp2_with fail
          refine (trim_any a1 xs.length c1 zs _ hO.sl (by rw [HL3.out]; omega)).mono ?_
          rintro e w5 ⟨rfl, rfl⟩
          have HT : Hid (NumIs w.heap.size w5 (.slice a1 (tl zs zs.length) c1) (val xs - val ys)) := ⟨trimL zs, hO.trimmed, okw_trimL ho3, Tr_trimL _, by rw [val_trimL]; exact HV3.out⟩
          have hm : tl zs zs.length ≤ xs.length := by rw [← HL3.out]; exact tl_le _ _
          clear hO
          go_wp2
          go_ret
          exact ⟨_, _, _, rfl, hm, HT.out, hBB⟩
        · obtain rfl : bv = 1 := by omega
          have hz : (((1 : Nat) : Int) == 0) = false := rfl
          subst ea
          have FIN : Hid (∀ (c d : Nat) (v : Int), v = (d : Int) → d < 4294967296 → x + 4294967296 * c = d + 0 + 1 →
            ∃ ds' : List Nat, ds'.length = k + 1 ∧ okw ds' ∧ val (xs.take (k + 1)) + pw (k + 1) * c = val ds' + val (ys.take (k + 1)) ∧ Seg .u32 (wr.setCell ⟨g, off + k, none⟩ (.int .u32 v)) g off (ds' ++ xs.drop (k + 1)) ∧ OnlyRow w1 (wr.setCell ⟨g, off + k, none⟩ (.int .u32 v)) g off xs.length) := fin
          clear out fin hc0
          by_cases hc : x < 1
          · obtain ⟨ds', a1', a2, a3, a4, a5⟩ := FIN.out 1 (x + 4294967296 - 1) (((x : Int) - 1) % 4294967296) (by omega) (by omega) (by omega)
            have A1 : Hid (ds'.length = k + 1) := a1'
            have A3 : Hid (val (xs.take (k + 1)) + pw (k + 1) * 1 = val ds' + val (ys.take (k + 1))) := a3
            clear a1' a3 FIN
            go_wp2
            all_goals
              first
                | (exfalso; omega)
                | skip
            all_goals
              go_roundw
              case rel => exact ⟨k + 1, 1, ds', by omega, by omega, rfl, by go_num, A1.out, a2, A3.out, a4, a5⟩
              case measure => simp [intOf]; omega
          · obtain ⟨ds', a1', a2, a3, a4, a5⟩ := FIN.out 0 (x - 1) ((x : Int) - 1) (by omega) (by omega) (by omega)
            have A1 : Hid (ds'.length = k + 1) := a1'
            have A3 : Hid (val (xs.take (k + 1)) + pw (k + 1) * 0 = val ds' + val (ys.take (k + 1))) := a3
            clear a1' a3 FIN
            go_wp2
            all_goals
              first
                | (exfalso; omega)
                | skip
            all_goals
              go_roundw
              case rel => exact ⟨k + 1, 0, ds', by omega, by omega, rfl, by go_num, A1.out, a2, A3.out, a4, a5⟩
              case measure => simp [intOf]; omega
    · obtain rfl : k = xs.length := by omega
      have h3 := HV.out
      rw [List.take_length, List.take_of_length_le hlen] at h3
      have h4 := val_lt hdo
      rw [HL.out] at h4
      have hb0 : bv = 0 := by
        refine Decidable.byContradiction fun hn => ?_
        obtain rfl : bv = 1 := by omega
        omega
      have hseg' : Seg .u32 wr g off ds := by simpa using hseg
      have hv3 : val ds = val xs - val ys := by subst hb0; omega
      obtain ⟨hO, hBB⟩ := out ds HL.out hdo hseg' hv3
      have HV3 : Hid (val ds = val xs - val ys) := hv3
      clear out h3 h4 hv3 hb0 hseg hseg'
      go_wp2_with fail
      refine (trim_any a1 xs.length c1 ds _ hO.sl (by rw [HL.out]; omega)).mono ?_
      rintro e w5 ⟨rfl, rfl⟩
      have HT : Hid (NumIs w.heap.size w5 (.slice a1 (tl ds ds.length) c1) (val xs - val ys)) := ⟨trimL ds, hO.trimmed, okw_trimL hdo, Tr_trimL _, by rw [val_trimL]; exact HV3.out⟩
      have hm : tl ds ds.length ≤ xs.length := by have := tl_le ds ds.length; rw [HL.out] at this ⊢; exact this
      clear hO
      go_wp2
      go_ret
      exact ⟨_, _, _, rfl, hm, HT.out, hBB⟩
end Go.Proofs.Yteplmnnpmekngab
