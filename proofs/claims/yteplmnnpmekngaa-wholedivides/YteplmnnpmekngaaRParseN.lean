/-
  The reference: Parse where it reads a number.
-/
import Derived.Deep.CutRange
import Derived.Test.YteplmnnpmekngaaRParse
namespace Go.Proofs.Yteplmnnpmekngaa
open Go.RowKit Go.Shelf

theorem sl_ten (V : World) (t : TypeId) : Sl .u32 (V.alloc (.cells #[.int .u32 10] t)) (.slice (some ⟨V.heap.size, 0, none⟩) 1 1) [10] := sl_one V 10 t
theorem sl_next (V : World) (o : Obj) (x : Nat) (t : TypeId) : Sl .u32 ((V.alloc o).alloc (.cells #[.int .u32 (x : Int)] t)) (.slice (some ⟨V.heap.size + 1, 0, none⟩) 1 1) [x] := by
  have := sl_one (V.alloc o) x t
  rwa [World.size_alloc] at this

set_option maxRecDepth 100000 in
set_option maxHeartbeats 8000000 in
theorem rparse_numB (s : ByteArray) (w : World) (hs : s.size ≤ 3000) (hn : Num (nums s)) (hc : (nums s)[0]?.getD 0 = 45) (h0 : 0 < s.size) :
    Calls Try.prog 30 #[.string s] w fun e w' => ∃ neg a n cap k, e = .returned (.tuple #[.agg #[.bool neg, .slice a n cap], .int .i64 k]) ∧ Res w.heap.size w' (.agg #[.bool neg, .slice a n cap]) k (zv true (dn (dg (nums s)))) ∧ Below w.heap.size w w' := by
  have hl := nums_length s
  have hb0 := below_alloc w (.cells #[.bool false, .slice none 0 0] 24)
  have hR0 := Box2.new w false none 0 0 24
  have hE0 : s.toList.isEmpty = false := by rw [str_empty]; exact decide_eq_false (by omega)
  have hi : ∀ w, (Instr.index 9 (.string s) (.int .i64 0)).run Try.prog w = .ok (.int .u8 (((nums s)[0]?.getD 0 : Nat) : Int)) w := index_str s 0 (by omega)
  obtain ⟨d0, hd0⟩ : ∃ d, (nums s)[0]?.getD 0 = d := ⟨_, rfl⟩
  rw [hd0] at hi
  have t2 : ((d0 : Int) == 45) = true := by rw [hd0] at hc; simp; omega
  clear hd0
  have hsg : sg (nums s) = true := sg_true hc
  have hne := nums_extract s
  have hlt := nums_length (s.extract 1 s.size)
  have hdg : dg (nums s) = nums (s.extract 1 s.size) := by unfold dg; rw [hsg, hne]; rfl
  have h1s : 1 ≤ s.size := by omega
  have hsz : (s.extract 1 s.size).size ≤ 3000 := by rw [← hlt, hne, List.length_drop]; omega
  obtain ⟨t, ht⟩ : ∃ t, s.extract 1 s.size = t := ⟨_, rfl⟩
  rw [ht] at hdg hlt hsz
  have hdig : isDig (nums t) := by have := hn.1; rw [hdg] at this; exact this
  have HA : Hid (∀ j, j < (nums t).length → 48 ≤ (nums t)[j]?.getD 0 ∧ (nums t)[j]?.getD 0 ≤ 57) := hdig.2.2
  have hpos : 0 < t.size := by rw [← hlt]; exact List.length_pos_iff.2 hdig.1
  have hE : t.toList.isEmpty = false := by rw [str_empty]; exact decide_eq_false (by omega)
  have HX : Hid (∀ i, i < t.size → ∀ w, (Instr.index 9 (.string t) (.int .i64 (i : Int))).run Try.prog w = .ok (.int .u8 (((nums t)[i]?.getD 0 : Nat) : Int)) w) := index_str t
  rw [hdg]
  have hit : ∀ w, (Instr.index 9 (.string t) (.int .i64 0)).run Try.prog w = .ok (.int .u8 (((nums t)[0]?.getD 0 : Nat) : Int)) w := index_str t 0 (by omega)
  obtain ⟨c0, hc0⟩ : ∃ d, (nums t)[0]?.getD 0 = d := ⟨_, rfl⟩
  rw [hc0] at hit
  have h48 : ¬ c0 = 48 := fun e => by
    have h2 : ¬ 1 < (nums t).length := fun h => hdig.2.1 ⟨hc0.trans e, h⟩
    have h3 : (nums t).length = 1 := by omega
    apply hn.2
    refine ⟨hsg, ?_⟩
    rw [hdg]
    cases hq : nums t with
    | nil => rw [hq] at h3; simp at h3
    | cons u us =>
      rw [hq] at h3 hc0
      simp at h3 hc0
      rw [h3, hc0, e]
  have t7 : ((c0 : Int) == 48) = false := by simp; omega
  clear hc0
  go_enter Try.func30, Try.ntmps30
  go_upto_region 1 with fail
  obtain ⟨w0, hW⟩ : ∃ w0, w.alloc (.cells #[.bool false, .slice none 0 0] 24) = w0 := ⟨_, rfl⟩
  rw [hW] at hb0 hR0 ⊢
  clear hW
  have hfin := hR0.put false none 0 0
  have hg0 := hfin.c0
  have hg1 := hfin.c1
  unfold put2 at hg0 hg1
  have r0 := hR0.c0
  have r1 := hR0.c1
  have rf0 := hR0.f0
  have rf1 := hR0.f1
  clear hn hsg hdg hl hdig
  go_wp2_with fail
  go_loop [6] (fun i => ∃ k : Nat, k ≤ t.size ∧ i = .int .i64 (k : Int)) (fun i => t.size - (intOf i).toNat)
  case atStart => exact ⟨0, Nat.zero_le _, rfl⟩
  case round =>
    obtain ⟨k, hk, rfl⟩ := hrel
    by_cases hlk : k < t.size
    · have hik := HX.out k hlk
      have hdk := HA.out k (by rw [hlt]; exact hlk)
      obtain ⟨d, hd⟩ : ∃ d, (nums t)[k]?.getD 0 = d := ⟨_, rfl⟩
      rw [hd] at hik hdk
      have t9 : (k : Int) < t.size := by omega
      have t10 : ¬ (d : Int) < 48 := by omega
      have t11 : ¬ (57 : Int) < d := by omega
      clear hd
      go_wp2_with fail
      go_round
      case rel => exact ⟨k + 1, by omega, by go_num⟩
      case measure => simp [intOf]; omega
    · obtain rfl : k = t.size := by omega
      have t9 : ¬ (t.size : Int) < t.size := by omega
      clear hlk hk
      go_wp2_with fail
      go_loopw [7, 8] (fun m i wr => ∃ (k : Nat) (a : Option Addr) (n c : Nat) (ms : List Nat), k ≤ t.size ∧ i = .int .i64 (k : Int) ∧ m = .slice a n c ∧ Sl .u32 wr (.slice a n c) ms ∧ okw ms ∧ Tr ms ∧ ms.length ≤ 256 ∧ val ms = dn ((nums t).take k) ∧ Box2 wr w.heap.size false none 0 0 ∧ Below w.heap.size w wr) (fun _ i _ => t.size - (intOf i).toNat)
      case atStart => exact ⟨0, none, 0, 0, [], Nat.zero_le _, rfl, rfl, Sl_nil _ _ _ _, okw_nil, Or.inl rfl, by simp, by simp [val, dn, dval], hR0, hb0⟩
      case round =>
        clear hR0 hb0 hfin hg0 hg1 r0 r1 rf0 rf1
        obtain ⟨k, a, n, c, ms, hk, rfl, rfl, hm, om, tm, lm, vm, hR, hb⟩ := hrel
        have lmn := hm.len
        subst lmn
        by_cases hlk : k < t.size
        · have hik := HX.out k hlk
          have hdk := HA.out k (by rw [hlt]; exact hlk)
          have HS : Hid (dn ((nums t).take (k + 1)) = dn ((nums t).take k) * 10 + ((nums t)[k]?.getD 0 - 48)) := dn_take_succ (by omega)
          obtain ⟨d, hd⟩ : ∃ d, (nums t)[k]?.getD 0 = d := ⟨_, rfl⟩
          rw [hd] at hik hdk HS
          obtain ⟨x, hx⟩ : ∃ x, d - 48 = x := ⟨_, rfl⟩
          rw [hx, ← vm] at HS
          have e1 : (d : Int) - 48 = (x : Int) := by omega
          have hx9 : x ≤ 9 := by omega
          have e8 : IntKind.u8.wrap (x : Int) = (x : Int) := by rw [IntKind.wrap_u8]; omega
          have e32 : IntKind.u32.wrap (x : Int) = (x : Int) := by rw [IntKind.wrap_u32]; omega
          have t9 : (k : Int) < t.size := by omega
          clear hd vm
          go_wp2_with fail
          go_cut [7] from 58 to 68 (fun v W => ∃ (a : Option Addr) (n c : Nat) (zs : List Nat), v = .slice a n c ∧ Sl .u32 W (.slice a n c) zs ∧ okw zs ∧ Tr zs ∧ zs.length ≤ 100001 ∧ val zs = val ms * 10 + x ∧ Below wr.heap.size wr W)
          case first =>
            rename_i J K hJ hK
            go_region_held3 (fun W => Below wr.heap.size wr W)
              (first | (with_reducible assumption) | (with_reducible exact sb_start wr) | (with_reducible exact sb_call (by assumption) hb1) | (with_reducible exact sb_call (by assumption) hb2) | (with_reducible exact sb_call (by assumption) hb3) | (with_reducible exact sb_alloc (by assumption) _) | (with_reducible exact (below_alloc _ _).drew) | (with_reducible exact (sb_alloc (below_alloc _ _) _).drew) | exact sb_start wr | fail)
              (first | (go_at_call 50; (with_reducible show Calls Try.prog _ _ ((wr.alloc _).drew) _); refine (rtimes_any a (some ⟨wr.heap.size, 0, none⟩) ms.length c 1 1 ms [10] (wr.alloc (.cells #[.int .u32 10] 55)).drew (hm.below (below_alloc wr _).drew) ((sl_ten wr 55).below below_drew) (by omega) (by simp) om (okw_one (by omega))).mono ?_; rintro e w1 ⟨a1, m1, c1, P, rfl, l1, oP, kP, vP, hb1⟩; have HP : Hid (val P = val ms * 10) := (by show _ = _; rw [vP]; simp [val]); clear vP)
                     | (go_at_call 50; (with_reducible show Calls Try.prog _ #[_, .slice (some ⟨wr.heap.size, 0, none⟩) 1 1] (((wr.alloc _).alloc _).drew) _); refine (rtimes_any a (some ⟨wr.heap.size, 0, none⟩) ms.length c 1 1 ms [10] ((wr.alloc (.cells #[.int .u32 10] 55)).alloc (.cells #[.int .u32 (x : Int)] 55)).drew (hm.below (sb_alloc (below_alloc wr _) _).drew) (((sl_ten wr 55).below (below_alloc _ _)).below below_drew) (by omega) (by simp) om (okw_one (by omega))).mono ?_; rintro e w1 ⟨a1, m1, c1, P, rfl, l1, oP, kP, vP, hb1⟩; have HP : Hid (val P = val ms * 10) := (by show _ = _; rw [vP]; simp [val]); clear vP; have hX1 := ((sl_next wr (.cells #[.int .u32 10] 55) x 55).below below_drew).below hb1)
                     | (go_at_call 50; (with_reducible show Calls Try.prog _ #[_, .slice (some ⟨wr.heap.size + 1, 0, none⟩) 1 1] (((wr.alloc _).alloc _).drew) _); refine (rtimes_any a (some ⟨wr.heap.size + 1, 0, none⟩) ms.length c 1 1 ms [10] ((wr.alloc (.cells #[.int .u32 (x : Int)] 55)).alloc (.cells #[.int .u32 10] 55)).drew (hm.below (sb_alloc (below_alloc wr _) _).drew) ((sl_next wr (.cells #[.int .u32 (x : Int)] 55) 10 55).below below_drew) (by omega) (by simp) om (okw_one (by omega))).mono ?_; rintro e w1 ⟨a1, m1, c1, P, rfl, l1, oP, kP, vP, hb1⟩; have HP : Hid (val P = val ms * 10) := (by show _ = _; rw [vP]; simp [val]); clear vP; have hX1 := (((sl_one wr x 55).below (below_alloc _ (.cells #[.int .u32 10] 55))).below below_drew).below hb1)
                     | (go_at_call 67; (with_reducible show Calls Try.prog _ _ w1 _); refine (rplus_any a1 _ m1 c1 1 1 P [x] w1 oP.sl hX1 (by rw [← oP.len]; omega) (by simp) kP (okw_one (by omega))).mono ?_; rintro e w2 ⟨v2, Z, rfl, hZ, kZ, vZ, lZ, hb2⟩; obtain ⟨a2, c2, rfl⟩ := hZ.form; have HZ : Hid (val Z = val ms * 10 + x) := (by show _ = _; rw [vZ, HP.out]; simp [val]); clear vZ)
                     | (go_at_call 67; (with_reducible show Calls Try.prog _ _ (w1.alloc _) _); refine (rplus_any a1 (some ⟨w1.heap.size, 0, none⟩) m1 c1 1 1 P [x] (w1.alloc (.cells #[.int .u32 (x : Int)] 55)) (oP.sl.below (below_alloc _ _)) (sl_one w1 x 55) (by rw [← oP.len]; omega) (by simp) kP (okw_one (by omega))).mono ?_; rintro e w2 ⟨v2, Z, rfl, hZ, kZ, vZ, lZ, hb2⟩; obtain ⟨a2, c2, rfl⟩ := hZ.form; have HZ : Hid (val Z = val ms * 10 + x) := (by show _ = _; rw [vZ, HP.out]; simp [val]); clear vZ)
                     | (go_at_call 66; refine (rtrim_any a2 Z.length c2 Z w2 hZ.ow.sl (by omega)).mono ?_; rintro e w3 ⟨a3, c3, rfl, hw3, hnil3, hb3⟩)
                     | fail)
            all_goals (refine hK _ _ (Met.intro (hJ _ _ ?_)); (repeat apply Exists.intro); refine ⟨?_, rfl⟩; rename_i hHeld; exact ⟨_, _, _, trimL Z, rfl, hw3.ow.sl, okw_trimL kZ, Tr_trimL Z, Nat.le_trans (trimL_le Z) lZ, by rw [val_trimL]; exact HZ.out, hHeld⟩)
          case rest =>
            obtain ⟨a3, n3, c3, zs, rfl, hz, kz, tz, lz, vz, hbz⟩ := hcut
            have ln := hz.len
            subst ln
            have hR' := hR.below hbz
            have hb' : Below w.heap.size w wc := hb.trans (hbz.mono hb.size)
            have HV : Hid (val zs = dn ((nums t).take (k + 1))) := vz.trans HS.out.symm
            clear hm om tm lm vz hbz hR hb hik e1 e8 e32
            by_cases hbig : 256 < zs.length
            · have t12 : (256 : Int) < zs.length := by omega
              have hge : pw 256 ≤ (zv true (dn (nums t))).natAbs := by
                rw [zv_abs]
                have h1 : pw 256 ≤ val zs := Nat.not_lt.1 (fun h => by have := Tr_len_le tz 256 h; omega)
                rw [HV.out] at h1
                exact Nat.le_trans h1 dn_mono
              have HG : Hid (Res w.heap.size (put2 wc w.heap.size false (.slice none 0 0)) (.agg #[.bool false, .slice none 0 0]) 3 (zv true (dn (nums t)))) := Or.inr ⟨hge, rfl, rfl⟩
              have hfin := hR'.put false none 0 0
              have hg0 := hfin.c0
              have hg1 := hfin.c1
              unfold put2 at hg0 hg1
              have r0 := hR'.c0
              have r1 := hR'.c1
              have rf0 := hR'.f0
              have rf1 := hR'.f1
              clear hge hbig hz kz tz
              go_wp2
              refine bodyPost_ret (v := .tuple #[.agg #[.bool false, .slice none 0 0], .int .i64 3]) ?_ rfl ⟨_, _, _, _, _, rfl, HG.out, below_put2 (N := w.heap.size) hb' (Nat.le_refl _) _ _⟩
              simp [results, Try.f30, go_sem, hg0, hg1]
            · have t12 : ¬ (256 : Int) < zs.length := by omega
              go_wp2_with fail
              go_roundw
              case rel => exact ⟨k + 1, a3, zs.length, c3, zs, by omega, by go_num, rfl, hz, kz, tz, by omega, HV.out, hR', hb'⟩
              case measure => simp [intOf]; omega
        · obtain rfl : k = t.size := by omega
          have t9 : ¬ (t.size : Int) < t.size := by omega
          rw [List.take_of_length_le (by omega)] at vm
          have hab : (zv true (val ms)).natAbs < pw 256 := by rw [zv_abs]; exact Nat.lt_of_lt_of_le (val_lt om) (pw_mono lm)
          have HM : Hid (val ms = dn (nums t)) := vm
          clear vm
          go_wp2_with fail
          refine (rmade_any true a ms.length c ms wr hm om (by omega)).mono ?_
          rintro e w3 ⟨n3, a3, l3, c3, rfl, hI, hb3⟩
          have hR3 := hR.below hb3
          have s0 := hR3.c0
          have s1 := hR3.c1
          have sf0 := hR3.f0
          have sf1 := hR3.f1
          have hfin := hR3.put n3 a3 l3 c3
          have hg0 := hfin.c0
          have hg1 := hfin.c1
          unfold put2 at hg0 hg1
          have hBw : Below w.heap.size w w3 := hb.trans (hb3.mono hb.size)
          have hres : Res w.heap.size (put2 w3 w.heap.size n3 (.slice a3 l3 c3)) (.agg #[.bool n3, .slice a3 l3 c3]) 0 (zv true (val ms)) := Or.inl ⟨hab, rfl, (hI.mono (B' := w.heap.size) hb.size).put hR3 n3 (.slice a3 l3 c3)⟩
          rw [HM.out] at hres
          have HG : Hid (Res w.heap.size (put2 w3 w.heap.size n3 (.slice a3 l3 c3)) (.agg #[.bool n3, .slice a3 l3 c3]) 0 (zv true (dn (nums t)))) := hres
          clear hres hI hm om tm hR
          go_wp2
          refine bodyPost_ret (v := .tuple #[.agg #[.bool n3, .slice a3 l3 c3], .int .i64 0]) ?_ rfl ⟨_, _, _, _, _, rfl, HG.out, below_put2 (N := w.heap.size) hBw (Nat.le_refl _) _ _⟩
          simp [results, Try.f30, go_sem, hg0, hg1]

set_option maxRecDepth 100000 in
set_option maxHeartbeats 8000000 in
theorem rparse_numA (s : ByteArray) (w : World) (hs : s.size ≤ 3000) (hn : Num (nums s)) (hc : ¬ (nums s)[0]?.getD 0 = 45) (h0 : 0 < s.size) :
    Calls Try.prog 30 #[.string s] w fun e w' => ∃ neg a n cap k, e = .returned (.tuple #[.agg #[.bool neg, .slice a n cap], .int .i64 k]) ∧ Res w.heap.size w' (.agg #[.bool neg, .slice a n cap]) k (zv false (dn (dg (nums s)))) ∧ Below w.heap.size w w' := by
  have hl := nums_length s
  have hb0 := below_alloc w (.cells #[.bool false, .slice none 0 0] 24)
  have hR0 := Box2.new w false none 0 0 24
  have hE0 : s.toList.isEmpty = false := by rw [str_empty]; exact decide_eq_false (by omega)
  have hi : ∀ w, (Instr.index 9 (.string s) (.int .i64 0)).run Try.prog w = .ok (.int .u8 (((nums s)[0]?.getD 0 : Nat) : Int)) w := index_str s 0 (by omega)
  obtain ⟨d0, hd0⟩ : ∃ d, (nums s)[0]?.getD 0 = d := ⟨_, rfl⟩
  rw [hd0] at hi
  have t2 : ((d0 : Int) == 45) = false := by rw [hd0] at hc; simp; omega
  have hsg : sg (nums s) = false := sg_false hc
  have hdg : dg (nums s) = nums s := by unfold dg; rw [hsg]; rfl
  have hlt := nums_length s
  have hsz : s.size ≤ 3000 := hs
  have hdig : isDig (nums s) := by have := hn.1; rw [hdg] at this; exact this
  have HA : Hid (∀ j, j < (nums s).length → 48 ≤ (nums s)[j]?.getD 0 ∧ (nums s)[j]?.getD 0 ≤ 57) := hdig.2.2
  have hpos : 0 < s.size := by rw [← hlt]; exact List.length_pos_iff.2 hdig.1
  have hE : s.toList.isEmpty = false := by rw [str_empty]; exact decide_eq_false (by omega)
  have HX : Hid (∀ i, i < s.size → ∀ w, (Instr.index 9 (.string s) (.int .i64 (i : Int))).run Try.prog w = .ok (.int .u8 (((nums s)[i]?.getD 0 : Nat) : Int)) w) := index_str s
  rw [hdg]
  go_enter Try.func30, Try.ntmps30
  go_upto_region 1 with fail
  obtain ⟨w0, hW⟩ : ∃ w0, w.alloc (.cells #[.bool false, .slice none 0 0] 24) = w0 := ⟨_, rfl⟩
  rw [hW] at hb0 hR0 ⊢
  clear hW
  have hfin := hR0.put false none 0 0
  have hg0 := hfin.c0
  have hg1 := hfin.c1
  unfold put2 at hg0 hg1
  have r0 := hR0.c0
  have r1 := hR0.c1
  have rf0 := hR0.f0
  have rf1 := hR0.f1
  by_cases h48 : d0 = 48
  · have t7 : ((d0 : Int) == 48) = true := by rw [h48]; rfl
    have t8 : ¬ (1 : Int) < s.size := by have : ¬ 1 < (nums s).length := fun h => hdig.2.1 ⟨hd0.trans h48, h⟩; omega
    clear hd0
    clear hn hsg hdg hl hdig
    go_wp2_with fail
    go_loop [6] (fun i => ∃ k : Nat, k ≤ s.size ∧ i = .int .i64 (k : Int)) (fun i => s.size - (intOf i).toNat)
    case atStart => exact ⟨0, Nat.zero_le _, rfl⟩
    case round =>
      obtain ⟨k, hk, rfl⟩ := hrel
      by_cases hlk : k < s.size
      · have hik := HX.out k hlk
        have hdk := HA.out k (by rw [hlt]; exact hlk)
        obtain ⟨d, hd⟩ : ∃ d, (nums s)[k]?.getD 0 = d := ⟨_, rfl⟩
        rw [hd] at hik hdk
        have t9 : (k : Int) < s.size := by omega
        have t10 : ¬ (d : Int) < 48 := by omega
        have t11 : ¬ (57 : Int) < d := by omega
        clear hd
        go_wp2_with fail
        go_round
        case rel => exact ⟨k + 1, by omega, by go_num⟩
        case measure => simp [intOf]; omega
      · obtain rfl : k = s.size := by omega
        have t9 : ¬ (s.size : Int) < s.size := by omega
        clear hlk hk
        go_wp2_with fail
        go_loopw [7, 8] (fun m i wr => ∃ (k : Nat) (a : Option Addr) (n c : Nat) (ms : List Nat), k ≤ s.size ∧ i = .int .i64 (k : Int) ∧ m = .slice a n c ∧ Sl .u32 wr (.slice a n c) ms ∧ okw ms ∧ Tr ms ∧ ms.length ≤ 256 ∧ val ms = dn ((nums s).take k) ∧ Box2 wr w.heap.size false none 0 0 ∧ Below w.heap.size w wr) (fun _ i _ => s.size - (intOf i).toNat)
        case atStart => exact ⟨0, none, 0, 0, [], Nat.zero_le _, rfl, rfl, Sl_nil _ _ _ _, okw_nil, Or.inl rfl, by simp, by simp [val, dn, dval], hR0, hb0⟩
        case round =>
          clear hR0 hb0 hfin hg0 hg1 r0 r1 rf0 rf1
          obtain ⟨k, a, n, c, ms, hk, rfl, rfl, hm, om, tm, lm, vm, hR, hb⟩ := hrel
          have lmn := hm.len
          subst lmn
          by_cases hlk : k < s.size
          · have hik := HX.out k hlk
            have hdk := HA.out k (by rw [hlt]; exact hlk)
            have HS : Hid (dn ((nums s).take (k + 1)) = dn ((nums s).take k) * 10 + ((nums s)[k]?.getD 0 - 48)) := dn_take_succ (by omega)
            obtain ⟨d, hd⟩ : ∃ d, (nums s)[k]?.getD 0 = d := ⟨_, rfl⟩
            rw [hd] at hik hdk HS
            obtain ⟨x, hx⟩ : ∃ x, d - 48 = x := ⟨_, rfl⟩
            rw [hx, ← vm] at HS
            have e1 : (d : Int) - 48 = (x : Int) := by omega
            have hx9 : x ≤ 9 := by omega
            have e8 : IntKind.u8.wrap (x : Int) = (x : Int) := by rw [IntKind.wrap_u8]; omega
            have e32 : IntKind.u32.wrap (x : Int) = (x : Int) := by rw [IntKind.wrap_u32]; omega
            have t9 : (k : Int) < s.size := by omega
            clear hd vm
            go_wp2_with fail
            go_cut [7] from 58 to 68 (fun v W => ∃ (a : Option Addr) (n c : Nat) (zs : List Nat), v = .slice a n c ∧ Sl .u32 W (.slice a n c) zs ∧ okw zs ∧ Tr zs ∧ zs.length ≤ 100001 ∧ val zs = val ms * 10 + x ∧ Below wr.heap.size wr W)
            case first =>
              rename_i J K hJ hK
              go_region_held3 (fun W => Below wr.heap.size wr W)
                (first | (with_reducible assumption) | (with_reducible exact sb_start wr) | (with_reducible exact sb_call (by assumption) hb1) | (with_reducible exact sb_call (by assumption) hb2) | (with_reducible exact sb_call (by assumption) hb3) | (with_reducible exact sb_alloc (by assumption) _) | (with_reducible exact (below_alloc _ _).drew) | (with_reducible exact (sb_alloc (below_alloc _ _) _).drew) | exact sb_start wr | fail)
                (first | (go_at_call 50; (with_reducible show Calls Try.prog _ _ ((wr.alloc _).drew) _); refine (rtimes_any a (some ⟨wr.heap.size, 0, none⟩) ms.length c 1 1 ms [10] (wr.alloc (.cells #[.int .u32 10] 55)).drew (hm.below (below_alloc wr _).drew) ((sl_ten wr 55).below below_drew) (by omega) (by simp) om (okw_one (by omega))).mono ?_; rintro e w1 ⟨a1, m1, c1, P, rfl, l1, oP, kP, vP, hb1⟩; have HP : Hid (val P = val ms * 10) := (by show _ = _; rw [vP]; simp [val]); clear vP)
                       | (go_at_call 50; (with_reducible show Calls Try.prog _ #[_, .slice (some ⟨wr.heap.size, 0, none⟩) 1 1] (((wr.alloc _).alloc _).drew) _); refine (rtimes_any a (some ⟨wr.heap.size, 0, none⟩) ms.length c 1 1 ms [10] ((wr.alloc (.cells #[.int .u32 10] 55)).alloc (.cells #[.int .u32 (x : Int)] 55)).drew (hm.below (sb_alloc (below_alloc wr _) _).drew) (((sl_ten wr 55).below (below_alloc _ _)).below below_drew) (by omega) (by simp) om (okw_one (by omega))).mono ?_; rintro e w1 ⟨a1, m1, c1, P, rfl, l1, oP, kP, vP, hb1⟩; have HP : Hid (val P = val ms * 10) := (by show _ = _; rw [vP]; simp [val]); clear vP; have hX1 := ((sl_next wr (.cells #[.int .u32 10] 55) x 55).below below_drew).below hb1)
                       | (go_at_call 50; (with_reducible show Calls Try.prog _ #[_, .slice (some ⟨wr.heap.size + 1, 0, none⟩) 1 1] (((wr.alloc _).alloc _).drew) _); refine (rtimes_any a (some ⟨wr.heap.size + 1, 0, none⟩) ms.length c 1 1 ms [10] ((wr.alloc (.cells #[.int .u32 (x : Int)] 55)).alloc (.cells #[.int .u32 10] 55)).drew (hm.below (sb_alloc (below_alloc wr _) _).drew) ((sl_next wr (.cells #[.int .u32 (x : Int)] 55) 10 55).below below_drew) (by omega) (by simp) om (okw_one (by omega))).mono ?_; rintro e w1 ⟨a1, m1, c1, P, rfl, l1, oP, kP, vP, hb1⟩; have HP : Hid (val P = val ms * 10) := (by show _ = _; rw [vP]; simp [val]); clear vP; have hX1 := (((sl_one wr x 55).below (below_alloc _ (.cells #[.int .u32 10] 55))).below below_drew).below hb1)
                       | (go_at_call 67; (with_reducible show Calls Try.prog _ _ w1 _); refine (rplus_any a1 _ m1 c1 1 1 P [x] w1 oP.sl hX1 (by rw [← oP.len]; omega) (by simp) kP (okw_one (by omega))).mono ?_; rintro e w2 ⟨v2, Z, rfl, hZ, kZ, vZ, lZ, hb2⟩; obtain ⟨a2, c2, rfl⟩ := hZ.form; have HZ : Hid (val Z = val ms * 10 + x) := (by show _ = _; rw [vZ, HP.out]; simp [val]); clear vZ)
                       | (go_at_call 67; (with_reducible show Calls Try.prog _ _ (w1.alloc _) _); refine (rplus_any a1 (some ⟨w1.heap.size, 0, none⟩) m1 c1 1 1 P [x] (w1.alloc (.cells #[.int .u32 (x : Int)] 55)) (oP.sl.below (below_alloc _ _)) (sl_one w1 x 55) (by rw [← oP.len]; omega) (by simp) kP (okw_one (by omega))).mono ?_; rintro e w2 ⟨v2, Z, rfl, hZ, kZ, vZ, lZ, hb2⟩; obtain ⟨a2, c2, rfl⟩ := hZ.form; have HZ : Hid (val Z = val ms * 10 + x) := (by show _ = _; rw [vZ, HP.out]; simp [val]); clear vZ)
                       | (go_at_call 66; refine (rtrim_any a2 Z.length c2 Z w2 hZ.ow.sl (by omega)).mono ?_; rintro e w3 ⟨a3, c3, rfl, hw3, hnil3, hb3⟩)
                       | fail)
              all_goals (refine hK _ _ (Met.intro (hJ _ _ ?_)); (repeat apply Exists.intro); refine ⟨?_, rfl⟩; rename_i hHeld; exact ⟨_, _, _, trimL Z, rfl, hw3.ow.sl, okw_trimL kZ, Tr_trimL Z, Nat.le_trans (trimL_le Z) lZ, by rw [val_trimL]; exact HZ.out, hHeld⟩)
            case rest =>
              obtain ⟨a3, n3, c3, zs, rfl, hz, kz, tz, lz, vz, hbz⟩ := hcut
              have ln := hz.len
              subst ln
              have hR' := hR.below hbz
              have hb' : Below w.heap.size w wc := hb.trans (hbz.mono hb.size)
              have HV : Hid (val zs = dn ((nums s).take (k + 1))) := vz.trans HS.out.symm
              clear hm om tm lm vz hbz hR hb hik e1 e8 e32
              by_cases hbig : 256 < zs.length
              · have t12 : (256 : Int) < zs.length := by omega
                have hge : pw 256 ≤ (zv false (dn (nums s))).natAbs := by
                  rw [zv_abs]
                  have h1 : pw 256 ≤ val zs := Nat.not_lt.1 (fun h => by have := Tr_len_le tz 256 h; omega)
                  rw [HV.out] at h1
                  exact Nat.le_trans h1 dn_mono
                have HG : Hid (Res w.heap.size (put2 wc w.heap.size false (.slice none 0 0)) (.agg #[.bool false, .slice none 0 0]) 3 (zv false (dn (nums s)))) := Or.inr ⟨hge, rfl, rfl⟩
                have hfin := hR'.put false none 0 0
                have hg0 := hfin.c0
                have hg1 := hfin.c1
                unfold put2 at hg0 hg1
                have r0 := hR'.c0
                have r1 := hR'.c1
                have rf0 := hR'.f0
                have rf1 := hR'.f1
                clear hge hbig hz kz tz
                go_wp2
                refine bodyPost_ret (v := .tuple #[.agg #[.bool false, .slice none 0 0], .int .i64 3]) ?_ rfl ⟨_, _, _, _, _, rfl, HG.out, below_put2 (N := w.heap.size) hb' (Nat.le_refl _) _ _⟩
                simp [results, Try.f30, go_sem, hg0, hg1]
              · have t12 : ¬ (256 : Int) < zs.length := by omega
                go_wp2_with fail
                go_roundw
                case rel => exact ⟨k + 1, a3, zs.length, c3, zs, by omega, by go_num, rfl, hz, kz, tz, by omega, HV.out, hR', hb'⟩
                case measure => simp [intOf]; omega
          · obtain rfl : k = s.size := by omega
            have t9 : ¬ (s.size : Int) < s.size := by omega
            rw [List.take_of_length_le (by omega)] at vm
            have hab : (zv false (val ms)).natAbs < pw 256 := by rw [zv_abs]; exact Nat.lt_of_lt_of_le (val_lt om) (pw_mono lm)
            have HM : Hid (val ms = dn (nums s)) := vm
            clear vm
            go_wp2_with fail
            refine (rmade_any false a ms.length c ms wr hm om (by omega)).mono ?_
            rintro e w3 ⟨n3, a3, l3, c3, rfl, hI, hb3⟩
            have hR3 := hR.below hb3
            have s0 := hR3.c0
            have s1 := hR3.c1
            have sf0 := hR3.f0
            have sf1 := hR3.f1
            have hfin := hR3.put n3 a3 l3 c3
            have hg0 := hfin.c0
            have hg1 := hfin.c1
            unfold put2 at hg0 hg1
            have hBw : Below w.heap.size w w3 := hb.trans (hb3.mono hb.size)
            have hres : Res w.heap.size (put2 w3 w.heap.size n3 (.slice a3 l3 c3)) (.agg #[.bool n3, .slice a3 l3 c3]) 0 (zv false (val ms)) := Or.inl ⟨hab, rfl, (hI.mono (B' := w.heap.size) hb.size).put hR3 n3 (.slice a3 l3 c3)⟩
            rw [HM.out] at hres
            have HG : Hid (Res w.heap.size (put2 w3 w.heap.size n3 (.slice a3 l3 c3)) (.agg #[.bool n3, .slice a3 l3 c3]) 0 (zv false (dn (nums s)))) := hres
            clear hres hI hm om tm hR
            go_wp2
            refine bodyPost_ret (v := .tuple #[.agg #[.bool n3, .slice a3 l3 c3], .int .i64 0]) ?_ rfl ⟨_, _, _, _, _, rfl, HG.out, below_put2 (N := w.heap.size) hBw (Nat.le_refl _) _ _⟩
            simp [results, Try.f30, go_sem, hg0, hg1]
  · have t7 : ((d0 : Int) == 48) = false := by simp; omega
    clear hd0
    clear hn hsg hdg hl hdig
    go_wp2_with fail
    go_loop [6] (fun i => ∃ k : Nat, k ≤ s.size ∧ i = .int .i64 (k : Int)) (fun i => s.size - (intOf i).toNat)
    case atStart => exact ⟨0, Nat.zero_le _, rfl⟩
    case round =>
      obtain ⟨k, hk, rfl⟩ := hrel
      by_cases hlk : k < s.size
      · have hik := HX.out k hlk
        have hdk := HA.out k (by rw [hlt]; exact hlk)
        obtain ⟨d, hd⟩ : ∃ d, (nums s)[k]?.getD 0 = d := ⟨_, rfl⟩
        rw [hd] at hik hdk
        have t9 : (k : Int) < s.size := by omega
        have t10 : ¬ (d : Int) < 48 := by omega
        have t11 : ¬ (57 : Int) < d := by omega
        clear hd
        go_wp2_with fail
        go_round
        case rel => exact ⟨k + 1, by omega, by go_num⟩
        case measure => simp [intOf]; omega
      · obtain rfl : k = s.size := by omega
        have t9 : ¬ (s.size : Int) < s.size := by omega
        clear hlk hk
        go_wp2_with fail
        go_loopw [7, 8] (fun m i wr => ∃ (k : Nat) (a : Option Addr) (n c : Nat) (ms : List Nat), k ≤ s.size ∧ i = .int .i64 (k : Int) ∧ m = .slice a n c ∧ Sl .u32 wr (.slice a n c) ms ∧ okw ms ∧ Tr ms ∧ ms.length ≤ 256 ∧ val ms = dn ((nums s).take k) ∧ Box2 wr w.heap.size false none 0 0 ∧ Below w.heap.size w wr) (fun _ i _ => s.size - (intOf i).toNat)
        case atStart => exact ⟨0, none, 0, 0, [], Nat.zero_le _, rfl, rfl, Sl_nil _ _ _ _, okw_nil, Or.inl rfl, by simp, by simp [val, dn, dval], hR0, hb0⟩
        case round =>
          clear hR0 hb0 hfin hg0 hg1 r0 r1 rf0 rf1
          obtain ⟨k, a, n, c, ms, hk, rfl, rfl, hm, om, tm, lm, vm, hR, hb⟩ := hrel
          have lmn := hm.len
          subst lmn
          by_cases hlk : k < s.size
          · have hik := HX.out k hlk
            have hdk := HA.out k (by rw [hlt]; exact hlk)
            have HS : Hid (dn ((nums s).take (k + 1)) = dn ((nums s).take k) * 10 + ((nums s)[k]?.getD 0 - 48)) := dn_take_succ (by omega)
            obtain ⟨d, hd⟩ : ∃ d, (nums s)[k]?.getD 0 = d := ⟨_, rfl⟩
            rw [hd] at hik hdk HS
            obtain ⟨x, hx⟩ : ∃ x, d - 48 = x := ⟨_, rfl⟩
            rw [hx, ← vm] at HS
            have e1 : (d : Int) - 48 = (x : Int) := by omega
            have hx9 : x ≤ 9 := by omega
            have e8 : IntKind.u8.wrap (x : Int) = (x : Int) := by rw [IntKind.wrap_u8]; omega
            have e32 : IntKind.u32.wrap (x : Int) = (x : Int) := by rw [IntKind.wrap_u32]; omega
            have t9 : (k : Int) < s.size := by omega
            clear hd vm
            go_wp2_with fail
            go_cut [7] from 58 to 68 (fun v W => ∃ (a : Option Addr) (n c : Nat) (zs : List Nat), v = .slice a n c ∧ Sl .u32 W (.slice a n c) zs ∧ okw zs ∧ Tr zs ∧ zs.length ≤ 100001 ∧ val zs = val ms * 10 + x ∧ Below wr.heap.size wr W)
            case first =>
              rename_i J K hJ hK
              go_region_held3 (fun W => Below wr.heap.size wr W)
                (first | (with_reducible assumption) | (with_reducible exact sb_start wr) | (with_reducible exact sb_call (by assumption) hb1) | (with_reducible exact sb_call (by assumption) hb2) | (with_reducible exact sb_call (by assumption) hb3) | (with_reducible exact sb_alloc (by assumption) _) | (with_reducible exact (below_alloc _ _).drew) | (with_reducible exact (sb_alloc (below_alloc _ _) _).drew) | exact sb_start wr | fail)
                (first | (go_at_call 50; (with_reducible show Calls Try.prog _ _ ((wr.alloc _).drew) _); refine (rtimes_any a (some ⟨wr.heap.size, 0, none⟩) ms.length c 1 1 ms [10] (wr.alloc (.cells #[.int .u32 10] 55)).drew (hm.below (below_alloc wr _).drew) ((sl_ten wr 55).below below_drew) (by omega) (by simp) om (okw_one (by omega))).mono ?_; rintro e w1 ⟨a1, m1, c1, P, rfl, l1, oP, kP, vP, hb1⟩; have HP : Hid (val P = val ms * 10) := (by show _ = _; rw [vP]; simp [val]); clear vP)
                       | (go_at_call 50; (with_reducible show Calls Try.prog _ #[_, .slice (some ⟨wr.heap.size, 0, none⟩) 1 1] (((wr.alloc _).alloc _).drew) _); refine (rtimes_any a (some ⟨wr.heap.size, 0, none⟩) ms.length c 1 1 ms [10] ((wr.alloc (.cells #[.int .u32 10] 55)).alloc (.cells #[.int .u32 (x : Int)] 55)).drew (hm.below (sb_alloc (below_alloc wr _) _).drew) (((sl_ten wr 55).below (below_alloc _ _)).below below_drew) (by omega) (by simp) om (okw_one (by omega))).mono ?_; rintro e w1 ⟨a1, m1, c1, P, rfl, l1, oP, kP, vP, hb1⟩; have HP : Hid (val P = val ms * 10) := (by show _ = _; rw [vP]; simp [val]); clear vP; have hX1 := ((sl_next wr (.cells #[.int .u32 10] 55) x 55).below below_drew).below hb1)
                       | (go_at_call 50; (with_reducible show Calls Try.prog _ #[_, .slice (some ⟨wr.heap.size + 1, 0, none⟩) 1 1] (((wr.alloc _).alloc _).drew) _); refine (rtimes_any a (some ⟨wr.heap.size + 1, 0, none⟩) ms.length c 1 1 ms [10] ((wr.alloc (.cells #[.int .u32 (x : Int)] 55)).alloc (.cells #[.int .u32 10] 55)).drew (hm.below (sb_alloc (below_alloc wr _) _).drew) ((sl_next wr (.cells #[.int .u32 (x : Int)] 55) 10 55).below below_drew) (by omega) (by simp) om (okw_one (by omega))).mono ?_; rintro e w1 ⟨a1, m1, c1, P, rfl, l1, oP, kP, vP, hb1⟩; have HP : Hid (val P = val ms * 10) := (by show _ = _; rw [vP]; simp [val]); clear vP; have hX1 := (((sl_one wr x 55).below (below_alloc _ (.cells #[.int .u32 10] 55))).below below_drew).below hb1)
                       | (go_at_call 67; (with_reducible show Calls Try.prog _ _ w1 _); refine (rplus_any a1 _ m1 c1 1 1 P [x] w1 oP.sl hX1 (by rw [← oP.len]; omega) (by simp) kP (okw_one (by omega))).mono ?_; rintro e w2 ⟨v2, Z, rfl, hZ, kZ, vZ, lZ, hb2⟩; obtain ⟨a2, c2, rfl⟩ := hZ.form; have HZ : Hid (val Z = val ms * 10 + x) := (by show _ = _; rw [vZ, HP.out]; simp [val]); clear vZ)
                       | (go_at_call 67; (with_reducible show Calls Try.prog _ _ (w1.alloc _) _); refine (rplus_any a1 (some ⟨w1.heap.size, 0, none⟩) m1 c1 1 1 P [x] (w1.alloc (.cells #[.int .u32 (x : Int)] 55)) (oP.sl.below (below_alloc _ _)) (sl_one w1 x 55) (by rw [← oP.len]; omega) (by simp) kP (okw_one (by omega))).mono ?_; rintro e w2 ⟨v2, Z, rfl, hZ, kZ, vZ, lZ, hb2⟩; obtain ⟨a2, c2, rfl⟩ := hZ.form; have HZ : Hid (val Z = val ms * 10 + x) := (by show _ = _; rw [vZ, HP.out]; simp [val]); clear vZ)
                       | (go_at_call 66; refine (rtrim_any a2 Z.length c2 Z w2 hZ.ow.sl (by omega)).mono ?_; rintro e w3 ⟨a3, c3, rfl, hw3, hnil3, hb3⟩)
                       | fail)
              all_goals (refine hK _ _ (Met.intro (hJ _ _ ?_)); (repeat apply Exists.intro); refine ⟨?_, rfl⟩; rename_i hHeld; exact ⟨_, _, _, trimL Z, rfl, hw3.ow.sl, okw_trimL kZ, Tr_trimL Z, Nat.le_trans (trimL_le Z) lZ, by rw [val_trimL]; exact HZ.out, hHeld⟩)
            case rest =>
              obtain ⟨a3, n3, c3, zs, rfl, hz, kz, tz, lz, vz, hbz⟩ := hcut
              have ln := hz.len
              subst ln
              have hR' := hR.below hbz
              have hb' : Below w.heap.size w wc := hb.trans (hbz.mono hb.size)
              have HV : Hid (val zs = dn ((nums s).take (k + 1))) := vz.trans HS.out.symm
              clear hm om tm lm vz hbz hR hb hik e1 e8 e32
              by_cases hbig : 256 < zs.length
              · have t12 : (256 : Int) < zs.length := by omega
                have hge : pw 256 ≤ (zv false (dn (nums s))).natAbs := by
                  rw [zv_abs]
                  have h1 : pw 256 ≤ val zs := Nat.not_lt.1 (fun h => by have := Tr_len_le tz 256 h; omega)
                  rw [HV.out] at h1
                  exact Nat.le_trans h1 dn_mono
                have HG : Hid (Res w.heap.size (put2 wc w.heap.size false (.slice none 0 0)) (.agg #[.bool false, .slice none 0 0]) 3 (zv false (dn (nums s)))) := Or.inr ⟨hge, rfl, rfl⟩
                have hfin := hR'.put false none 0 0
                have hg0 := hfin.c0
                have hg1 := hfin.c1
                unfold put2 at hg0 hg1
                have r0 := hR'.c0
                have r1 := hR'.c1
                have rf0 := hR'.f0
                have rf1 := hR'.f1
                clear hge hbig hz kz tz
                go_wp2
                refine bodyPost_ret (v := .tuple #[.agg #[.bool false, .slice none 0 0], .int .i64 3]) ?_ rfl ⟨_, _, _, _, _, rfl, HG.out, below_put2 (N := w.heap.size) hb' (Nat.le_refl _) _ _⟩
                simp [results, Try.f30, go_sem, hg0, hg1]
              · have t12 : ¬ (256 : Int) < zs.length := by omega
                go_wp2_with fail
                go_roundw
                case rel => exact ⟨k + 1, a3, zs.length, c3, zs, by omega, by go_num, rfl, hz, kz, tz, by omega, HV.out, hR', hb'⟩
                case measure => simp [intOf]; omega
          · obtain rfl : k = s.size := by omega
            have t9 : ¬ (s.size : Int) < s.size := by omega
            rw [List.take_of_length_le (by omega)] at vm
            have hab : (zv false (val ms)).natAbs < pw 256 := by rw [zv_abs]; exact Nat.lt_of_lt_of_le (val_lt om) (pw_mono lm)
            have HM : Hid (val ms = dn (nums s)) := vm
            clear vm
            go_wp2_with fail
            refine (rmade_any false a ms.length c ms wr hm om (by omega)).mono ?_
            rintro e w3 ⟨n3, a3, l3, c3, rfl, hI, hb3⟩
            have hR3 := hR.below hb3
            have s0 := hR3.c0
            have s1 := hR3.c1
            have sf0 := hR3.f0
            have sf1 := hR3.f1
            have hfin := hR3.put n3 a3 l3 c3
            have hg0 := hfin.c0
            have hg1 := hfin.c1
            unfold put2 at hg0 hg1
            have hBw : Below w.heap.size w w3 := hb.trans (hb3.mono hb.size)
            have hres : Res w.heap.size (put2 w3 w.heap.size n3 (.slice a3 l3 c3)) (.agg #[.bool n3, .slice a3 l3 c3]) 0 (zv false (val ms)) := Or.inl ⟨hab, rfl, (hI.mono (B' := w.heap.size) hb.size).put hR3 n3 (.slice a3 l3 c3)⟩
            rw [HM.out] at hres
            have HG : Hid (Res w.heap.size (put2 w3 w.heap.size n3 (.slice a3 l3 c3)) (.agg #[.bool n3, .slice a3 l3 c3]) 0 (zv false (dn (nums s)))) := hres
            clear hres hI hm om tm hR
            go_wp2
            refine bodyPost_ret (v := .tuple #[.agg #[.bool n3, .slice a3 l3 c3], .int .i64 0]) ?_ rfl ⟨_, _, _, _, _, rfl, HG.out, below_put2 (N := w.heap.size) hBw (Nat.le_refl _) _ _⟩
            simp [results, Try.f30, go_sem, hg0, hg1]

/-- The reference's Parse: of any text that is not too long. -/
theorem rparse_any (s : ByteArray) (w : World) (hs : s.size ≤ 3000) :
    Calls Try.prog 30 #[.string s] w fun e w' => ∃ neg a n cap k, e = .returned (.tuple #[.agg #[.bool neg, .slice a n cap], .int .i64 k]) ∧ ParseRes w.heap.size w' (.agg #[.bool neg, .slice a n cap]) k (nums s) ∧ Below w.heap.size w w' := by
  by_cases hn : Num (nums s)
  · have hne : (dg (nums s)).length ≠ 0 := fun e => hn.1.1 (List.eq_nil_of_length_eq_zero e)
    have h0 : 0 < s.size := by
      rw [← nums_length]
      unfold dg at hne
      split at hne
      · rw [List.length_drop] at hne; omega
      · omega
    by_cases hc : (nums s)[0]?.getD 0 = 45
    · refine (rparse_numB s w hs hn hc h0).mono ?_
      rintro e w' ⟨n, a, l, c, k, rfl, hr, hbe⟩
      refine ⟨_, _, _, _, _, rfl, Or.inr ⟨hn, ?_⟩, hbe⟩
      unfold pz
      rw [sg_true hc]
      exact hr
    · refine (rparse_numA s w hs hn hc h0).mono ?_
      rintro e w' ⟨n, a, l, c, k, rfl, hr, hbe⟩
      refine ⟨_, _, _, _, _, rfl, Or.inr ⟨hn, ?_⟩, hbe⟩
      unfold pz
      rw [sg_false hc]
      exact hr
  · have fin : ∀ (e : Ending) (w' : World), (e = .returned (.tuple #[.agg #[.bool false, .slice none 0 0], .int .i64 4]) ∧ Below w.heap.size w w') → ∃ neg a n cap k, e = .returned (.tuple #[.agg #[.bool neg, .slice a n cap], .int .i64 k]) ∧ ParseRes w.heap.size w' (.agg #[.bool neg, .slice a n cap]) k (nums s) ∧ Below w.heap.size w w' := by
      rintro e w' ⟨rfl, hbe⟩
      exact ⟨_, _, _, _, _, rfl, Or.inl ⟨hn, rfl, rfl⟩, hbe⟩
    by_cases h0 : s.size = 0
    · exact (rparse_not0 s w hs hn (by rw [List.getElem?_eq_none (by rw [nums_length]; omega)]; simp) h0).mono fin
    · by_cases hc : (nums s)[0]?.getD 0 = 45
      · exact (rparse_notB s w hs hn hc (by omega)).mono fin
      · exact (rparse_notA s w hs hn hc (by omega)).mono fin
end Go.Proofs.Yteplmnnpmekngaa
