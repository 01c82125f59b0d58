/-
  SharedOwn, walked.
-/
import Derived.Test.YtmgachknfeamkaaGreatShOwn0
namespace Go.Proofs.YtmgachknfeamkaaGreat
open Go.RowKit Go.WideShapes

/-- Ahead of the i-th Set. -/
def OwI (w : World) (f s i : Nat) (W : World) : Prop :=
  ∃ F st v XF XS c, Fs W f F (.pointer none) XF s st v XS ∧ F.Ok hsT c ∧ Stn.Ok hsT F c st ∧ c ≤ i ∧ v ≤ i ∧ (∀ k, XF k → w.heap.size ≤ k) ∧ (∀ k, XS k → w.heap.size ≤ k) ∧ Below w.heap.size w W
theorem OwI.set {w W W' : World} {f s i : Nat} {F : Fa} {st : Stn} {v : Nat} {XF XS : Nat → Prop} {c : Nat} {nm : ByteArray} {x er : Int} (hO : F.Ok hsT c) (hst : Stn.Ok hsT F c st) (hc : c ≤ i) (hv : v ≤ i) (hi : i ≤ 60) (hXF : ∀ k, XF k → w.heap.size ≤ k) (hXS : ∀ k, XS k → w.heap.size ≤ k) (hB : Below w.heap.size w W) (hnm : nm.size ≤ 3000) (hq : SetQ W f F (.pointer none) no4 0 0 0 0 XF s st v XS nm x er W') : OwI w f s (i + 1) W' := by
  obtain ⟨F', st', dc, dd, hset, k, res, jj, _, _, XF', XS', R⟩ := hq
  obtain ⟨h1, h2, _⟩ := setR_ok hset hO hst hnm (by omega)
  have hs := hB.size
  refine ⟨F', st', _, XF', XS', c + 1, R.fs, h1, h2, by omega, by split <;> omega, fun k hk => ?_, fun k hk => ?_, hB.trans (R.ex.below (fun k hk => ?_) hs)⟩
  · rcases R.hf k hk with y | y
    · exact hXF k y
    · omega
  · rcases R.hs k hk with y | y
    · exact hXS k y
    · omega
  · rcases hk with y | y | y
    · exact hXF k y
    · exact hXS k y
    · exact (noMet y).elim
set_option maxRecDepth 100000 in
set_option maxHeartbeats 8000000 in
theorem sown10_walk (a : Option Addr) (n c : Nat) (G : Nat → ByteArray) (w : World) (hS : Strs w a n c G) :
    Calls Tryz.prog 8 #[.slice a n c] w fun e w' => e = .returned (.bool true) ∧ Below w.heap.size w w' := by
  obtain ⟨hcap, b, off, hab, hG⟩ := hS
  have HG := Lib.hid hG
  have HAB := Lib.hid hab
  clear hG hab
  by_cases hn : n ≤ 60
  case neg =>
    have tn : (60 : Int) < (n : Int) := by omega
    have CA := awake10_any w
    go_enter Tryz.func8, Tryz.ntmps8
    go_wp2_with fail
    refine CA.mono ?_
    rintro e wz ⟨rfl, hBz⟩
    clear CA
    go_wp2
    go_ret
    exact ⟨rfl, hBz⟩
  case pos =>
    have tn : ¬ (60 : Int) < (n : Int) := by omega
    have CN : Calls Tryz.prog 25 #[.int .i64 20, .int .i64 1000, .pointer none] w fun e w' => ∃ f XF, e = .returned (.tuple #[.pointer (some ⟨f, 0, none⟩), .int .i64 0]) ∧ FamX w' f ⟨[], Tb.new, 20, 1000⟩ (.pointer none) XF ∧ (∀ k, XF k → w.heap.size ≤ k) ∧ no4 (0 + 1) 0 0 0 w' ∧ Ex (mB (.pointer none)) w w' := shnew_any (N := no4) (a := 0) (b := 0) (c := 0) (d := 0) m4_nil trivial (by omega) 20 1000 (by decide) (by decide)
    go_enter Tryz.func8, Tryz.ntmps8
    go_wp2_with fail
    refine CN.mono ?_
    rintro e w1 ⟨f, XF, rfl, hF1, hX1, _, hx1⟩
    clear CN
    have h1 := eqFa f
    have CM := make_any hF1 (fun k hk => (noMet hk).elim)
    have hB1 : Below w.heap.size w w1 := hx1.below (fun k hk => (noMet hk).elim) (Nat.le_refl _)
    clear hF1 hx1
    go_wp2_with fail
    refine CM.mono ?_
    rintro e w2 ⟨s, XS, rfl, hS2, hX2, hB2⟩
    clear CM h1
    have h2 := eqSp s
    have HOw : Hid (OwI w f s 0 w2) := ⟨⟨[], Tb.new, 20, 1000⟩, .row [], 0, XF, XS, 0, hS2, fa_new hsT (by decide) (by decide), Nat.le_refl _, Nat.le_refl _, Nat.le_refl _, hX1, fun k hk => by have := hX2 k hk; have := hB1.size; omega, hB1.trans (hB2.mono hB1.size)⟩
    clear hS2 hX1 hX2 hB1 hB2
    go_wp2_with fail
    clear h2
    go_loopw [6] (fun iv wr => ∃ i : Nat, i ≤ n ∧ iv = .int .i64 (i : Int) ∧ OwI w f s i wr) (fun iv _ => n - (intOf iv).toNat)
    case atStart => exact ⟨0, Nat.zero_le _, rfl, HOw.out⟩
    case round =>
      clear HOw
      obtain ⟨i, hi, rfl, F, st, v, XF, XS, c0, hFs, hO, hst, hc0, hv, hXF, hXS, hB⟩ := hrel
      by_cases hlt : i < n
      · obtain ⟨rfl, hbl⟩ := HAB.out (by omega)
        have ti : (i : Int) < (n : Int) := by omega
        have e5 : IntKind.i64.wrap ((i : Int) + 1) = ((i + 1 : Nat) : Int) := by rw [i64_small (by omega) (by omega)]; omega
        have c1 : wr.cell? ⟨b, off + i, none⟩ = some (.string (G i)) := (hB.cell (p := ⟨b, off + i, none⟩) hbl).trans (HG.out i hlt)
        generalize G i = nm at c1
        by_cases hsz : nm.size ≤ 200
        · have ts : ¬ 200 < ((nm.size : Nat) : Int) := by omega
          have CS := (set_any (N := no4) (a := 0) (b := 0) (c := 0) (d := 0) hFs m4_nil trivial (by omega) (by omega) (by omega) (by omega) hO hst (by omega) (by omega) (nm := nm) (by omega) (i : Int)).mono (R' := fun e w' => ∃ er : Int, e = .returned (.int .i64 er) ∧ OwI w f s (i + 1) w') (fun e w' ⟨er, he, hq⟩ => ⟨er, he, OwI.set hO hst hc0 hv (by omega) hXF hXS hB (by omega) hq⟩)
          clear hFs hO hst hXF hXS hB hc0 hv
          go_wp2_with fail
          refine CS.mono ?_
          rintro e w3 ⟨er, rfl, hI⟩
          clear CS
          by_cases her : er = 0
          · subst her
            have HI := Lib.hid hI
            clear hI
            go_wp2_with fail
            go_roundw
            case rel => exact ⟨i + 1, by omega, by first | rfl | trivial, HI.out⟩
            case measure => simp [intOf]; omega
          · have te : (er != 0) = true := by simp [her]
            obtain ⟨_, _, _, _, _, _, _, _, _, _, _, _, _, hB3⟩ := hI
            have CA := awake10_any w3
            have HB3 := Lib.hid hB3
            clear hB3
            go_wp2_with fail
            refine CA.mono ?_
            rintro e wz ⟨rfl, hBz⟩
            clear CA
            go_wp2
            go_ret
            exact ⟨rfl, HB3.out.trans (hBz.mono HB3.out.size)⟩
        · have ts : 200 < ((nm.size : Nat) : Int) := by omega
          have CA := awake10_any wr
          clear hFs hO hst hXF hXS
          go_wp2_with fail
          refine CA.mono ?_
          rintro e wz ⟨rfl, hBz⟩
          clear CA
          go_wp2
          go_ret
          exact ⟨rfl, hB.trans (hBz.mono hB.size)⟩
      · have ti : ¬ (i : Int) < (n : Int) := by omega
        have hr256 : F.kt.es.length ≤ 256 := Nat.le_trans hO.len hO.room
        have hL20 : F.kt.L ≤ 20 := hO.ok.sz.2
        have hlpb : (prsS F st).length ≤ 100000 := by
          cases st with
          | row vs => show (prsN _ _ _ _).length ≤ _; rw [prsN_len]; exact Nat.le_trans hst (by omega)
          | own t => show (prsO _ _).length ≤ _; unfold prsO; rw [List.length_map]; have := liveL_len t.es; have := hst.1.few; have := hst.1.all; omega
        have hlnb : (nmsOf F.all F.kt.es).length ≤ 256 := by unfold nmsOf; rw [List.length_map]; exact hr256
        have HCP : Hid (∀ V, Fs V f F (.pointer none) XF s st v XS → Calls Tryz.prog 21 #[.pointer (some ⟨s, 0, none⟩)] V fun e w' => ∃ v, e = .returned v ∧ PsB V.heap.size w' v (prsS F st) ∧ Below V.heap.size V w') := fun V hV => spairs_any hV hO hst hr256
        have HCN : Hid (∀ V, Fs V f F (.pointer none) XF s st v XS → Calls Tryz.prog 14 #[.pointer (some ⟨f, 0, none⟩)] V fun e w' => ∃ v, e = .returned v ∧ NsB V.heap.size w' v (nmsOf F.all F.kt.es) ∧ Below V.heap.size V w') := fun V hV => by
          obtain ⟨g, gi, r, h, ev, mb, nv, hFa, -⟩ := hV.fm
          exact names_any hFa hO.nl hO.dead hr256
        have HCS : Hid (∀ V, Fs V f F (.pointer none) XF s st v XS → Calls Tryz.prog 16 #[.pointer (some ⟨f, 0, none⟩)] V fun e w' => ∃ hc ev', e = .returned (sgV F.kt hc ev') ∧ SgV V.heap.size w' F.kt hc ev' ∧ Below V.heap.size V w') := fun V hV => by
          obtain ⟨g, gi, r, h, ev, mb, nv, hFa, -⟩ := hV.fm
          exact fsight_any (hFa.nh.hd.c 1 (by omega)) hFa.dt (by omega)
        have HFs := Lib.hid hFs
        have HB0 := Lib.hid hB
        generalize prsS F st = lp at hlpb HCP
        generalize nmsOf F.all F.kt.es = ln at hlnb HCN
        clear hO hst hXF hXS hB hc0 hv hFs
        have C1 := HCP.out wr HFs.out
        go_wp2_with fail
        refine C1.mono ?_
        rintro e w3 ⟨va, rfl, hPa, hb3⟩
        clear C1
        obtain ⟨aa, ca, hva⟩ := ownsRow_shape hPa
        subst hva
        have hra := World.ownsRow.lt hPa
        have s3 := hb3.size
        have C1 := HCP.out w3 (HFs.out.below hb3)
        have HPa := Lib.hid hPa
        clear hPa
        go_wp2_with fail
        refine C1.mono ?_
        rintro e w4 ⟨vb, rfl, hPb, hb4⟩
        clear C1
        obtain ⟨ab, cb, hvb⟩ := ownsRow_shape hPb
        subst hvb
        have hrb := World.ownsRow.lt hPb
        have s4 := hb4.size
        have hb04 := hb3.trans (hb4.mono s3)
        have C1 := HCN.out w4 (HFs.out.below hb04)
        have HPb := Lib.hid hPb
        clear hPb
        go_wp2_with fail
        refine C1.mono ?_
        rintro e w5 ⟨vc, rfl, hNc, hb5⟩
        clear C1
        obtain ⟨ac, cc, hvc⟩ := ownsRow_shape hNc
        subst hvc
        have hrc := World.ownsRow.lt hNc
        have s5 := hb5.size
        have hb05 := hb04.trans (hb5.mono (by omega))
        have C1 := HCN.out w5 (HFs.out.below hb05)
        have HNc := Lib.hid hNc
        clear hNc
        go_wp2_with fail
        refine C1.mono ?_
        rintro e w6 ⟨vd, rfl, hNd, hb6⟩
        clear C1
        obtain ⟨ad, cd, hvd⟩ := ownsRow_shape hNd
        subst hvd
        have hrd := World.ownsRow.lt hNd
        have s6 := hb6.size
        have hb06 := hb05.trans (hb6.mono (by omega))
        have C1 := HCS.out w6 (HFs.out.below hb06)
        have HNd := Lib.hid hNd
        clear hNd
        go_wp2_with fail
        refine C1.mono ?_
        rintro e w7 ⟨hc1, ev1, rfl, hSg1, hb7⟩
        clear C1
        obtain ⟨ae, ce, hve⟩ := ownsRow_shape hSg1.es
        rw [shw_len] at hve
        subst hve
        have hre1 := hSg1.es.ge
        have hre2 := hSg1.es.es.lt
        have s7 := hb7.size
        have hb07 := hb06.trans (hb7.mono (by omega))
        obtain ⟨S, hSS⟩ : ∃ S, 2 ^ F.kt.L = S := ⟨_, rfl⟩
        have HSS := Lib.hid hSS
        unfold sgV
        rw [hSS]
        obtain ⟨w8, hw8⟩ : ∃ y, w7.alloc (.cells #[.int .i64 (F.kt.L : Int), .int .i64 (wd F.kt.L : Int), .slice (some ⟨hc1, 0, none⟩) S S, .slice ae F.kt.es.length ce, .int .i64 (F.kt.live : Int), .int .i64 (F.kt.births : Int), .int .i64 (F.kt.made : Int)] 71) = y := ⟨_, rfl⟩
        have hb8 : Below w7.heap.size w7 w8 := by rw [← hw8]; exact (Below.refl _ w7).alloc (Nat.le_refl _) _
        have hX8 : Blk w8 w7.heap.size 7 (fun j => #[Value.int .i64 (F.kt.L : Int), .int .i64 (wd F.kt.L : Int), .slice (some ⟨hc1, 0, none⟩) S S, .slice ae F.kt.es.length ce, .int .i64 (F.kt.live : Int), .int .i64 (F.kt.births : Int), .int .i64 (F.kt.made : Int)].getD j .nilFunc) := by rw [← hw8]; exact Blk.new w7 _ _
        have s8 : w8.heap.size = w7.heap.size + 1 := by rw [← hw8]; simp
        have hb08 := hb07.trans (hb8.mono (by omega))
        have C1 := HCS.out w8 (HFs.out.below hb08)
        have HSg1 := Lib.hid hSg1
        have HW8 := Lib.hid hw8
        have HX8 := Lib.hid hX8
        have HS8 := Lib.hid s8
        have s78 : w7.heap.size ≤ w8.heap.size := by omega
        clear hSg1 hw8 hX8 s8
        go_wp2_with fail
        rw [HW8.out]
        refine C1.mono ?_
        rintro e w9 ⟨hc2, ev2, rfl, hSg2, hb9⟩
        clear C1 HW8
        obtain ⟨af, cf, hvf⟩ := ownsRow_shape hSg2.es
        rw [shw_len] at hvf
        subst hvf
        have s9 := hb9.size
        have hb09 := hb08.trans (hb9.mono (by omega))
        unfold sgV
        rw [hSS]
        obtain ⟨w10, hw10⟩ : ∃ y, w9.alloc (.cells #[.int .i64 (F.kt.L : Int), .int .i64 (wd F.kt.L : Int), .slice (some ⟨hc2, 0, none⟩) S S, .slice af F.kt.es.length cf, .int .i64 (F.kt.live : Int), .int .i64 (F.kt.births : Int), .int .i64 (F.kt.made : Int)] 71) = y := ⟨_, rfl⟩
        have hb10 : Below w9.heap.size w9 w10 := by rw [← hw10]; exact (Below.refl _ w9).alloc (Nat.le_refl _) _
        have hX10 : Blk w10 w9.heap.size 7 (fun j => #[Value.int .i64 (F.kt.L : Int), .int .i64 (wd F.kt.L : Int), .slice (some ⟨hc2, 0, none⟩) S S, .slice af F.kt.es.length cf, .int .i64 (F.kt.live : Int), .int .i64 (F.kt.births : Int), .int .i64 (F.kt.made : Int)].getD j .nilFunc) := by rw [← hw10]; exact Blk.new w9 _ _
        have s10 : w10.heap.size = w9.heap.size + 1 := by rw [← hw10]; simp
        have hb010 := hb09.trans (hb10.mono (by omega))
        have s8 := HS8.out
        obtain ⟨X, hXd⟩ : ∃ X : Nat → Prop, X = fun k => (Value.slice aa lp.length ca).ownBlock = some k ∨ (Value.slice ac ln.length cc).ownBlock = some k ∨ (Value.slice ae F.kt.es.length ce).ownBlock = some k := ⟨_, rfl⟩
        have hnx : ∀ k, X k → (wr.heap.size ≤ k ∧ k < w3.heap.size) ∨ (w4.heap.size ≤ k ∧ k < w5.heap.size) ∨ (w6.heap.size ≤ k ∧ k < w7.heap.size) := by
          rw [hXd]
          rintro k (y | y | y)
          · exact .inl (hra k y)
          · exact .inr (.inl (hrc k y))
          · exact .inr (.inr ⟨hre1 k y, hre2 k y⟩)
        have HKP : Hid (∀ W, Ex X w10 W → Fs W f F (.pointer none) XF s st v XS ∧ PsB w3.heap.size W (.slice ab lp.length cb) lp ∧ NsB w5.heap.size W (.slice ad ln.length cd) ln ∧ SgV w8.heap.size W F.kt hc2 (.slice af F.kt.es.length cf) ∧
            Blk W w7.heap.size 7 (fun j => #[Value.int .i64 (F.kt.L : Int), .int .i64 (wd F.kt.L : Int), .slice (some ⟨hc1, 0, none⟩) S S, .slice ae F.kt.es.length ce, .int .i64 (F.kt.live : Int), .int .i64 (F.kt.births : Int), .int .i64 (F.kt.made : Int)].getD j .nilFunc) ∧
            Blk W w9.heap.size 7 (fun j => #[Value.int .i64 (F.kt.L : Int), .int .i64 (wd F.kt.L : Int), .slice (some ⟨hc2, 0, none⟩) S S, .slice af F.kt.es.length cf, .int .i64 (F.kt.live : Int), .int .i64 (F.kt.births : Int), .int .i64 (F.kt.made : Int)].getD j .nilFunc)) := by
          intro W hW
          have hF10 := HFs.out.below hb010
          have hb4x : Below w4.heap.size w4 w10 := hb5.trans ((hb6.trans ((hb7.trans ((hb8.trans ((hb9.trans (hb10.mono s9)).mono (by omega))).mono s7)).mono s6)).mono s5)
          have hb6x : Below w6.heap.size w6 w10 := hb7.trans ((hb8.trans ((hb9.trans (hb10.mono s9)).mono (by omega))).mono s7)
          refine ⟨⟨hF10.fm.same fun k hk => hW.block k (hF10.fm.lt k hk) (fun y => ?_), hF10.sm.same fun k hk => hW.block k (hF10.sm.lt k hk) (fun y => ?_), hF10.ap, hF10.mq⟩, own_same2 (own_keep HPb.out hb4x) fun k hk => ?_, own_same2 (own_keep HNd.out hb6x) fun k hk => ?_, ?_, (HX8.out.of (hb9.trans (hb10.mono s9)) (by omega)).same (hW.block _ (by omega) (fun y => ?_)), hX10.same (hW.block _ (by omega) (fun y => ?_))⟩
          · have := hnx k y; have := HFs.out.fm.lt k hk; omega
          · have := hnx k y; have := HFs.out.sm.lt k hk; omega
          · have := hrb k hk; exact hW.block k (by omega) (fun y => by have := hnx k y; omega)
          · have := hrd k hk; exact hW.block k (by omega) (fun y => by have := hnx k y; omega)
          · have hSx : SgV w8.heap.size w10 F.kt hc2 (.slice af F.kt.es.length cf) := ⟨hSg2.row.same (hb10.block _ hSg2.row.lt), own_same2 hSg2.es (fun k hk => hb10.block k (hSg2.es.es.lt k hk)), hSg2.hB, hSg2.ne⟩
            refine ⟨hSx.row.same (hW.block _ hSx.row.lt (fun y => by have := hnx _ y; have := hSg2.hB; omega)), own_same2 hSx.es (fun k hk => hW.block k (hSx.es.es.lt k hk) (fun y => by have := hnx k y; have := hSg2.es.ge k hk; omega)), hSg2.hB, hSg2.ne⟩
          · have := hnx _ y; omega
          · have := hnx _ y; omega
        have HO3 : Hid (O3 w10 X wr.heap.size (.slice aa lp.length ca) (.slice ac ln.length cc) (.slice ae F.kt.es.length ce) lp.length ln.length F.kt.es.length w10) := by
          have hb3x : Below w3.heap.size w3 w10 := hb4.trans ((hb5.trans ((hb6.trans ((hb7.trans ((hb8.trans ((hb9.trans (hb10.mono s9)).mono (by omega))).mono s7)).mono s6)).mono s5)).mono s4)
          have hb5x : Below w5.heap.size w5 w10 := hb6.trans ((hb7.trans ((hb8.trans ((hb9.trans (hb10.mono s9)).mono (by omega))).mono s7)).mono s6)
          have hb7x : Below w7.heap.size w7 w10 := hb8.trans ((hb9.trans (hb10.mono s9)).mono (by omega))
          exact ⟨⟨_, own_keep HPa.out hb3x⟩, ⟨_, own_lower (own_keep HNc.out hb5x) (by omega)⟩, ⟨_, shw_len F.kt.es, HSg1.out.es.es.same fun k hk => hb7x.block k (hre2 k hk)⟩, Ex.refl _ _⟩
        have xA : ∀ k, (Value.slice aa lp.length ca).ownBlock = some k → X k := fun k hk => by rw [hXd]; exact .inl hk
        have xC : ∀ k, (Value.slice ac ln.length cc).ownBlock = some k → X k := fun k hk => by rw [hXd]; exact .inr (.inl hk)
        have xE : ∀ k, (Value.slice ae F.kt.es.length ce).ownBlock = some k → X k := fun k hk => by rw [hXd]; exact .inr (.inr hk)
        have HBW : Hid (∀ W, Ex X w10 W → Below w.heap.size w W) := fun W hW => by
          have h1 := HB0.out.trans (hb010.mono HB0.out.size)
          exact h1.trans (hW.below (fun k hk => by have := hnx k hk; have := HB0.out.size; omega) h1.size)
        have HW10 := Lib.hid hw10
        have HNX := Lib.hid hnx
        have hlec : F.kt.es.length ≤ 256 := hr256
        clear hw10 hX10 hSg2 hXd hnx HSg1 HX8 HPa HPb HNc HNd HS8 hb3 hb4 hb5 hb6 hb7 hb8 hb9 hb10 hb04 hb05 hb06 hb07 hb08 hb09 hb010
        go_wp2_with fail
        rw [HW10.out]
        clear HW10
        obtain ⟨la, hla⟩ : ∃ la, lp.length = la := ⟨_, rfl⟩
        obtain ⟨lc, hlc⟩ : ∃ lc, ln.length = lc := ⟨_, rfl⟩
        obtain ⟨le, hle⟩ : ∃ le, F.kt.es.length = le := ⟨_, rfl⟩
        have HLA := Lib.hid hla
        have HLC := Lib.hid hlc
        have HLE := Lib.hid hle
        rw [hla] at hlpb hra hrb HKP HO3 xA ⊢
        rw [hlc] at hlnb hrc hrd HKP HO3 xC ⊢
        rw [hle] at hlec hre1 hre2 HKP HO3 xE ⊢
        clear hla hlc hle hr256 hSS
        have hB0s := HB0.out.size
        have nAC : ∀ k, (Value.slice aa la ca).ownBlock = some k → (Value.slice ac lc cc).ownBlock = some k → False := fun k h1 h2 => by have := hra k h1; have := hrc k h2; omega
        have nAE : ∀ k, (Value.slice aa la ca).ownBlock = some k → (Value.slice ae le ce).ownBlock = some k → False := fun k h1 h2 => by have := hra k h1; have := hre1 k h2; omega
        have nCE : ∀ k, (Value.slice ac lc cc).ownBlock = some k → (Value.slice ae le ce).ownBlock = some k → False := fun k h1 h2 => by have := hrc k h1; have := hre1 k h2; omega
        generalize wr.heap.size = B0 at *
        go_loopw [13] (fun iv wr => ∃ k : Nat, k ≤ la ∧ iv = .int .i64 (k : Int) ∧ O3 w10 X B0 (.slice aa la ca) (.slice ac lc cc) (.slice ae le ce) la lc le wr) (fun iv _ => la - (intOf iv).toNat)
        case atStart => exact ⟨0, Nat.zero_le _, rfl, HO3.out⟩
        case round =>
          clear HO3
          obtain ⟨k, hk, rfl, hO⟩ := hrel
          by_cases hka : k < la
          · have tk : (k : Int) < (la : Int) := by omega
            obtain ⟨xs, hxa⟩ := hO.a
            obtain ⟨ga, rfl, hca, hza⟩ := own_at hxa (by omega)
            obtain ⟨u0, q0⟩ := hca (k * 2) (by omega)
            obtain ⟨u1, q1⟩ := hca (k * 2 + 1) (by omega)
            have z0 := hza (k * 2)
            have z1 := hza (k * 2 + 1)
            have e5 : IntKind.i64.wrap ((k : Int) + 1) = ((k + 1 : Nat) : Int) := by rw [i64_small (by omega) (by omega)]; omega
            have HN : Hid (∀ u v, O3 w10 X B0 (.slice (some ⟨ga, 0, none⟩) la ca) (.slice ac lc cc) (.slice ae le ce) la lc le ((wr.setCell ⟨ga, k * 2, none⟩ u).setCell ⟨ga, k * 2 + 1, none⟩ v)) := fun u v => (hO.setA (xA ga rfl) (fun e => nAC ga rfl e) (fun e => nAE ga rfl e) _ u).setA (xA ga rfl) (fun e => nAC ga rfl e) (fun e => nAE ga rfl e) _ v
            clear hO hxa hca hza
            go_wp2_with fail
            go_roundw
            case rel => exact ⟨k + 1, by omega, by first | rfl | trivial, HN.out _ _⟩
            case measure => simp [intOf]; omega
          · have tk : ¬ (k : Int) < (la : Int) := by omega
            have HO := Lib.hid hO
            clear hO
            go_wp2_with fail
            go_loopw [14] (fun iv wr => ∃ k : Nat, k ≤ lc ∧ iv = .int .i64 (k : Int) ∧ O3 w10 X B0 (.slice aa la ca) (.slice ac lc cc) (.slice ae le ce) la lc le wr) (fun iv _ => lc - (intOf iv).toNat)
            case atStart => exact ⟨0, Nat.zero_le _, rfl, HO.out⟩
            case round =>
              clear HO
              obtain ⟨k2, hk2, rfl, hO⟩ := hrel
              by_cases hkc : k2 < lc
              · have tk2 : (k2 : Int) < (lc : Int) := by omega
                obtain ⟨xs, hxc⟩ := hO.c
                obtain ⟨gc, rfl, hcc, hzc⟩ := own_at hxc (by omega)
                obtain ⟨u0, q0⟩ := hcc k2 (by omega)
                have z0 := hzc k2
                have e5 : IntKind.i64.wrap ((k2 : Int) + 1) = ((k2 + 1 : Nat) : Int) := by rw [i64_small (by omega) (by omega)]; omega
                have HN : Hid (∀ u, O3 w10 X B0 (.slice aa la ca) (.slice (some ⟨gc, 0, none⟩) lc cc) (.slice ae le ce) la lc le (wr.setCell ⟨gc, k2, none⟩ u)) := fun u => hO.setC (xC gc rfl) (fun e => nAC gc e rfl) (fun e => nCE gc rfl e) _ u
                clear hO hxc hcc hzc
                go_wp2_with fail
                go_roundw
                case rel => exact ⟨k2 + 1, by omega, by first | rfl | trivial, HN.out _⟩
                case measure => simp [intOf]; omega
              · have tk2 : ¬ (k2 : Int) < (lc : Int) := by omega
                have HO := Lib.hid hO
                clear hO
                go_wp2_with fail
                go_loopw [15] (fun iv wr => ∃ k : Nat, k ≤ le ∧ iv = .int .i64 (k : Int) ∧ O3 w10 X B0 (.slice aa la ca) (.slice ac lc cc) (.slice ae le ce) la lc le wr) (fun iv _ => le - (intOf iv).toNat)
                case atStart => exact ⟨0, Nat.zero_le _, rfl, HO.out⟩
                case round =>
                  clear HO
                  obtain ⟨k3, hk3, rfl, hO⟩ := hrel
                  obtain ⟨hKf, hKb, hKd, hKs, hKg, hKh⟩ := HKP.out wr hO.ex
                  have y3 : wr.cell? ⟨w7.heap.size, 3, none⟩ = some (.slice ae le ce) := hKg.c 3 (by omega)
                  by_cases hke : k3 < le
                  · have tk3 : (k3 : Int) < (le : Int) := by omega
                    obtain ⟨es, hes, hE⟩ := hO.e
                    obtain ⟨_, _, ge, hv', hae', hro'⟩ := hE.open
                    rw [hes] at hv' hae' hro'
                    injection hv' with hv1 _ hv3
                    obtain ⟨hge', _, hfz'⟩ := hae' (by omega)
                    rw [hge'] at hv1
                    subst hv1
                    have e0 := hro'.c0 k3 (by omega)
                    have e1 := hro'.c1 k3 (by omega)
                    have e2 := hro'.c2 k3 (by omega)
                    have e3 := hro'.c3 k3 (by omega)
                    have e4 := hro'.c4 k3 (by omega)
                    have z0 := hfz' (k3 * 5)
                    have z1 := hfz' (k3 * 5 + 1)
                    have z2 := hfz' (k3 * 5 + 2)
                    have z3 := hfz' (k3 * 5 + 3)
                    have z4 := hfz' (k3 * 5 + 4)
                    have e5 : IntKind.i64.wrap ((k3 : Int) + 1) = ((k3 + 1 : Nat) : Int) := by rw [i64_small (by omega) (by omega)]; omega
                    have HN : Hid (O3 w10 X B0 (.slice aa la ca) (.slice ac lc cc) (.slice (some ⟨ge, 0, none⟩) le ce) la lc le (setW5 wr ge k3 ⟨false, 0, 99, 0, 0⟩)) := hO.setE (xE ge rfl) (fun e => nAE ge e rfl) (fun e => nCE ge e rfl) k3 hke _
                    clear hO hE hro' hae' hfz' hKf hKb hKd hKs hKg hKh hge' hv3
                    unfold setW5 at HN
                    generalize (nth es k3).live = q0 at *
                    generalize (nth es k3).hash = q1 at *
                    generalize (nth es k3).key = q2 at *
                    generalize (nth es k3).value = q3 at *
                    generalize (nth es k3).birth = q4 at *
                    go_wp2_with fail
                    go_roundw
                    case rel => exact ⟨k3 + 1, by omega, by first | rfl | trivial, HN.out⟩
                    case measure => simp [intOf]; omega
                  · have tk3 : ¬ (k3 : Int) < (le : Int) := by omega
                    obtain ⟨i0, hi0, hz0, hz1, hz2⟩ := info_parts Tryz.infoPair
                    obtain ⟨j0, hj0, jz0, jz1, jz2⟩ := info_parts Tryz.infoStr
                    obtain ⟨xs, hxa⟩ := hO.a
                    obtain ⟨ys, hxc⟩ := hO.c
                    obtain ⟨wA, hwA⟩ : ∃ y, wr.alloc (.cells #[.string ByteArray.empty, .int .i64 0, .string ByteArray.empty, .int .i64 0] 91) = y := ⟨_, rfl⟩
                    have hbA : Below wr.heap.size wr wA := by rw [← hwA]; exact (Below.refl _ wr).alloc (Nat.le_refl _) _
                    have hsA : wA.heap.size = wr.heap.size + 1 := by rw [← hwA]; simp
                    have hsr := hO.ex.size
                    obtain ⟨vX, wA', rA, oA, gA, -, -⟩ := run_append_own_at (P := Tryz.prog) wA B0 81 81 91 i0 (.agg #[.string ByteArray.empty, .int .i64 0]) 2 24 Tryz.underlying81 hi0 hz0 hz1 hz2 rfl (by decide) (.slice aa la ca) la xs (own_keep hxa hbA) ⟨wr.heap.size, 0, none⟩ 2 2 [.string ByteArray.empty, .int .i64 0, .string ByteArray.empty, .int .i64 0] rfl (by
                      intro j u hu
                      rw [← hwA, WideShapes.add_plain, World.cell?_alloc_at _ _ _ _ rfl]
                      simpa using hu) (pcl_one [(ByteArray.empty, 0), (ByteArray.empty, 0)]) (by unfold maxLen; omega) (by omega) (by omega)
                    obtain ⟨aX, cX, rfl⟩ := ownsRow_shape oA
                    have hsA' := gA.size
                    have exA : Ex X w10 wA' := (hO.ex.next (ex_of (X := fun _ => False) hbA) (fun _ _ h => h.elim)).trans ⟨gA.os, gA.tape, gA.output, gA.size, fun k hk hx => gA.block k hk (fun e => hx (xA k e.symm))⟩
                    have hxc' : wA'.ownsRow B0 9 1 (.slice ac lc cc) lc ys := own_same2 hxc fun k hk => (gA.block k (by have := (World.ownsRow.lt hxc k hk).2; omega) (fun e => nAC k e.symm hk)).trans (hbA.block k (World.ownsRow.lt hxc k hk).2)
                    obtain ⟨wB, hwB⟩ : ∃ y, wA'.alloc (.cells #[.string ⟨#[33]⟩, .string ⟨#[33]⟩] 9) = y := ⟨_, rfl⟩
                    have hbB : Below wA'.heap.size wA' wB := by rw [← hwB]; exact (Below.refl _ wA').alloc (Nat.le_refl _) _
                    have hsB : wB.heap.size = wA'.heap.size + 1 := by rw [← hwB]; simp
                    obtain ⟨vY, w14, rB, oB, gB, -, -⟩ := run_append_own_at (P := Tryz.prog) wB B0 56 56 9 j0 (.string ByteArray.empty) 1 16 Tryz.underlying56 hj0 jz0 jz1 jz2 rfl (by decide) (.slice ac lc cc) lc ys (own_keep hxc' hbB) ⟨wA'.heap.size, 0, none⟩ 2 2 [.string ⟨#[33]⟩, .string ⟨#[33]⟩] rfl (by
                      intro j u hu
                      rw [← hwB, WideShapes.add_plain, World.cell?_alloc_at _ _ _ _ rfl]
                      simpa using hu) (by intro u hu; simp at hu; rcases hu with rfl | rfl <;> rfl) (by unfold maxLen; omega) (by omega) (by omega)
                    obtain ⟨aY, cY, rfl⟩ := ownsRow_shape oB
                    have ex14 : Ex X w10 w14 := (exA.next (ex_of (X := fun _ => False) hbB) (fun _ _ h => h.elim)).trans ⟨gB.os, gB.tape, gB.output, gB.size, fun k hk hx => gB.block k hk (fun e => hx (xC k e.symm))⟩
                    rw [← hwA] at rA
                    rw [← hwB] at rB
                    have HRa := Lib.hid rA
                    have HRb := Lib.hid rB
                    have CP : Calls Tryz.prog 21 #[.pointer (some ⟨s, 0, none⟩)] w14.drew fun e w' => ∃ a3 c3, e = .returned (.slice a3 la c3) ∧ RdP w' a3 lp ∧ Ex X w10 w' := (HCP.out w14.drew (HKP.out _ ex14.drew).1).mono fun e w' ⟨v3, he, hp, hb⟩ => by
                      obtain ⟨a3, c3, h3, h4⟩ := hp.rd
                      exact ⟨a3, c3, by rw [he, h3, HLA.out], h4, ex14.drew.trans (ex_of hb)⟩
                    have CPE : Hid (∀ V a3 c3, RdP V a3 lp → Ex X w10 V → Calls Tryz.prog 28 #[.slice ab la cb, .slice a3 la c3] V fun e w' => e = .returned (.bool true) ∧ Ex X w10 w') := fun V a3 c3 h3 hV => by
                      obtain ⟨a4, c4, h5, h6⟩ := (HKP.out V hV).2.1.rd
                      rw [HLA.out] at h5
                      cases h5
                      have := pairs10_eq (c1 := cb) (c2 := c3) h6 h3 (by rw [HLA.out]; omega)
                      rw [HLA.out] at this
                      exact this.mono fun e w' ⟨x1, x2⟩ => ⟨x1, hV.trans (ex_of x2)⟩
                    have CNm : Hid (∀ V, Ex X w10 V → Calls Tryz.prog 14 #[.pointer (some ⟨f, 0, none⟩)] V fun e w' => ∃ a3 c3, e = .returned (.slice a3 lc c3) ∧ RdS w' a3 ln ∧ Ex X w10 w') := fun V hV => (HCN.out V (HKP.out V hV).1).mono fun e w' ⟨v3, he, hp, hb⟩ => by
                      obtain ⟨a3, c3, h3, h4⟩ := hp.rd
                      exact ⟨a3, c3, by rw [he, h3, HLC.out], h4, hV.trans (ex_of hb)⟩
                    have CNE : Hid (∀ V a3 c3, RdS V a3 ln → Ex X w10 V → Calls Tryz.prog 30 #[.slice ad lc cd, .slice a3 lc c3] V fun e w' => e = .returned (.bool true) ∧ Ex X w10 w') := fun V a3 c3 h3 hV => by
                      obtain ⟨a4, c4, h5, h6⟩ := (HKP.out V hV).2.2.1.rd
                      rw [HLC.out] at h5
                      cases h5
                      have := names_eq (c1 := cd) (c2 := c3) h6 h3 (by rw [HLC.out]; omega)
                      rw [HLC.out] at this
                      exact this.mono fun e w' ⟨x1, x2⟩ => ⟨x1, hV.trans (ex_of x2)⟩
                    have CSg : Hid (∀ V, Ex X w10 V → Calls Tryz.prog 16 #[.pointer (some ⟨f, 0, none⟩)] V fun e w' => ∃ hc3 a3 c3 B3, e = .returned (.agg #[.int .i64 (F.kt.L : Int), .int .i64 (wd F.kt.L : Int), .slice (some ⟨hc3, 0, none⟩) S S, .slice a3 le c3, .int .i64 (F.kt.live : Int), .int .i64 (F.kt.births : Int), .int .i64 (F.kt.made : Int)]) ∧ SgV B3 w' F.kt hc3 (.slice a3 le c3) ∧ Ex X w10 w') := fun V hV => (HCS.out V (HKP.out V hV).1).mono fun e w' ⟨hc3, e3, he, hs3, hb⟩ => by
                      obtain ⟨a3, c3, h3⟩ := ownsRow_shape hs3.es
                      rw [shw_len, HLE.out] at h3
                      subst h3
                      exact ⟨hc3, a3, c3, _, by rw [he]; unfold sgV; rw [HSS.out], hs3, hV.trans (ex_of hb)⟩
                    have CSE : Hid (∀ V hc3 a3 c3 B3, SgV B3 V F.kt hc3 (.slice a3 le c3) → Ex X w10 V → Calls Tryz.prog 15 #[.agg #[.int .i64 (F.kt.L : Int), .int .i64 (wd F.kt.L : Int), .slice (some ⟨hc2, 0, none⟩) S S, .slice af le cf, .int .i64 (F.kt.live : Int), .int .i64 (F.kt.births : Int), .int .i64 (F.kt.made : Int)], .agg #[.int .i64 (F.kt.L : Int), .int .i64 (wd F.kt.L : Int), .slice (some ⟨hc3, 0, none⟩) S S, .slice a3 le c3, .int .i64 (F.kt.live : Int), .int .i64 (F.kt.births : Int), .int .i64 (F.kt.made : Int)]] V fun e w' => e = .returned (.bool true) ∧ Ex X w10 w') := fun V hc3 a3 c3 B3 h3 hV => by
                      have := sight10_same (by rw [HLE.out]; omega) hL20 (HKP.out V hV).2.2.2.1 h3
                      unfold sgV at this
                      rw [HSS.out] at this
                      exact this.mono fun e w' ⟨x1, x2⟩ => ⟨x1, hV.trans (ex_of x2)⟩
                    have CAw : Hid (∀ V, Ex X w10 V → Calls Tryz.prog 11 #[] V fun e w' => e = .returned (.bool true) ∧ Ex X w10 w') := fun V hV => (awake10_any V).mono fun e w' ⟨x1, x2⟩ => ⟨x1, hV.trans (ex_of x2)⟩
                    have HX : Hid (∀ V, Ex X w10 V → (V.cell? ⟨w9.heap.size, 0, none⟩ = some (.int .i64 (F.kt.L : Int)) ∧ V.cell? ⟨w9.heap.size, 1, none⟩ = some (.int .i64 (wd F.kt.L : Int)) ∧ V.cell? ⟨w9.heap.size, 2, none⟩ = some (.slice (some ⟨hc2, 0, none⟩) S S) ∧ V.cell? ⟨w9.heap.size, 3, none⟩ = some (.slice af le cf)) ∧ V.cell? ⟨w9.heap.size, 4, none⟩ = some (.int .i64 (F.kt.live : Int)) ∧ V.cell? ⟨w9.heap.size, 5, none⟩ = some (.int .i64 (F.kt.births : Int)) ∧ V.cell? ⟨w9.heap.size, 6, none⟩ = some (.int .i64 (F.kt.made : Int))) := fun V hV => by
                      have hh := (HKP.out V hV).2.2.2.2.2
                      exact ⟨⟨hh.c 0 (by omega), hh.c 1 (by omega), hh.c 2 (by omega), hh.c 3 (by omega)⟩, hh.c 4 (by omega), hh.c 5 (by omega), hh.c 6 (by omega)⟩
                    have ec : IntKind.i64.wrap ((la : Int) + 2) = (la : Int) + 2 := i64_small (by omega) (by omega)
                    have ed : IntKind.i64.wrap ((lc : Int) + 2) = (lc : Int) + 2 := i64_small (by omega) (by omega)
                    have s0 := HX.out _ ex14.drew
                    have s00 := HX.out _ ex14
                    clear rA rB hxa hxc hxc' oA oB gA gB hwA hwB hbA hbB hsA hsB hsA' exA hO hKf hKb hKd hKs hKg hKh ex14
                    go_upto_region 33 with (at_builtin; refine wpList_append_run rfl _ _ 81 81 rfl _ _ _ rfl rfl HRa.out ?_)
                    go_upto_region 34 with (at_builtin; refine wpList_append_run rfl _ _ 56 56 rfl _ _ _ rfl rfl HRb.out ?_)
                    clear HRa HRb y3
                    generalize wd F.kt.L = Wd at *
                    go_region_held3 (fun V => (V.cell? ⟨w9.heap.size, 0, none⟩ = some (.int .i64 (F.kt.L : Int)) ∧ V.cell? ⟨w9.heap.size, 1, none⟩ = some (.int .i64 (Wd : Int)) ∧ V.cell? ⟨w9.heap.size, 2, none⟩ = some (.slice (some ⟨hc2, 0, none⟩) S S) ∧ V.cell? ⟨w9.heap.size, 3, none⟩ = some (.slice af le cf)) ∧ V.cell? ⟨w9.heap.size, 4, none⟩ = some (.int .i64 (F.kt.live : Int)) ∧ V.cell? ⟨w9.heap.size, 5, none⟩ = some (.int .i64 (F.kt.births : Int)) ∧ V.cell? ⟨w9.heap.size, 6, none⟩ = some (.int .i64 (F.kt.made : Int))) (first | with_reducible exact s0 | with_reducible exact s00 | with_reducible exact s1 | with_reducible exact s2 | with_reducible exact s3 | with_reducible exact s4 | with_reducible exact s5 | with_reducible exact s6 | with_reducible exact s7 | fail) (first | (go_at_call 21; refine CP.mono ?_; rintro e V1 ⟨a1, c1, rfl, hp1, hV1⟩; have s1 := HX.out _ hV1) | (go_at_call 28; refine (CPE.out _ _ _ hp1 hV1).mono ?_; rintro e V2 ⟨rfl, hV2⟩; have s2 := HX.out _ hV2) | (go_at_call 14; refine (CNm.out _ hV2).mono ?_; rintro e V3 ⟨a3, c3, rfl, hp3, hV3⟩; have s3 := HX.out _ hV3) | (go_at_call 30; refine (CNE.out _ _ _ hp3 hV3).mono ?_; rintro e V4 ⟨rfl, hV4⟩; have s4 := HX.out _ hV4) | (go_at_call 16; refine (CSg.out _ hV4).mono ?_; rintro e V5 ⟨hc5, a5, c5, B5, rfl, hp5, hV5⟩; have s5 := HX.out _ hV5) | (go_at_call 15; refine (CSE.out _ _ _ _ _ hp5 hV5).mono ?_; rintro e V6 ⟨rfl, hV6⟩; have s6 := HX.out _ hV6) | (go_at_call 11; refine (CAw.out _ hV6).mono ?_; rintro e V7 ⟨rfl, hV7⟩; have s7 := HX.out _ hV7) | fail)
                    go_wp2
                    go_ret
                    exact ⟨rfl, HBW.out _ hV7⟩
end Go.Proofs.YtmgachknfeamkaaGreat
