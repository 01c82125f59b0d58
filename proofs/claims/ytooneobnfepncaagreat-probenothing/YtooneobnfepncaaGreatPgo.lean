/-
  A machine begins a scan.
  A machine goes on: goOn.
  goOn, walked.
-/
import Derived.Test.YtooneobnfepncaaGreatPrHit
namespace Go.Proofs.YtooneobnfepncaaGreat
open Go.RowKit Go.WideShapes

set_option maxRecDepth 100000 in
set_option maxHeartbeats 2000000 in
theorem beginScan_any {w : World} {d g gi r h : Nat} {ev : Value} {t : Tb} {mv : Value} {most : Int} {v : Nat} (hC : Dc w d g gi r h ev t mv most v) {x : Nat} {sv : Value} {m : Ma} (hm : Mx w d g gi r h ev mv x sv m) (hsc : m.scans ≤ 1000000) :
    Calls Tryz.prog 100 #[.pointer (some ⟨x, 0, none⟩)] w fun e w' => e = .returned (.tuple #[]) ∧ ∃ s, w.heap.size ≤ s ∧ Sk w' s (.pointer (some ⟨g, 0, none⟩)) t.turn m.hash t.L 0 (-1) 0 ∧ Mc w' x (.pointer (some ⟨s, 0, none⟩)) d { m with ver := v, scans := m.scans + 1 } ∧ Ex (fun k => k = x) w w' := by
  have hbd : Below w.heap.size w w.drew := (Below.refl _ w).drew
  have hCd := hC.below hbd
  have lx := hm.mc.lt (by omega)
  have ld := hC.hd.lt (by omega)
  have hxd : x ≠ d := fun e => hm.ne (.inl e)
  have C1 : Calls Tryz.prog 37 #[.pointer (some ⟨d, 0, none⟩)] w.drew fun e w' => e = .returned (.pointer (some ⟨g, 0, none⟩)) ∧ w' = w.drew := kept_yes (hCd.hd.c 0 (by omega))
  have C2 := seek_any hCd.dt m.hash
  have hmd : Mc w.drew x sv d m := hm.mc.of hbd (by omega)
  have k1 : w.drew.cell? ⟨x, 1, none⟩ = some (.pointer (some ⟨d, 0, none⟩)) := hmd.c 1 (by omega)
  have k5 : w.drew.cell? ⟨x, 5, none⟩ = some (.int .i64 m.hash) := hmd.c 5 (by omega)
  have HMD := Lib.hid hmd
  have HCD := Lib.hid hCd.hd
  have HBD := Lib.hid hbd
  have e9 : IntKind.i64.wrap ((m.scans : Int) + 1) = (m.scans : Int) + 1 := i64_small (by omega) (by omega)
  clear hC hCd hm hmd hbd
  go_enter Tryz.func100, Tryz.ntmps100
  go_upto_region 0 with fail
  go_region_held3 (fun V => V.cell? ⟨x, 1, none⟩ = some (.pointer (some ⟨d, 0, none⟩)) ∧ V.cell? ⟨x, 5, none⟩ = some (.int .i64 m.hash))
    (first | with_reducible exact ⟨k1, k5⟩ | with_reducible exact s1 | with_reducible exact s2 | fail)
    (first | (go_at_call 37; refine C1.mono ?_; rintro e w0 ⟨rfl, rfl⟩) | (go_at_call 130; refine C2.mono ?_; rintro e w1 ⟨s, rfl, hs, hK, hb1⟩; have hM1 : Mc w1 x sv d m := HMD.out.of hb1 (by omega); have s1 : w1.cell? ⟨x, 1, none⟩ = some (.pointer (some ⟨d, 0, none⟩)) ∧ w1.cell? ⟨x, 5, none⟩ = some (.int .i64 m.hash) := ⟨hM1.c 1 (by omega), hM1.c 5 (by omega)⟩; have c0 : w1.cell? ⟨x, 0, none⟩ = some sv := hM1.c 0 (by omega); have z0 := hM1.z 0; have hM2 := hM1.put 0 (.pointer (some ⟨s, 0, none⟩)); have s2 : (w1.setCell ⟨x, 0, none⟩ (.pointer (some ⟨s, 0, none⟩))).cell? ⟨x, 1, none⟩ = some (.pointer (some ⟨d, 0, none⟩)) ∧ (w1.setCell ⟨x, 0, none⟩ (.pointer (some ⟨s, 0, none⟩))).cell? ⟨x, 5, none⟩ = some (.int .i64 m.hash) := ⟨hM2.c 1 (by omega), hM2.c 5 (by omega)⟩) | fail)
  clear C1 C2 k1 k5
  have hD2 : Blk (w1.setCell ⟨x, 0, none⟩ (.pointer (some ⟨s, 0, none⟩))) d 3 (dcF g most v) := (HCD.out.of hb1 (by omega)).same (Below.heap_setCell _ _ _ _ (fun (e : d = x) => hxd e.symm))
  have hM2' : Mc (w1.setCell ⟨x, 0, none⟩ (.pointer (some ⟨s, 0, none⟩))) x (.pointer (some ⟨s, 0, none⟩)) d m := hM2.congr fun j hj => by
    rcases lt17 hj with rfl | rfl | rfl | rfl | rfl | rfl | rfl | rfl | rfl | rfl | rfl | rfl | rfl | rfl | rfl | rfl | rfl <;> rfl
  have hsx : s ≠ x := by have h9 : w.drew.heap.size = w.heap.size := rfl; omega
  have hK2 : Sk (w1.setCell ⟨x, 0, none⟩ (.pointer (some ⟨s, 0, none⟩))) s (.pointer (some ⟨g, 0, none⟩)) t.turn m.hash t.L 0 (-1) 0 := Blk.same hK (Below.heap_setCell _ _ _ _ hsx)
  have hx2 : Ex (fun k => k = x) w (w1.setCell ⟨x, 0, none⟩ (.pointer (some ⟨s, 0, none⟩))) := (show Ex (fun k => k = x) w w1 from ex_of (HBD.out.trans hb1)).setCell (p := ⟨x, 0, none⟩) (fun _ => rfl) _
  have HS : Hid (w.heap.size ≤ s) := hs
  clear s1 s2 c0 z0 hM1 hM2 hK hb1 hs
  generalize w1.setCell ⟨x, 0, none⟩ (.pointer (some ⟨s, 0, none⟩)) = w2 at *
  have k1 : w2.cell? ⟨x, 1, none⟩ = some (.pointer (some ⟨d, 0, none⟩)) := hM2'.c 1 (by omega)
  have k8 : w2.cell? ⟨x, 8, none⟩ = some (.int .u64 (m.ver : Int)) := hM2'.c 8 (by omega)
  have k9 : w2.cell? ⟨x, 9, none⟩ = some (.int .i64 (m.scans : Int)) := hM2'.c 9 (by omega)
  have d2 : w2.cell? ⟨d, 2, none⟩ = some (.int .u64 (v : Int)) := hD2.c 2 (by omega)
  have z8 := hM2'.z 8
  have z9 := hM2'.z 9
  have HF : Hid (Mc ((w2.setCell ⟨x, 8, none⟩ (.int .u64 (v : Int))).setCell ⟨x, 9, none⟩ (.int .i64 ((m.scans : Int) + 1))) x (.pointer (some ⟨s, 0, none⟩)) d { m with ver := v, scans := m.scans + 1 }) := ((hM2'.put 8 _).put 9 _).congr fun j hj => by
    rcases lt17 hj with rfl | rfl | rfl | rfl | rfl | rfl | rfl | rfl | rfl | rfl | rfl | rfl | rfl | rfl | rfl | rfl | rfl
    all_goals first | rfl | (show Value.int .i64 (((m.scans + 1 : Nat)) : Int) = Value.int .i64 ((m.scans : Int) + 1); rw [Int.natCast_add]; rfl)
  have HK3 : Hid (Sk ((w2.setCell ⟨x, 8, none⟩ (.int .u64 (v : Int))).setCell ⟨x, 9, none⟩ (.int .i64 ((m.scans : Int) + 1))) s (.pointer (some ⟨g, 0, none⟩)) t.turn m.hash t.L 0 (-1) 0) := Blk.same hK2 (by rw [Below.heap_setCell _ _ _ _ hsx, Below.heap_setCell _ _ _ _ hsx])
  have HX3 := Lib.hid ((hx2.setCell (p := ⟨x, 8, none⟩) (fun _ => rfl) (.int .u64 (v : Int))).setCell (p := ⟨x, 9, none⟩) (fun _ => rfl) (.int .i64 ((m.scans : Int) + 1)))
  clear hM2' hD2 hK2 hx2
  go_wp2_with fail
  go_end0
  exact ⟨rfl, s, HS.out, HK3.out, HF.out, HX3.out⟩
end Go.Proofs.YtooneobnfepncaaGreat
namespace Go.Proofs.YtooneobnfepncaaGreat
open Go.RowKit Go.WideShapes

/-- What a machine's step leaves of its dictionary: all but that, its meter, the machine and its Seeker is as it was. -/
structure Cm (w : World) (d g gi r h : Nat) (ev : Value) (mv : Value) (M : Int → Int → World → Prop) (x : Nat) (sv : Value) (a b : Int) (most : Int) (v : Nat) (t' : Tb) (w' : World) (gi' r' h' : Nat) (ev' : Value) : Prop where
  dc : Dc w' d g gi' r' h' ev' t' mv most v
  m : M a b w'
  fx : ∀ j, dX g gi' r' h' ev' j → dX g gi r h ev j ∨ w.heap.size ≤ j
  ex : Ex (fun j => cX d g gi r h ev j ∨ mB mv j ∨ j = x ∨ mB sv j) w w'
/-- A Seeker under way, at place i. -/
structure Sw (w : World) (d g gi r h : Nat) (ev : Value) (t : Tb) (mv : Value) (x s : Nat) (u : Int) (i : Nat) (told : Int) (f : Nat) : Prop where
  sk : Sk w s (.pointer (some ⟨g, 0, none⟩)) t.turn u t.L i told i
  td : Told t.es t.L t.c u i told
  ff : IsF t.c (uw u) t.L f
  le : i ≤ f
  lt : f < 2 ^ t.L + 13
  ge : -1 ≤ told
  nc : ¬ cX d g gi r h ev s
  nm : ¬ mB mv s
  nx : s ≠ x
/-- Where goOn stands when it asks its Seeker. -/
structure A5 (w : World) (d g gi r h : Nat) (ev : Value) (t : Tb) (mv : Value) (M : Int → Int → World → Prop) (x : Nat) (sv : Value) (a b : Int) (most : Int) (v : Nat) (m1 : Ma) (s i : Nat) (told : Int) (f : Nat) (wS : World) : Prop where
  dc : Dc wS d g gi r h ev t mv most v
  m : M a b wS
  mx : Mc wS x (.pointer (some ⟨s, 0, none⟩)) d m1
  sw : Sw wS d g gi r h ev t mv x s m1.hash i told f
  sf : mB sv s ∨ w.heap.size ≤ s
  ex : Ex (fun k => k = x) w wS
/-- Behind Next. -/
structure A6 (w : World) (d g gi r h : Nat) (ev : Value) (t : Tb) (mv : Value) (M : Int → Int → World → Prop) (x : Nat) (sv : Value) (a b : Int) (most : Int) (v : Nat) (m1 : Ma) (s : Nat) (w6 : World) : Prop where
  dc : Dc w6 d g gi r h ev t mv most v
  m : M a b w6
  mx : Mc w6 x (.pointer (some ⟨s, 0, none⟩)) d m1
  ls : s < w6.heap.size
  sf : mB sv s ∨ w.heap.size ≤ s
  ex : Ex (fun k => mB mv k ∨ k = x ∨ mB sv k) w w6
/-- A Seeker that has visited so many cells. -/
def Vi (w : World) (s n : Nat) : Prop := ∃ tp turn u L i told, Sk w s tp turn u L i told n
theorem Vi.same {w w' : World} {s n : Nat} (h : Vi w s n) (e : w'.heap[s]? = w.heap[s]?) : Vi w' s n := by
  obtain ⟨tp, turn, u, L, i, told, h⟩ := h
  exact ⟨tp, turn, u, L, i, told, Blk.same h e⟩
theorem A5.next {w : World} {d g gi r h : Nat} {ev : Value} {t : Tb} {mv : Value} {M : Int → Int → World → Prop} {x : Nat} {sv : Value} {a b : Int} {most : Int} {v : Nat} {m1 : Ma} {s i : Nat} {told : Int} {f : Nat} {wS : World} (hA : A5 w d g gi r h ev t mv M x sv a b most v m1 s i told f wS) (hMo : MtOk mv M) (hMv : MvOk mv M) (hb : 0 ≤ b ∧ b ≤ 100000000000) (nx : ¬ cX d g gi r h ev x) (nmx : ¬ mB mv x) :
    Calls Tryz.prog 102 #[.pointer (some ⟨s, 0, none⟩)] wS fun e w6 => ∃ j, i ≤ j ∧ j ≤ f ∧ A6 w d g gi r h ev t mv M x sv a (b + ((j + 1 - i : Nat) : Int)) most v m1 s w6 ∧ Ex (fun k => k = s ∨ mB mv k) wS w6 ∧ (Vi w6 s (j + 1) ∧ ¬ cX d g gi r h ev s ∧ ¬ mB mv s) ∧
      ((∃ n : Nat, e = .returned (.tuple #[.int .i64 (n : Int), .bool true]) ∧ Of t.es m1.hash n ∧ told < (n : Int) ∧ (∀ k, Of t.es m1.hash k → told < (k : Int) → n ≤ k) ∧ Sw w6 d g gi r h ev t mv x s m1.hash (j + 1) (n : Int) f) ∨
       (e = .returned (.tuple #[.int .i64 (-1), .bool false]) ∧ j = f ∧ (∀ n, Of t.es m1.hash n → (n : Int) ≤ told))) := by
  have hP : 2 ^ t.L ≤ 1048576 := Nat.le_trans (Nat.pow_le_pow_right (n := 2) (by decide) hA.dc.ok.sz.2) (by decide)
  have hlen : t.es.length ≤ 100000 := Nat.le_trans hA.dc.ok.few hA.dc.ok.all
  have nds : ¬ dX g gi r h ev s := fun h => hA.sw.nc (.inr h)
  have hlt := hA.sw.lt
  have hle := hA.sw.le
  have key : ∀ w6, Ex (fun k => k = s ∨ mB mv k) wS w6 → ∀ b', M a b' w6 → A6 w d g gi r h ev t mv M x sv a b' most v m1 s w6 := fun w6 hx b' hm => by
    have lx := hA.mx.lt (by omega)
    refine ⟨hA.dc.same fun k hk => hx.block k (hA.dc.lt k hk) (fun hy => ?_), hm, hA.mx.same (hx.block x lx (fun hy => hy.elim (fun e => hA.sw.nx e.symm) nmx)), Nat.lt_of_lt_of_le (hA.sw.sk.lt (by omega)) hx.size, hA.sf, ?_⟩
    · rcases hy with rfl | hy
      · exact hA.sw.nc hk
      · rcases hk with rfl | hk
        · exact hA.dc.nm hy
        · obtain ⟨m1', m2, m3, m4, m5⟩ := hA.dc.dt.mp k hy
          rcases hk with y | y | y | y | y
          · exact m1' y
          · exact m2 y
          · exact m3 y
          · exact m4 y
          · exact m5 y
    · refine (hA.ex.mono (fun k _ e => .inr (.inl e))).next hx (fun k hk hy => ?_)
      rcases hy with rfl | hy
      · exact hA.sf.elim (fun y => .inr (.inr y)) (fun y => by omega)
      · exact .inl hy
  refine (next7_any hA.dc.dt hA.dc.ok.inv hMo hMv hA.m hb hA.sw.sk nds hA.sw.nm (by omega) hA.sw.td hA.sw.ff hA.sw.lt hA.sw.le hA.sw.ge hlen).mono ?_
  rintro e w6 ⟨j, h1, h2, hcs⟩
  have vi : ∀ {tp : Value} {told' : Int}, Sk w6 s tp t.turn m1.hash t.L (j + 1) told' (i + (j + 1 - i)) → Sk w6 s tp t.turn m1.hash t.L (j + 1) told' (j + 1) := fun hk => by
    rw [show i + (j + 1 - i) = j + 1 by omega] at hk
    exact hk
  rcases hcs with (⟨n, rfl, o1, l1, c1, a1, b1, m1', hN⟩ | ⟨rfl, rfl, hall, hN⟩)
  · refine ⟨j, h1, h2, key w6 hN.ex _ hN.m, hN.ex, ⟨⟨_, _, _, _, _, _, vi hN.sk⟩, hA.sw.nc, hA.sw.nm⟩, .inl ⟨n, rfl, o1, l1, m1', ?_⟩⟩
    have hjlt : j < f := by
      rcases Nat.lt_or_ge j f with z | z
      · exact z
      · have : j = f := by omega
        rw [this, hA.sw.ff.1] at c1
        omega
    have hk := hN.sk
    rw [show i + (j + 1 - i) = j + 1 by omega] at hk
    exact ⟨hk, b1, hA.sw.ff, hjlt, hA.sw.lt, by omega, hA.sw.nc, hA.sw.nm, hA.sw.nx⟩
  · exact ⟨j, h1, h2, key w6 hN.ex _ hN.m, hN.ex, ⟨⟨_, _, _, _, _, _, vi hN.sk⟩, hA.sw.nc, hA.sw.nm⟩, .inr ⟨rfl, rfl, hall⟩⟩
/-- A call of the dictionary behind that. -/
theorem A6.cm {w w' : World} {d g gi r h : Nat} {ev : Value} {t : Tb} {mv : Value} {M : Int → Int → World → Prop} {x : Nat} {sv : Value} {a b a' b' : Int} {most : Int} {v v' : Nat} {m1 : Ma} {s : Nat} {w6 : World} (hA : A6 w d g gi r h ev t mv M x sv a b most v m1 s w6) {t' : Tb} {gi' r' h' : Nat} {ev' : Value} (c : Cd w6 d g gi r h ev mv M a' b' most v' t' w' gi' r' h' ev') : Cm w d g gi r h ev mv M x sv a' b' most v' t' w' gi' r' h' ev' :=
  ⟨c.dc, c.m, fun j hj => (c.fx j hj).elim .inl (fun y => .inr (Nat.le_trans hA.ex.size y)), (hA.ex.mono (fun _ _ hk => .inr hk)).next c.ex (fun _ _ hk => hk.elim .inl (fun y => .inr (.inl y)))⟩
end Go.Proofs.YtooneobnfepncaaGreat
namespace Go.Proofs.YtooneobnfepncaaGreat
open Go.RowKit Go.WideShapes

/-- What a miss tells, and what it makes of a dictionary. -/
def MsR (m : Ma) (t : Tb) (most : Int) (u : Tu) (P : Int → Nat → Tb → Prop) : Prop :=
  ((m.goal = 2 ∨ m.goal = 4) ∧ (t.live : Int) < most ∧ u = ⟨2, 0, false, m.value, (((t.add m.hash m.key m.value).es.length - 1 : Nat) : Int)⟩ ∧ P (((t.add m.hash m.key m.value).made - t.made : Nat) : Int) 1 (t.add m.hash m.key m.value)) ∨
  ((m.goal = 2 ∨ m.goal = 4) ∧ ¬ (t.live : Int) < most ∧ u = ⟨3, 0, false, 0, 0⟩ ∧ P 0 0 t) ∨
  (¬ (m.goal = 2 ∨ m.goal = 4) ∧ u = ⟨2, 0, false, 0, -1⟩ ∧ P 0 0 t)
theorem MsR.mono {m : Ma} {t : Tb} {most : Int} {u : Tu} {P Q : Int → Nat → Tb → Prop} (h : MsR m t most u P) (f : ∀ a v t', P a v t' → Q a v t') : MsR m t most u Q := by
  rcases h with ⟨h1, h2, h3, h4⟩ | ⟨h1, h2, h3, h4⟩ | ⟨h1, h2, h3⟩
  · exact .inl ⟨h1, h2, h3, f _ _ _ h4⟩
  · exact .inr (.inl ⟨h1, h2, h3, f _ _ _ h4⟩)
  · exact .inr (.inr ⟨h1, h2, f _ _ _ h3⟩)
theorem missF_any {w : World} {d g gi r h : Nat} {ev : Value} {t : Tb} {mv : Value} {M : Int → Int → World → Prop} {a b : Int} {most : Int} {v : Nat} (hC : Dc w d g gi r h ev t mv most v) (hMo : MtOk mv M) (hM : M a b w) (hm1 : t.made ≤ 1000000) (ha : 0 ≤ a ∧ a ≤ 1000000000) (ht : t.turn ≤ 1000000) (hb : t.births < 100000) (hv : v ≤ 1000000000) {x : Nat} {sv : Value} {m : Ma} (hm : Mx w d g gi r h ev mv x sv m) :
    Calls Tryz.prog (missF m.goal) #[.pointer (some ⟨x, 0, none⟩)] w fun e w' => ∃ u, e = .returned (tuV u) ∧ MsR m t most u (fun da dv t' => ∃ gi' r' h' ev', Cd w d g gi r h ev mv M (a + da) b most (v + dv) t' w' gi' r' h' ev') := by
  by_cases hg : m.goal = 2 ∨ m.goal = 4
  · rw [missF, if_pos hg]
    by_cases hf : (t.live : Int) < most
    · refine (addPair_yes hC hMo hM hm1 ha ht hb hv hm hf).mono ?_
      rintro e w' ⟨rfl, h2⟩
      exact ⟨_, rfl, .inl ⟨hg, hf, rfl, h2⟩⟩
    · refine (addPair_no hC hMo hM hm hf).mono ?_
      rintro e w' ⟨rfl, h2⟩
      exact ⟨_, rfl, .inr (.inl ⟨hg, hf, rfl, gi, r, h, ev, by rw [Int.add_zero]; exact h2⟩)⟩
  · rw [missF, if_neg hg]
    refine (tellNone_any _ w).mono ?_
    rintro e w' ⟨rfl, h2⟩
    exact ⟨_, rfl, .inr (.inr ⟨hg, rfl, gi, r, h, ev, by rw [Int.add_zero]; exact hC.cd hMo hM h2⟩)⟩
/-- What goOn tells and leaves, its Seeker at place i. -/
def GoR (w : World) (d g gi r h : Nat) (ev : Value) (t : Tb) (mv : Value) (M : Int → Int → World → Prop) (x : Nat) (sv : Value) (a b : Int) (most : Int) (v : Nat) (m1 : Ma) (s i : Nat) (told : Int) (f : Nat) (u : Tu) (w' : World) : Prop :=
  ∃ j, i ≤ j ∧ j ≤ f ∧
    ((∃ n : Nat, Of t.es m1.hash n ∧ told < (n : Int) ∧ (∀ k, Of t.es m1.hash k → told < (k : Int) → n ≤ k) ∧
        (((nth t.es n).key = m1.key ∧ u = ⟨2, 0, true, (nth t.es n).value, (n : Int)⟩ ∧ Cm w d g gi r h ev mv M x sv a (b + ((j + 1 - i : Nat) : Int)) most (hitN m1.goal v) (hitT m1 t n) w' gi r h ev ∧ Mc w' x (.pointer (some ⟨s, 0, none⟩)) d m1 ∧ Vi w' s (j + 1)) ∨
         ((nth t.es n).key ≠ m1.key ∧ u = ⟨1, (nth t.es n).key, false, 0, 0⟩ ∧ Cm w d g gi r h ev mv M x sv a (b + ((j + 1 - i : Nat) : Int)) most v t w' gi r h ev ∧ Mc w' x (.pointer (some ⟨s, 0, none⟩)) d { m1 with asked := (n : Int) } ∧ Sw w' d g gi r h ev t mv x s m1.hash (j + 1) (n : Int) f))) ∨
     (j = f ∧ (∀ n, Of t.es m1.hash n → (n : Int) ≤ told) ∧ MsR m1 t most u (fun da dv t' => ∃ gi' r' h' ev', Cm w d g gi r h ev mv M x sv (a + da) (b + ((j + 1 - i : Nat) : Int)) most (v + dv) t' w' gi' r' h' ev') ∧ Mc w' x (.pointer (some ⟨s, 0, none⟩)) d m1 ∧ Vi w' s (j + 1)))
/-- A result's five cells. -/
def rZ (j : Nat) : Value := #[Value.int .i64 0, .int .i64 0, .bool false, .int .i64 0, .int .i64 0].getD j .nilFunc
def putU (w : World) (R : Nat) (u : Tu) : World := put5 w R (.int .i64 u.kind) (.int .i64 u.key) (.bool u.found) (.int .i64 u.value) (.int .i64 u.entry)
theorem putU_below {B : Nat} {w : World} (R : Nat) (hR : B ≤ R) (u : Tu) : Below B w (putU w R u) := put5_below R hR _ _ _ _ _
theorem putU_other (w : World) (R : Nat) (u : Tu) (k : Nat) (hk : k ≠ R) : (putU w R u).heap[k]? = w.heap[k]? := by
  unfold putU put5
  rw [Below.heap_setCell _ _ _ _ hk, Below.heap_setCell _ _ _ _ hk, Below.heap_setCell _ _ _ _ hk, Below.heap_setCell _ _ _ _ hk, Below.heap_setCell _ _ _ _ hk]
/-- A call of the dictionary, and the turn laid into the result. -/
theorem A6.cmp {w w7 : World} {d g gi r h : Nat} {ev : Value} {t : Tb} {mv : Value} {M : Int → Int → World → Prop} {x : Nat} {sv : Value} {a b a' b' : Int} {most : Int} {v v' : Nat} {m1 : Ma} {s : Nat} {w6 : World} (hA : A6 w d g gi r h ev t mv M x sv a b most v m1 s w6) {t' : Tb} {gi' r' h' : Nat} {ev' : Value} (c : Cd w6 d g gi r h ev mv M a' b' most v' t' w7 gi' r' h' ev') (hMo : MtOk mv M) (hlt : ∀ k, cX d g gi r h ev k → k < w.heap.size) (hlm : ∀ k, mB mv k → k < w.heap.size) {R : Nat} (hR : w.heap.size ≤ R) (hR6 : R < w6.heap.size) (u : Tu) : Cm w d g gi r h ev mv M x sv a' b' most v' t' (putU w7 R u) gi' r' h' ev' := by
  have hbp : Below w.heap.size w7 (putU w7 R u) := putU_below R hR u
  have c' := hA.cm c
  refine ⟨c.dc.same fun k hk => putU_other w7 R u k (fun e => ?_), hMo.same _ _ _ _ c.m fun k hk => hbp.block k (hlm k hk), c'.fx, c'.ex.next (Y := fun k => w.heap.size ≤ k) ⟨hbp.os, hbp.tape, hbp.output, hbp.size, fun k _ hy => hbp.block k (by omega)⟩ (fun k hk hy => by omega)⟩
  rcases hk with hk | hk
  · have := hlt k (.inl hk); omega
  · rcases c.fx k hk with y | y
    · have := hlt k (.inr y); omega
    · omega
theorem MsR.any {m : Ma} {t : Tb} {most : Int} {u : Tu} {P : Int → Nat → Tb → Prop} (h : MsR m t most u P) : ∃ a v t', P a v t' := by
  rcases h with ⟨_, _, _, h⟩ | ⟨_, _, _, h⟩ | ⟨_, _, h⟩
  · exact ⟨_, _, _, h⟩
  · exact ⟨_, _, _, h⟩
  · exact ⟨_, _, _, h⟩
end Go.Proofs.YtooneobnfepncaaGreat
