/-
  Step of a machine that can go on.
  The document's dictionary and machine in memory; their short calls.
-/
import Derived.Test.YtejfmajbggmghaaGreatGi
import Derived.Test.YtejfmajbggmghaaGreatGe
namespace Go.Proofs.YtejfmajbggmghaaGreat
open Go.RowKit Go.WideShapes

/-- What Step tells and leaves, its Seeker at place i. -/
def SoR (w : World) (d g gi r h : Nat) (ev : Value) (t : Tb) (mv : Value) (M : Int → Int → World → Prop) (x : Nat) (sv : Value) (a b : Int) (most : Int) (v : Nat) (m1 : Ma) (s i : Nat) (told : Int) (f : Nat) (u : Tu) (w' : World) : Prop :=
  ∃ j, i ≤ j ∧ j ≤ f ∧
    ((∃ n : Nat, Of t.es m1.hash n ∧ told < (n : Int) ∧ ((∀ k, Of t.es m1.hash k → told < (k : Int) → n ≤ k) ∧ t.c (trl (uw m1.hash) t.L j) = (n : Int) ∧ Told t.es t.L t.c m1.hash j told) ∧
        (((nth t.es n).key = m1.key ∧ u = ⟨2, 0, true, (nth t.es n).value, (n : Int)⟩ ∧ Cm w d g gi r h ev mv M x sv a (b + ((j + 1 - i : Nat) : Int)) most (hitN m1.goal v) (hitT m1 t n) w' gi r h ev ∧ Mc w' x (.pointer (some ⟨s, 0, none⟩)) d { m1 with u := u } ∧ Vi w' s (j + 1)) ∨
         ((nth t.es n).key ≠ m1.key ∧ u = ⟨1, (nth t.es n).key, false, 0, 0⟩ ∧ Cm w d g gi r h ev mv M x sv a (b + ((j + 1 - i : Nat) : Int)) most v t w' gi r h ev ∧ Mc w' x (.pointer (some ⟨s, 0, none⟩)) d { m1 with asked := (n : Int), u := u } ∧ Sw w' d g gi r h ev t mv x s m1.hash (j + 1) (n : Int) f))) ∨
     (j = f ∧ (∀ n, Of t.es m1.hash n → (n : Int) ≤ told) ∧ MsR m1 t most u (fun da dv t' => ∃ gi' r' h' ev', Cm w d g gi r h ev mv M x sv (a + da) (b + ((j + 1 - i : Nat) : Int)) most (v + dv) t' w' gi' r' h' ev' ∧ ¬ cX d g gi' r' h' ev' s) ∧ Mc w' x (.pointer (some ⟨s, 0, none⟩)) d { m1 with u := u } ∧ Vi w' s (j + 1)))
/-- What goOn does, the machine told apart. -/
def GoQ (w : World) (d g gi r h : Nat) (ev : Value) (t : Tb) (mv : Value) (M : Int → Int → World → Prop) (x : Nat) (sv : Value) (a b : Int) (most : Int) (v : Nat) (m1 : Ma) (s i : Nat) (told : Int) (f : Nat) (u : Tu) (m' : Ma) (w' : World) : Prop :=
  ∃ j, i ≤ j ∧ j ≤ f ∧
    ((∃ n : Nat, Of t.es m1.hash n ∧ told < (n : Int) ∧ ((∀ k, Of t.es m1.hash k → told < (k : Int) → n ≤ k) ∧ t.c (trl (uw m1.hash) t.L j) = (n : Int) ∧ Told t.es t.L t.c m1.hash j told) ∧
        (((nth t.es n).key = m1.key ∧ u = ⟨2, 0, true, (nth t.es n).value, (n : Int)⟩ ∧ Cm w d g gi r h ev mv M x sv a (b + ((j + 1 - i : Nat) : Int)) most (hitN m1.goal v) (hitT m1 t n) w' gi r h ev ∧ m' = m1 ∧ Vi w' s (j + 1)) ∨
         ((nth t.es n).key ≠ m1.key ∧ u = ⟨1, (nth t.es n).key, false, 0, 0⟩ ∧ Cm w d g gi r h ev mv M x sv a (b + ((j + 1 - i : Nat) : Int)) most v t w' gi r h ev ∧ m' = { m1 with asked := (n : Int) } ∧ Sw w' d g gi r h ev t mv x s m1.hash (j + 1) (n : Int) f))) ∨
     (j = f ∧ (∀ n, Of t.es m1.hash n → (n : Int) ≤ told) ∧ MsR m1 t most u (fun da dv t' => ∃ gi' r' h' ev', Cm w d g gi r h ev mv M x sv (a + da) (b + ((j + 1 - i : Nat) : Int)) most (v + dv) t' w' gi' r' h' ev' ∧ ¬ cX d g gi' r' h' ev' s) ∧ m' = m1 ∧ Vi w' s (j + 1)))
theorem GoR.q {w : World} {d g gi r h : Nat} {ev : Value} {t : Tb} {mv : Value} {M : Int → Int → World → Prop} {x : Nat} {sv : Value} {a b : Int} {most : Int} {v : Nat} {m1 : Ma} {s i : Nat} {told : Int} {f : Nat} {u : Tu} {w' : World} (h' : GoR w d g gi r h ev t mv M x sv a b most v m1 s i told f u w') : ∃ m', Mc w' x (.pointer (some ⟨s, 0, none⟩)) d m' ∧ GoQ w d g gi r h ev t mv M x sv a b most v m1 s i told f u m' w' ∧ ∃ a' b' v' t' gi' r' h' ev', Cm w d g gi r h ev mv M x sv a' b' most v' t' w' gi' r' h' ev' := by
  obtain ⟨j, h1, h2, (⟨n, h3, h4, h5, (⟨h6, h7, h8, h9, h10⟩ | ⟨h6, h7, h8, h9, h10⟩)⟩ | ⟨h3, h4, h5, h6, h7⟩)⟩ := h'
  · exact ⟨_, h9, ⟨j, h1, h2, .inl ⟨n, h3, h4, h5, .inl ⟨h6, h7, h8, rfl, h10⟩⟩⟩, _, _, _, _, _, _, _, _, h8⟩
  · exact ⟨_, h9, ⟨j, h1, h2, .inl ⟨n, h3, h4, h5, .inr ⟨h6, h7, h8, rfl, h10⟩⟩⟩, _, _, _, _, _, _, _, _, h8⟩
  · obtain ⟨_, _, _, _, _, _, _, hc, _⟩ := h5.any
    exact ⟨_, h6, ⟨j, h1, h2, .inr ⟨h3, h4, h5, rfl, h7⟩⟩, _, _, _, _, _, _, _, _, hc⟩
/-- The same from an older world, and with the turn laid down. -/
theorem Cm.fin {w V wG w' : World} {d g gi r h : Nat} {ev : Value} {t : Tb} {mv : Value} {M : Int → Int → World → Prop} {x : Nat} {sv : Value} {a b a0 b0 : Int} {most : Int} {v v0 : Nat} {t' : Tb} {gi' r' h' : Nat} {ev' : Value} {m : Ma} (hC : Dc w d g gi r h ev t mv most v0) (hMo : MtOk mv M) (hM : M a0 b0 w) (hm : Mx w d g gi r h ev mv x sv m) (hV : Below w.heap.size w V) (hR : w.heap.size < V.heap.size) (c : Cm V d g gi r h ev mv M x sv a b most v t' wG gi' r' h' ev') (hx : Ex (fun k => k = x ∨ k = w.heap.size) wG w') : Cm w d g gi r h ev mv M x sv a b most v t' w' gi' r' h' ev' := by
  have lx := hm.mc.lt (by omega)
  have hlm := fun k hk => hMo.lt a0 b0 w k hM hk
  refine ⟨c.dc.same fun k hk => hx.block k (c.dc.lt k hk) (fun y => ?_), hMo.same _ _ _ _ c.m fun k hk => hx.block k (Nat.lt_of_lt_of_le (hlm k hk) (Nat.le_trans hV.size c.ex.size)) (fun y => ?_), fun j hj => (c.fx j hj).elim .inl (fun z => .inr (by omega)), ?_⟩
  · rcases hk with hk | hk
    · have := hC.hd.lt (by omega)
      rcases y with y | y
      · exact hm.ne (.inl (y ▸ hk))
      · omega
    · rcases c.fx k hk with z | z
      · have := hC.lt k (.inr z)
        rcases y with y | y
        · exact hm.ne (.inr (y ▸ z))
        · omega
      · omega
  · have := hlm k hk
    rcases y with y | y
    · exact hm.nm (y ▸ hk)
    · omega
  · refine ((show Ex (fun k => cX d g gi r h ev k ∨ mB mv k ∨ k = x ∨ mB sv k) w V from ex_of hV).next c.ex (fun _ _ y => y)).next hx (fun k hk y => ?_)
    rcases y with y | y
    · exact .inr (.inr (.inl y))
    · omega
theorem Way.below {w V : World} {d g gi r h : Nat} {ev : Value} {t : Tb} {mv : Value} {v x : Nat} {sv : Value} {m : Ma} (hW : Way w d g gi r h ev t mv v x sv m) (hb : Below w.heap.size w V) : Way V d g gi r h ev t mv v x sv m := by
  rcases hW with y | ⟨y1, y2, y3, s, i, told, f, y4, y5⟩
  · exact .inl y
  · exact .inr ⟨y1, y2, y3, s, i, told, f, y4, y5.of (hb.block s (y5.sk.lt (by omega)))⟩
theorem St0.up {w V : World} {d g gi r h : Nat} {ev : Value} {t : Tb} {mv : Value} {v x : Nat} {sv : Value} {m : Ma} {s i : Nat} {told : Int} {f sc : Nat} (hb : Below w.heap.size w V) (hS : St0 V d g gi r h ev t mv v x sv m s i told f sc) (hsv : ∀ k, mB sv k → k < w.heap.size) : St0 w d g gi r h ev t mv v x sv m s i told f sc ∧ (s < w.heap.size ∨ V.heap.size ≤ s) := by
  rcases hS with ⟨y1, y2, y3, y4, y5, y6⟩ | ⟨y1, y2, y3, y4⟩
  · exact ⟨.inl ⟨y1, y2, y3, y4, Nat.le_trans hb.size y5, y6⟩, .inr y5⟩
  · have hl : s < w.heap.size := hsv s (by rw [y2]; rfl)
    exact ⟨.inr ⟨y1, y2, y3, y4.of (hb.block s hl).symm⟩, .inl hl⟩
theorem step_next {w : World} {d g gi r h : Nat} {ev : Value} {t : Tb} {mv : Value} {M : Int → Int → World → Prop} {a b : Int} {most : Int} {v : Nat} (hC : Dc w d g gi r h ev t mv most v) (hMo : MtOk mv M) (hMv : MvOk mv M) (hM : M a b w) (hm1 : t.made ≤ 1000000) (ha : 0 ≤ a ∧ a ≤ 1000000000) (hb : 0 ≤ b ∧ b ≤ 100000000000) (ht : t.turn ≤ 1000000) (hbi : t.births < 100000) (hv : v ≤ 1000000000) {x : Nat} {sv : Value} {m : Ma} (hm : Mx w d g gi r h ev mv x sv m) (hk : m.u.kind = 0) (hsv : ∀ k, mB sv k → k < w.heap.size) (hsc : m.scans ≤ 1000000) (hver : m.ver ≤ 1000000000) (hW : Way w d g gi r h ev t mv v x sv m) :
    Calls Tryz.prog 10 #[.pointer (some ⟨x, 0, none⟩)] w fun e w' => ∃ u s i told f sc, e = .returned (tuV u) ∧ St0 w d g gi r h ev t mv v x sv m s i told f sc ∧ SoR w d g gi r h ev t mv M x sv a b most v { m with ver := v, scans := sc } s i told f u w' := by
  have hlm := fun k hk => hMo.lt a b w k hM hk
  have lx := hm.mc.lt (by omega)
  refine (step_go hm.mc hk (Q := fun V u sv' m' wG => ∃ s i told f sc, sv' = .pointer (some ⟨s, 0, none⟩) ∧ St0 V d g gi r h ev t mv v x sv m s i told f sc ∧ GoQ V d g gi r h ev t mv M x sv a b most v { m with ver := v, scans := sc } s i told f u m' wG) fun V hV hR => ?_).mono ?_
  · refine (goOn_next (hC.below hV) hMo hMv (hMo.below hM hV) hm1 ha hb ht hbi hv (hm.below hV) hsc hver (hW.below hV)).mono ?_
    rintro e w' ⟨u, s, i, told, f, sc, rfl, hS, hG⟩
    obtain ⟨m', q1, q2, _, _, _, _, _, _, _, _, hc⟩ := hG.q
    refine ⟨u, _, m', rfl, q1, hc.ex.block _ hR (fun y => ?_), s, i, told, f, sc, rfl, hS, q2⟩
    rcases y with y | y | y | y
    · have := hC.lt _ y; omega
    · have := hlm _ y; omega
    · omega
    · have := hsv _ y; omega
  · rintro e w' ⟨u, sv', m', V, wG, rfl, hV, hR, ⟨s, i, told, f, sc, rfl, hS, hG⟩, hMc, hx⟩
    obtain ⟨hS', hsw⟩ := hS.up hV hsv
    refine ⟨u, s, i, told, f, sc, rfl, hS', ?_⟩
    have fin : ∀ {a' b' : Int} {v' : Nat} {t' : Tb} {gi' r' h' : Nat} {ev' : Value}, Cm V d g gi r h ev mv M x sv a' b' most v' t' wG gi' r' h' ev' → Cm w d g gi r h ev mv M x sv a' b' most v' t' w' gi' r' h' ev' := fun c => Cm.fin hC hMo hM hm hV hR c hx
    have hsR : s ≠ w.heap.size := by rcases hsw with y | y <;> omega
    have hsx : ∀ {n : Nat}, Vi wG s n → s ≠ x → Vi w' s n := fun hv hne => hv.same (hx.block s (by obtain ⟨_, _, _, _, _, _, q⟩ := hv; exact q.lt (by omega)) (fun y => y.elim hne hsR))
    have hnx : s ≠ x := by
      rcases hsw with y | y
      · rcases hS' with ⟨_, _, _, _, z, _⟩ | ⟨_, _, _, z⟩
        · omega
        · exact z.nx
      · have := hV.size; omega
    obtain ⟨j, h1, h2, (⟨n, h3, h4, h5, (⟨h6, h7, h8, rfl, h10⟩ | ⟨h6, h7, h8, rfl, h10⟩)⟩ | ⟨h3, h4, h5, rfl, h7⟩)⟩ := hG
    · exact ⟨j, h1, h2, .inl ⟨n, h3, h4, h5, .inl ⟨h6, h7, fin h8, hMc, hsx h10 hnx⟩⟩⟩
    · exact ⟨j, h1, h2, .inl ⟨n, h3, h4, h5, .inr ⟨h6, h7, fin h8, hMc, h10.of (hx.block s (h10.sk.lt (by omega)) (fun y => y.elim hnx hsR))⟩⟩⟩
    · exact ⟨j, h1, h2, .inr ⟨h3, h4, h5.mono (fun _ _ _ ⟨gi', r', h', ev', c, hn⟩ => ⟨gi', r', h', ev', fin c, hn⟩), hMc, hsx h7 hnx⟩⟩
/-- Step where it was told that it is the same. -/
theorem step_told {w : World} {d g gi r h : Nat} {ev : Value} {t : Tb} {mv : Value} {M : Int → Int → World → Prop} {a b : Int} {most : Int} {v : Nat} (hC : Dc w d g gi r h ev t mv most v) (hMo : MtOk mv M) (hM : M a b w) (ht : t.turn ≤ 1000000) (hv : v ≤ 1000000000) {x : Nat} {sv : Value} {m : Ma} (hm : Mx w d g gi r h ev mv x sv m) (hk : m.u.kind = 0) (hsv : ∀ k, mB sv k → k < w.heap.size) (h0 : m.scans ≠ 0) (hver : m.ver = v) (hsame : m.same = true) (n : Nat) (hask : m.asked = (n : Int)) (hn : n < t.es.length) (hl : (nth t.es n).live = true) :
    Calls Tryz.prog 10 #[.pointer (some ⟨x, 0, none⟩)] w fun e w' => e = .returned (tuV ⟨2, 0, true, (nth t.es n).value, (n : Int)⟩) ∧ Cm w d g gi r h ev mv M x sv a b most (hitN m.goal v) (hitT m t n) w' gi r h ev ∧ Mc w' x sv d { m with u := ⟨2, 0, true, (nth t.es n).value, (n : Int)⟩ } ∧ ∀ s, s < w.heap.size → ¬ cX d g gi r h ev s → ¬ mB mv s → s ≠ x → w'.heap[s]? = w.heap[s]? := by
  have hlm := fun k hk => hMo.lt a b w k hM hk
  have lx := hm.mc.lt (by omega)
  refine (step_go hm.mc hk (Q := fun V u sv' m' wG => u = ⟨2, 0, true, (nth t.es n).value, (n : Int)⟩ ∧ sv' = sv ∧ m' = m ∧ Cm V d g gi r h ev mv M x sv a b most (hitN m.goal v) (hitT m t n) wG gi r h ev ∧ Ex (fun k => cX d g gi r h ev k ∨ mB mv k) V wG) fun V hV hR => ?_).mono ?_
  · refine (goOn_told (hC.below hV) hMo (hMo.below hM hV) ht hv (hm.below hV) h0 hver hsame n hask hn hl).mono ?_
    rintro e w' ⟨rfl, hc, hmc, hx⟩
    refine ⟨_, _, _, rfl, hmc, hx.block _ hR (fun y => ?_), rfl, rfl, rfl, hc, hx⟩
    rcases y with y | y
    · have := hC.lt _ y; omega
    · have := hlm _ y; omega
  · rintro e w' ⟨u, sv', m', V, wG, rfl, hV, hR, ⟨rfl, rfl, rfl, hc, hxG⟩, hMc, hx⟩
    refine ⟨rfl, Cm.fin hC hMo hM hm hV hR hc hx, hMc, fun s hs h1 h2 h3 => ?_⟩
    have hsV : s < V.heap.size := Nat.lt_of_lt_of_le hs hV.size
    rw [hx.block s (Nat.lt_of_lt_of_le hsV hxG.size) (fun y => y.elim h3 (fun z => by omega)), hxG.block s hsV (fun y => y.elim h1 h2), hV.block s hs]
end Go.Proofs.YtejfmajbggmghaaGreat
namespace Go.Proofs.YtejfmajbggmghaaGreat
open Go.RowKit Go.WideShapes

def rdF (most : Int) (v g : Nat) : Nat → Value
  | 0 => .int .i64 most
  | 1 => .int .i64 (v : Int)
  | _ => .pointer (some ⟨g, 0, none⟩)
/-- The blocks of the document's dictionary. -/
def rX (d g q : Nat) (ev : Value) (k : Nat) : Prop := k = d ∨ k = g ∨ k = q ∨ ev.ownBlock = some k
structure Rdc (w : World) (d g q : Nat) (ev : Value) (t : Tb) (mv : Value) (most : Int) (v : Nat) : Prop where
  hd : Blk w d 3 (rdF most v g)
  rt : RtS w g ev q t mv
  ne : ¬ (d = g ∨ d = q ∨ ev.ownBlock = some d)
  nm : ¬ mB mv d
theorem Rdc.same {w w' : World} {d g q : Nat} {ev : Value} {t : Tb} {mv : Value} {most : Int} {v : Nat} (x : Rdc w d g q ev t mv most v) (e : ∀ k, rX d g q ev k → w'.heap[k]? = w.heap[k]?) : Rdc w' d g q ev t mv most v :=
  ⟨x.hd.same (e d (.inl rfl)), x.rt.same fun k hk => e k (.inr hk), x.ne, x.nm⟩
theorem Rt.lt' {w : World} {g : Nat} {ev : Value} {q : Nat} {t : Tb} {mv : Value} (h : Rt w g ev q t mv) : ∀ k, (k = g ∨ k = q ∨ ev.ownBlock = some k) → k < w.heap.size := by
  rintro k (rfl | rfl | hk)
  · exact h.hd.lt (by omega)
  · exact h.rf.lt (pow2_pos _)
  · exact h.es.lt k hk
theorem Rdc.lt {w : World} {d g q : Nat} {ev : Value} {t : Tb} {mv : Value} {most : Int} {v : Nat} (x : Rdc w d g q ev t mv most v) : ∀ k, rX d g q ev k → k < w.heap.size := by
  rintro k (rfl | hk)
  · exact x.hd.lt (by omega)
  · exact x.rt.lt' k hk
theorem Rdc.below {w w' : World} {d g q : Nat} {ev : Value} {t : Tb} {mv : Value} {most : Int} {v : Nat} (x : Rdc w d g q ev t mv most v) (hb : Below w.heap.size w w') : Rdc w' d g q ev t mv most v := x.same fun k hk => hb.block k (x.lt k hk)
theorem Rdc.mp {w : World} {d g q : Nat} {ev : Value} {t : Tb} {mv : Value} {most : Int} {v : Nat} (x : Rdc w d g q ev t mv most v) (k : Nat) (hk : mB mv k) : ¬ rX d g q ev k := by
  obtain ⟨m1, m2, m3⟩ := x.rt.mp k hk
  rintro (y | y | y | y)
  · exact x.nm (y ▸ hk)
  · exact m1 y
  · exact m2 y
  · exact m3 y
/-- What the document's machine keeps beside the program's numbers: the entry at which it waits, whether it waits, was told the same, has ended, its turn. -/
structure Rz where
  at_ : Int
  waits : Bool
  same : Bool
  over : Bool
  u : Tu
def rmF (sv : Value) (d : Nat) (m : Ma) (z : Rz) : Nat → Value
  | 0 => .pointer (some ⟨d, 0, none⟩)
  | 1 => .int .i64 (m.goal : Int)
  | 2 => .int .i64 m.hash
  | 3 => .int .i64 m.key
  | 4 => .int .i64 m.value
  | 5 => sv
  | 6 => .int .i64 (m.ver : Int)
  | 7 => .int .i64 z.at_
  | 8 => .bool z.waits
  | 9 => .bool z.same
  | 10 => .bool z.over
  | 11 => .int .i64 z.u.kind
  | 12 => .int .i64 z.u.key
  | 13 => .bool z.u.found
  | 14 => .int .i64 z.u.value
  | 15 => .int .i64 z.u.entry
  | _ => .int .i64 (m.scans : Int)
def Rm (w : World) (y : Nat) (sv : Value) (d : Nat) (m : Ma) (z : Rz) : Prop := Blk w y 17 (rmF sv d m z)
theorem eqRS (s : Nat) (w : World) : (binOp .eql 118 (.pointer (some ⟨s, 0, none⟩)) (.pointer none)).run Tryz.prog w = .ok (.bool false) w := by kernel_rfl
theorem eqRSn (w : World) : (binOp .eql 118 (.pointer none) (.pointer none)).run Tryz.prog w = .ok (.bool true) w := by kernel_rfl
theorem rplen_any {w : World} {d g q : Nat} {ev : Value} {t : Tb} {mv : Value} {most : Int} {v : Nat} (hR : Rdc w d g q ev t mv most v) :
    Calls Tryz.prog 40 #[.pointer (some ⟨d, 0, none⟩)] w fun e w' => e = .returned (.int .i64 (t.live : Int)) ∧ w' = w := by
  have k2 : w.cell? ⟨d, 2, none⟩ = some (.pointer (some ⟨g, 0, none⟩)) := hR.hd.c 2 (by omega)
  have k3 : w.cell? ⟨g, 3, none⟩ = some (.int .i64 (t.live : Int)) := by
    have h := hR.rt.hd.c 3 (by omega)
    rw [show tF ev q t.sh mv 3 = Value.int .i64 (t.live : Int) from by show Value.int .i64 (t.sh.live : Int) = _; rw [Tb.sh_live]] at h
    exact h
  clear hR
  go_enter Tryz.func40, Tryz.ntmps40
  go_wp2
  go_ret
  exact ⟨rfl, rfl⟩
set_option maxRecDepth 100000 in
theorem rbegin_yes (d : Nat) (goal : Nat) (hg1 : 1 ≤ goal) (hg4 : goal ≤ 4) (u k x : Int) (w : World) :
    Calls Tryz.prog 32 #[.pointer (some ⟨d, 0, none⟩), .int .i64 (goal : Int), .int .i64 u, .int .i64 k, .int .i64 x] w fun e w' => ∃ b, e = .returned (.pointer (some ⟨b, 0, none⟩)) ∧ w.heap.size ≤ b ∧ Rm w' b (.pointer none) d ⟨goal, u, k, x, 0, 0, Tu.zero, 0, false⟩ ⟨0, false, false, false, Tu.zero⟩ ∧ Below w.heap.size w w' := by
  have t0 : decide ((goal : Int) < 1) = false := decide_eq_false (by omega)
  have t1 : decide (4 < (goal : Int)) = false := decide_eq_false (by omega)
  have HM : Hid (Rm (w.alloc (.cells #[.pointer (some ⟨d, 0, none⟩), .int .i64 (goal : Int), .int .i64 u, .int .i64 k, .int .i64 x, .pointer none, .int .i64 0, .int .i64 0, .bool false, .bool false, .bool false, .int .i64 0, .int .i64 0, .bool false, .int .i64 0, .int .i64 0, .int .i64 0] 120)) w.heap.size (.pointer none) d ⟨goal, u, k, x, 0, 0, Tu.zero, 0, false⟩ ⟨0, false, false, false, Tu.zero⟩) := by
    refine (Blk.new w _ _).congr fun j hj => ?_
    rcases lt17 (by simpa using hj) with rfl | rfl | rfl | rfl | rfl | rfl | rfl | rfl | rfl | rfl | rfl | rfl | rfl | rfl | rfl | rfl | rfl
    all_goals rfl
  go_enter Tryz.func32, Tryz.ntmps32
  go_wp2
  go_ret
  exact ⟨_, rfl, Nat.le_refl _, HM.out, (Below.refl _ w).alloc (Nat.le_refl _) _⟩
theorem rbegin_no (d : Nat) (goal : Int) (hg : goal < 1 ∨ 4 < goal) (u k x : Int) (w : World) :
    Calls Tryz.prog 32 #[.pointer (some ⟨d, 0, none⟩), .int .i64 goal, .int .i64 u, .int .i64 k, .int .i64 x] w fun e w' => e = .returned (.pointer none) ∧ w' = w := by
  rcases (by omega : goal < 1 ∨ 1 ≤ goal) with t0 | t0
  · go_enter Tryz.func32, Tryz.ntmps32
    go_wp2
    go_ret
    exact ⟨rfl, rfl⟩
  · have t1 : ¬ goal < 1 := by omega
    have t2 : 4 < goal := by omega
    clear hg t0
    go_enter Tryz.func32, Tryz.ntmps32
    go_wp2
    go_ret
    exact ⟨rfl, rfl⟩
set_option maxRecDepth 100000 in
theorem rtell_yes {w : World} {y d : Nat} {sv : Value} {m : Ma} {z : Rz} (hm : Rm w y sv d m z) (ho : z.over = false) (hw : z.waits = true) (c : Bool) :
    Calls Tryz.prog 35 #[.pointer (some ⟨y, 0, none⟩), .bool c] w fun e w' => e = .returned (.int .i64 0) ∧ Rm w' y sv d m { z with waits := false, same := c } ∧ Ex (fun k => k = y) w w' := by
  have k8 : w.cell? ⟨y, 8, none⟩ = some (.bool true) := by rw [← hw]; exact hm.c 8 (by omega)
  have k9 : w.cell? ⟨y, 9, none⟩ = some (.bool z.same) := hm.c 9 (by omega)
  have k10 : w.cell? ⟨y, 10, none⟩ = some (.bool false) := by rw [← ho]; exact hm.c 10 (by omega)
  have z8 := hm.z 8
  have z9 := hm.z 9
  have HM : Hid (Rm ((w.setCell ⟨y, 8, none⟩ (.bool false)).setCell ⟨y, 9, none⟩ (.bool c)) y sv d m { z with waits := false, same := c }) := ((hm.put 8 _).put 9 _).congr fun j hj => by
    rcases lt17 hj with rfl | rfl | rfl | rfl | rfl | rfl | rfl | rfl | rfl | rfl | rfl | rfl | rfl | rfl | rfl | rfl | rfl <;> rfl
  have HX : Hid (Ex (fun k => k = y) w ((w.setCell ⟨y, 8, none⟩ (.bool false)).setCell ⟨y, 9, none⟩ (.bool c))) := ((Ex.refl (fun k => k = y) w).setCell (p := ⟨y, 8, none⟩) (fun _ => rfl) _).setCell (p := ⟨y, 9, none⟩) (fun _ => rfl) _
  clear hm ho hw
  go_enter Tryz.func35, Tryz.ntmps35
  go_wp2
  go_ret
  exact ⟨rfl, HM.out, HX.out⟩
theorem rtell_no {w : World} {y d : Nat} {sv : Value} {m : Ma} {z : Rz} (hm : Rm w y sv d m z) (ho : z.over = true ∨ z.waits = false) (c : Bool) :
    Calls Tryz.prog 35 #[.pointer (some ⟨y, 0, none⟩), .bool c] w fun e w' => e = .returned (.int .i64 8) ∧ w' = w := by
  have k8 : w.cell? ⟨y, 8, none⟩ = some (.bool z.waits) := hm.c 8 (by omega)
  have k10 : w.cell? ⟨y, 10, none⟩ = some (.bool z.over) := hm.c 10 (by omega)
  clear hm
  generalize z.waits = a at *
  generalize z.over = b at *
  cases b with
  | true =>
    clear ho
    go_enter Tryz.func35, Tryz.ntmps35
    go_wp2
    go_ret
    exact ⟨rfl, rfl⟩
  | false =>
    obtain rfl : a = false := by rcases ho with h | h; cases h; exact h
    clear ho
    go_enter Tryz.func35, Tryz.ntmps35
    go_wp2
    go_ret
    exact ⟨rfl, rfl⟩
end Go.Proofs.YtejfmajbggmghaaGreat
