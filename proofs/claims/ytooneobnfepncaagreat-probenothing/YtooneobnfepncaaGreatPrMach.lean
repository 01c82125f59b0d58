/-
  A machine in memory; Begin; what a hit and a miss do.
-/
import Derived.Test.YtooneobnfepncaaGreatPrRow
namespace Go.Proofs.YtooneobnfepncaaGreat
open Go.RowKit Go.WideShapes

/-- A turn. -/
structure Tu where
  kind : Int
  key : Int
  found : Bool
  value : Int
  entry : Int
def Tu.zero : Tu := ⟨0, 0, false, 0, 0⟩
def tuV (u : Tu) : Value := .agg #[.int .i64 u.kind, .int .i64 u.key, .bool u.found, .int .i64 u.value, .int .i64 u.entry]
/-- A machine: its goal, hash, key, value; the version that it kept, its scans, its turn, what it asked at, what it was told. -/
structure Ma where
  goal : Nat
  hash : Int
  key : Int
  value : Int
  ver : Nat
  scans : Nat
  u : Tu
  asked : Int
  same : Bool
def mcF (sv : Value) (d : Nat) (m : Ma) : Nat → Value
  | 0 => sv
  | 1 => .pointer (some ⟨d, 0, none⟩)
  | 2 => .int .i64 (m.goal : Int)
  | 3 => hitV m.goal
  | 4 => missV m.goal
  | 5 => .int .i64 m.hash
  | 6 => .int .i64 m.key
  | 7 => .int .i64 m.value
  | 8 => .int .u64 (m.ver : Int)
  | 9 => .int .i64 (m.scans : Int)
  | 10 => .int .i64 m.u.kind
  | 11 => .int .i64 m.u.key
  | 12 => .bool m.u.found
  | 13 => .int .i64 m.u.value
  | 14 => .int .i64 m.u.entry
  | 15 => .int .i64 m.asked
  | _ => .bool m.same
def Mc (w : World) (x : Nat) (sv : Value) (d : Nat) (m : Ma) : Prop := Blk w x 17 (mcF sv d m)
theorem lt17 {j : Nat} (h : j < 17) : j = 0 ∨ j = 1 ∨ j = 2 ∨ j = 3 ∨ j = 4 ∨ j = 5 ∨ j = 6 ∨ j = 7 ∨ j = 8 ∨ j = 9 ∨ j = 10 ∨ j = 11 ∨ j = 12 ∨ j = 13 ∨ j = 14 ∨ j = 15 ∨ j = 16 := by omega
set_option maxRecDepth 100000 in
set_option maxHeartbeats 2000000 in
theorem begin_yes (d : Nat) (goal : Nat) (hg1 : 1 ≤ goal) (hg4 : goal ≤ 4) (u k x : Int) (w : World) :
    Calls Tryz.prog 14 #[.pointer (some ⟨d, 0, none⟩), .int .i64 (goal : Int), .int .i64 u, .int .i64 k, .int .i64 x] w fun e w' => ∃ b, e = .returned (.pointer (some ⟨b, 0, none⟩)) ∧ w.heap.size ≤ b ∧ Mc w' b (.pointer none) d ⟨goal, u, k, x, 0, 0, Tu.zero, 0, false⟩ ∧ Below w.heap.size w w' := by
  have C1 := rowOf_yes goal hg1 hg4 w
  have h1 := eqD d
  obtain ⟨fh, hfh⟩ : ∃ y, hitV goal = Value.func (.func y) #[] #[] := ⟨_, rfl⟩
  obtain ⟨fm, hfm⟩ : ∃ y, missV goal = Value.func (.func y) #[] #[] := ⟨_, rfl⟩
  rw [hfh, hfm] at C1
  have HFH := Lib.hid hfh
  have HFM := Lib.hid hfm
  clear hfh hfm
  go_enter Tryz.func14, Tryz.ntmps14
  go_wp2_with fail
  refine C1.mono ?_
  rintro e w1 ⟨rfl, hb1⟩
  clear C1
  obtain ⟨w2, hw2⟩ : ∃ y, w1.alloc (.cells #[.int .i64 (goal : Int), .func (.func fh) #[] #[], .func (.func fm) #[] #[]] 116) = y := ⟨_, rfl⟩
  have hb2 : Below w1.heap.size w1 w2 := by rw [← hw2]; exact (Below.refl _ w1).alloc (Nat.le_refl _) _
  have hX2 : Blk w2 w1.heap.size 3 (fun j => #[Value.int .i64 (goal : Int), .func (.func fh) #[] #[], .func (.func fm) #[] #[]].getD j .nilFunc) := by rw [← hw2]; exact Blk.new w1 _ _
  have p0 : w2.cell? ⟨w1.heap.size, 0, none⟩ = some (.int .i64 (goal : Int)) := hX2.c 0 (by omega)
  have p1 : w2.cell? ⟨w1.heap.size, 1, none⟩ = some (.func (.func fh) #[] #[]) := hX2.c 1 (by omega)
  have p2 : w2.cell? ⟨w1.heap.size, 2, none⟩ = some (.func (.func fm) #[] #[]) := hX2.c 2 (by omega)
  have HB2 := Lib.hid (hb1.trans (hb2.mono hb1.size))
  have HW2 := Lib.hid hw2
  have HM : Hid (Mc (w2.alloc (.cells #[.pointer none, .pointer (some ⟨d, 0, none⟩), .int .i64 (goal : Int), .func (.func fh) #[] #[], .func (.func fm) #[] #[], .int .i64 u, .int .i64 k, .int .i64 x, .int .u64 0, .int .i64 0, .int .i64 0, .int .i64 0, .bool false, .int .i64 0, .int .i64 0, .int .i64 0, .bool false] 121)) w2.heap.size (.pointer none) d ⟨goal, u, k, x, 0, 0, Tu.zero, 0, false⟩) := by
    refine (Blk.new w2 _ _).congr fun j hj => ?_
    rcases lt17 (by simpa using hj) with rfl | rfl | rfl | rfl | rfl | rfl | rfl | rfl | rfl | rfl | rfl | rfl | rfl | rfl | rfl | rfl | rfl
    · rfl
    · rfl
    · rfl
    · exact HFH.out
    · exact HFM.out
    all_goals rfl
  clear hw2 hX2 hb1 hb2
  go_upto_region 2 with fail
  rw [HW2.out]
  go_wp2
  go_ret
  exact ⟨_, rfl, HB2.out.size, HM.out, HB2.out.alloc HB2.out.size _⟩
theorem leave_any (a b : Value) (w : World) : Calls Tryz.prog 86 #[a, b] w fun e w' => e = .returned (.tuple #[]) ∧ w' = w := by
  go_enter Tryz.func86, Tryz.ntmps86
  go_wp2
  go_end0
  exact ⟨rfl, rfl⟩
set_option maxRecDepth 100000 in
theorem tellNone_any (a : Value) (w : World) : Calls Tryz.prog 87 #[a] w fun e w' => e = .returned (tuV ⟨2, 0, false, 0, -1⟩) ∧ Below w.heap.size w w' := by
  unfold tuV
  go_enter Tryz.func87, Tryz.ntmps87
  go_wp2
  refine bodyPost_ret (v := .agg #[.int .i64 2, .int .i64 0, .bool false, .int .i64 0, .int .i64 (-1)]) ?_ rfl ⟨rfl, (Below.refl _ w).alloc (Nat.le_refl _) _⟩
  simp [results, Tryz.results87, go_sem]
/-- A machine lies apart from its dictionary. -/
structure Mx (w : World) (d g gi r h : Nat) (ev : Value) (mv : Value) (x : Nat) (sv : Value) (m : Ma) : Prop where
  mc : Mc w x sv d m
  ne : ¬ cX d g gi r h ev x
  nm : ¬ mB mv x
theorem Cd.block {w w' : World} {d g gi r h : Nat} {ev : Value} {mv : Value} {M : Int → Int → World → Prop} {a b : Int} {most : Int} {v : Nat} {t' : Tb} {gi' r' h' : Nat} {ev' : Value} (c : Cd w d g gi r h ev mv M a b most v t' w' gi' r' h' ev') {x : Nat} (hx : x < w.heap.size) (h1 : ¬ cX d g gi r h ev x) (h2 : ¬ mB mv x) : w'.heap[x]? = w.heap[x]? := c.ex.block x hx (fun h => h.elim h1 h2)
/-- Nothing changed. -/
theorem Dc.cd {w w' : World} {d g gi r h : Nat} {ev : Value} {t : Tb} {mv : Value} {M : Int → Int → World → Prop} {a b : Int} {most : Int} {v : Nat} (hC : Dc w d g gi r h ev t mv most v) (hMo : MtOk mv M) (hM : M a b w) (hb : Below w.heap.size w w') : Cd w d g gi r h ev mv M a b most v t w' gi r h ev :=
  ⟨hC.below hb, hMo.below hM hb, fun _ hj => .inl hj, ex_of hb⟩
/-- The same call, from a world that has only more. -/
theorem Cd.from {w w0 w' : World} {d g gi r h : Nat} {ev : Value} {mv : Value} {M : Int → Int → World → Prop} {a b : Int} {most : Int} {v : Nat} {t' : Tb} {gi' r' h' : Nat} {ev' : Value} (c : Cd w0 d g gi r h ev mv M a b most v t' w' gi' r' h' ev') (hb : Below w.heap.size w w0) : Cd w d g gi r h ev mv M a b most v t' w' gi' r' h' ev' :=
  ⟨c.dc, c.m, fun j hj => (c.fx j hj).elim .inl (fun x => .inr (Nat.le_trans hb.size x)), (ex_of hb).next c.ex (fun _ _ x => x)⟩
set_option maxRecDepth 100000 in
theorem turnValue_any {w : World} {d g gi r h : Nat} {ev : Value} {t : Tb} {mv : Value} {M : Int → Int → World → Prop} {a b : Int} {most : Int} {v : Nat} (hC : Dc w d g gi r h ev t mv most v) (hMo : MtOk mv M) (hM : M a b w) (hv : v ≤ 1000000000) {x : Nat} {sv : Value} {m : Ma} (hm : Mx w d g gi r h ev mv x sv m) (n : Nat) (hn : n < t.es.length) (hl : (nth t.es n).live = true) :
    Calls Tryz.prog 88 #[.pointer (some ⟨x, 0, none⟩), .int .i64 (n : Int)] w fun e w' => e = .returned (.tuple #[]) ∧ Cd w d g gi r h ev mv M a b most (v + 1) (t.putv n m.value) w' gi r h ev := by
  have hbd : Below w.heap.size w w.drew := (Below.refl _ w).drew
  have C1 := pturn_any (hC.below hbd) hMo (hMo.below hM hbd) hv n hn hl m.value
  have k1 : w.drew.cell? ⟨x, 1, none⟩ = some (.pointer (some ⟨d, 0, none⟩)) := hm.mc.c 1 (by omega)
  have k7 : w.drew.cell? ⟨x, 7, none⟩ = some (.int .i64 m.value) := hm.mc.c 7 (by omega)
  have HK : Hid (∀ V : World, V.heap[x]? = w.heap[x]? → V.cell? ⟨x, 1, none⟩ = some (.pointer (some ⟨d, 0, none⟩)) ∧ V.cell? ⟨x, 7, none⟩ = some (.int .i64 m.value)) := fun V hV => ⟨(hm.mc.same hV).c 1 (by omega), (hm.mc.same hV).c 7 (by omega)⟩
  have hlx := hm.mc.lt (by omega)
  have hne := hm.ne
  have hnm := hm.nm
  have HBD := Lib.hid hbd
  clear hC hMo hM hm hl hbd
  generalize m.value = z at *
  go_enter Tryz.func88, Tryz.ntmps88
  go_wp2_with fail
  go_region_held3 (fun V => V.cell? ⟨x, 1, none⟩ = some (.pointer (some ⟨d, 0, none⟩)) ∧ V.cell? ⟨x, 7, none⟩ = some (.int .i64 z))
    (first | with_reducible exact ⟨k1, k7⟩ | with_reducible exact s1 | fail)
    (first | (go_at_call 123; refine C1.mono ?_; rintro e w1 ⟨rfl, hF⟩; have s1 := HK.out w1 (hF.block hlx hne hnm)) | fail)
  have HF := Lib.hid (hF.from HBD.out)
  clear hF s1 k1 k7 C1
  go_wp2
  go_end0
  exact ⟨rfl, HF.out⟩
theorem takeOut_any {w : World} {d g gi r h : Nat} {ev : Value} {t : Tb} {mv : Value} {M : Int → Int → World → Prop} {a b : Int} {most : Int} {v : Nat} (hC : Dc w d g gi r h ev t mv most v) (hMo : MtOk mv M) (hM : M a b w) (ht : t.turn ≤ 1000000) (hv : v ≤ 1000000000) {x : Nat} {sv : Value} {m : Ma} (hm : Mx w d g gi r h ev mv x sv m) (n : Nat) (hn : n < t.es.length) (hl : (nth t.es n).live = true) :
    Calls Tryz.prog 90 #[.pointer (some ⟨x, 0, none⟩), .int .i64 (n : Int)] w fun e w' => e = .returned (.tuple #[]) ∧ Cd w d g gi r h ev mv M a b most (v + 1) (t.kill n) w' gi r h ev := by
  have C1 := ptake_yes hC hMo hM ht hv n hn hl
  have k1 : w.cell? ⟨x, 1, none⟩ = some (.pointer (some ⟨d, 0, none⟩)) := hm.mc.c 1 (by omega)
  clear hC hMo hM hm hl
  unfold eV at C1
  go_enter Tryz.func90, Tryz.ntmps90
  go_wp2_with fail
  refine C1.mono ?_
  rintro e w1 ⟨rfl, hF⟩
  clear C1
  have HF := Lib.hid hF
  clear hF
  go_wp2
  go_end0
  exact ⟨rfl, HF.out⟩
/-- What a hit makes of a table and its version. -/
noncomputable def hitT (m : Ma) (t : Tb) (n : Nat) : Tb := if m.goal = 2 then t.putv n m.value else if m.goal = 3 then t.kill n else t
def hitN (goal v : Nat) : Nat := if goal = 2 ∨ goal = 3 then v + 1 else v
theorem hitF_any {w : World} {d g gi r h : Nat} {ev : Value} {t : Tb} {mv : Value} {M : Int → Int → World → Prop} {a b : Int} {most : Int} {v : Nat} (hC : Dc w d g gi r h ev t mv most v) (hMo : MtOk mv M) (hM : M a b w) (ht : t.turn ≤ 1000000) (hv : v ≤ 1000000000) {x : Nat} {sv : Value} {m : Ma} (hm : Mx w d g gi r h ev mv x sv m) (n : Nat) (hn : n < t.es.length) (hl : (nth t.es n).live = true) :
    Calls Tryz.prog (hitF m.goal) #[.pointer (some ⟨x, 0, none⟩), .int .i64 (n : Int)] w fun e w' => e = .returned (.tuple #[]) ∧ Cd w d g gi r h ev mv M a b most (hitN m.goal v) (hitT m t n) w' gi r h ev := by
  by_cases h2 : m.goal = 2
  · rw [hitF, if_pos h2, hitN, if_pos (.inl h2), hitT, if_pos h2]
    exact turnValue_any hC hMo hM hv hm n hn hl
  · by_cases h3 : m.goal = 3
    · rw [hitF, if_neg h2, if_pos h3, hitN, if_pos (.inr h3), hitT, if_neg h2, if_pos h3]
      exact takeOut_any hC hMo hM ht hv hm n hn hl
    · rw [hitF, if_neg h2, if_neg h3, hitN, if_neg (fun x => x.elim h2 h3), hitT, if_neg h2, if_neg h3]
      refine (leave_any _ _ w).mono ?_
      rintro e w' ⟨rfl, rfl⟩
      exact ⟨rfl, hC.cd hMo hM (Below.refl _ _)⟩
/-- What a miss makes of a table and its version, and what it tells. -/
noncomputable def missT (m : Ma) (t : Tb) (most : Int) : Tb := if (m.goal = 2 ∨ m.goal = 4) ∧ (t.live : Int) < most then t.add m.hash m.key m.value else t
def missN (m : Ma) (t : Tb) (most : Int) (v : Nat) : Nat := if (m.goal = 2 ∨ m.goal = 4) ∧ (t.live : Int) < most then v + 1 else v
noncomputable def missU (m : Ma) (t : Tb) (most : Int) : Tu := if m.goal = 2 ∨ m.goal = 4 then (if (t.live : Int) < most then ⟨2, 0, false, m.value, (((t.add m.hash m.key m.value).es.length - 1 : Nat) : Int)⟩ else ⟨3, 0, false, 0, 0⟩) else ⟨2, 0, false, 0, -1⟩
set_option maxRecDepth 100000 in
set_option maxHeartbeats 2000000 in
theorem addPair_yes {w : World} {d g gi r h : Nat} {ev : Value} {t : Tb} {mv : Value} {M : Int → Int → World → Prop} {a b : Int} {most : Int} {v : Nat} (hC : Dc w d g gi r h ev t mv most v) (hMo : MtOk mv M) (hM : M a b w) (hm1 : t.made ≤ 1000000) (ha : 0 ≤ a ∧ a ≤ 1000000000) (ht : t.turn ≤ 1000000) (hb : t.births < 100000) (hv : v ≤ 1000000000) {x : Nat} {sv : Value} {m : Ma} (hm : Mx w d g gi r h ev mv x sv m) (hf : (t.live : Int) < most) :
    Calls Tryz.prog 89 #[.pointer (some ⟨x, 0, none⟩)] w fun e w' => e = .returned (tuV ⟨2, 0, false, m.value, (((t.add m.hash m.key m.value).es.length - 1 : Nat) : Int)⟩) ∧ ∃ gi' r' h' ev', Cd w d g gi r h ev mv M (a + ((t.add m.hash m.key m.value).made - t.made : Nat)) b most (v + 1) (t.add m.hash m.key m.value) w' gi' r' h' ev' := by
  have HK0 : Hid (∀ V : World, V.heap[x]? = w.heap[x]? → (V.cell? ⟨x, 1, none⟩ = some (.pointer (some ⟨d, 0, none⟩)) ∧ V.cell? ⟨x, 5, none⟩ = some (.int .i64 m.hash)) ∧ V.cell? ⟨x, 6, none⟩ = some (.int .i64 m.key) ∧ V.cell? ⟨x, 7, none⟩ = some (.int .i64 m.value)) := fun V hV => by
    have h1 : Mc V x sv d m := hm.mc.same hV
    exact ⟨⟨h1.c 1 (by omega), h1.c 5 (by omega)⟩, h1.c 6 (by omega), h1.c 7 (by omega)⟩
  have hne := hm.ne
  have hnm := hm.nm
  obtain ⟨w1, hw1⟩ : ∃ y, w.alloc (.cells #[.int .i64 0, .int .i64 0, .bool false, .int .i64 0, .int .i64 0] 77) = y := ⟨_, rfl⟩
  have hB1 : Below w.heap.size w w1 := by rw [← hw1]; exact (Below.refl _ w).alloc (Nat.le_refl _) _
  have hX1 : Blk w1 w.heap.size 5 (fun j => #[Value.int .i64 0, .int .i64 0, .bool false, .int .i64 0, .int .i64 0].getD j .nilFunc) := by rw [← hw1]; exact Blk.new w _ _
  have hC1 := hC.below hB1
  have hm1' : Mc w1 x sv d m := hm.mc.of hB1 (by omega)
  have lx := hm.mc.lt (by omega)
  have lR := hX1.lt (by omega)
  have k1 : w1.cell? ⟨x, 1, none⟩ = some (.pointer (some ⟨d, 0, none⟩)) := hm1'.c 1 (by omega)
  have C1 := isFull_any (hC1.hd.c 0 (by omega)) (hC1.hd.c 1 (by omega)) (hC1.dt.hd.c 3 (by omega))
  have C1' : Calls Tryz.prog 124 #[.pointer (some ⟨d, 0, none⟩)] w1 fun e w' => e = .returned (.bool (decide (most ≤ (t.live : Int)))) ∧ w' = w1.drew := C1
  have hlm := fun k hk => hMo.lt a b w k hM hk
  have HC := Lib.hid hC
  have HMo := Lib.hid hMo
  have HM := Lib.hid hM
  have HB1 := Lib.hid hB1
  have HX1 := Lib.hid hX1
  have HW1 := Lib.hid hw1
  clear hC hMo hM hC1 hm1' hB1 hX1 hw1 C1 hm
  unfold tuV
  generalize m.hash = zh at *
  generalize m.key = zk at *
  generalize m.value = zv at *
  go_enter Tryz.func89, Tryz.ntmps89
  go_upto_region 1 with fail
  rw [HW1.out]
  go_wp2_with fail
  refine C1'.mono ?_
  rintro e w2 ⟨rfl, hw2⟩
  clear C1'
  have hB2 : Below w.heap.size w w2 := by rw [hw2]; exact HB1.out.drew
  have hX2 : Blk w2 w.heap.size 5 (fun j => #[Value.int .i64 0, .int .i64 0, .bool false, .int .i64 0, .int .i64 0].getD j .nilFunc) := by rw [hw2]; exact HX1.out.same rfl
  have hl2 : w.heap.size < w2.heap.size := by rw [hw2]; exact lR
  clear hw2 k1
  have tf : decide (most ≤ (t.live : Int)) = false := decide_eq_false (by omega)
  rw [tf]
  have hBd := hB2.drew
  have hCd := HC.out.below hBd
  have C2 := padd_any hCd HMo.out (HMo.out.below HM.out hBd) hm1 ha ht hb hv zh zk zv
  have hx2 : w2.heap[x]? = w.heap[x]? := hB2.block x lx
  have HK : Hid (∀ V : World, V.heap[x]? = w2.heap[x]? → (V.cell? ⟨x, 1, none⟩ = some (.pointer (some ⟨d, 0, none⟩)) ∧ V.cell? ⟨x, 5, none⟩ = some (.int .i64 zh)) ∧ V.cell? ⟨x, 6, none⟩ = some (.int .i64 zk) ∧ V.cell? ⟨x, 7, none⟩ = some (.int .i64 zv)) := fun V hV => HK0.out V (hV.trans hx2)
  have s0 := HK.out w2.drew rfl
  have lx2 : x < w2.drew.heap.size := by have h9 : w2.drew.heap.size = w2.heap.size := rfl; have := hB2.size; omega
  have HBd := Lib.hid hBd
  have HX2 := Lib.hid hX2
  clear hB2 hX2 hBd hCd tf hx2
  go_upto_region 3 with fail
  go_region_held3 (fun V => (V.cell? ⟨x, 1, none⟩ = some (.pointer (some ⟨d, 0, none⟩)) ∧ V.cell? ⟨x, 5, none⟩ = some (.int .i64 zh)) ∧ V.cell? ⟨x, 6, none⟩ = some (.int .i64 zk) ∧ V.cell? ⟨x, 7, none⟩ = some (.int .i64 zv))
    (first | with_reducible exact s0 | with_reducible exact s1 | fail)
    (first | (go_at_call 125; refine C2.mono ?_; rintro e w3 ⟨rfl, gi', r', h', ev', hF⟩; have s1 := HK.out w3 (hF.block lx2 hne hnm)) | fail)
  clear C2 s0
  have ncR : ¬ cX d g gi r h ev w.heap.size := fun hx => by have := HC.out.lt _ hx; omega
  have nmR : ¬ mB mv w.heap.size := fun hx => by have := hlm _ hx; omega
  have hX3 := HX2.out.same (w' := w3) (hF.block hl2 ncR nmR)
  have q0 : w3.cell? ⟨w.heap.size, 0, none⟩ = some (.int .i64 0) := hX3.c 0 (by omega)
  have q1 : w3.cell? ⟨w.heap.size, 1, none⟩ = some (.int .i64 0) := hX3.c 1 (by omega)
  have q2 : w3.cell? ⟨w.heap.size, 2, none⟩ = some (.bool false) := hX3.c 2 (by omega)
  have q3 : w3.cell? ⟨w.heap.size, 3, none⟩ = some (.int .i64 0) := hX3.c 3 (by omega)
  have q4 : w3.cell? ⟨w.heap.size, 4, none⟩ = some (.int .i64 0) := hX3.c 4 (by omega)
  have z0 := hX3.z 0
  have z1 := hX3.z 1
  have z2 := hX3.z 2
  have z3 := hX3.z 3
  have z4 := hX3.z 4
  have x7 := s1.2.2
  obtain ⟨N, hN⟩ : ∃ N : Int, (((t.add zh zk zv).es.length - 1 : Nat) : Int) = N := ⟨_, rfl⟩
  rw [hN]
  have HR4 := Lib.hid (put5_blk hX3 (.int .i64 2) (.int .i64 0) (.bool false) (.int .i64 zv) (.int .i64 N))
  have HF4 : Hid (Cd w d g gi r h ev mv M (a + ((t.add zh zk zv).made - t.made : Nat)) b most (v + 1) (t.add zh zk zv) (put5 w3 w.heap.size (.int .i64 2) (.int .i64 0) (.bool false) (.int .i64 zv) (.int .i64 N)) gi' r' h' ev') := by
    have hbp := put5_below (B := w.heap.size) (w := w3) w.heap.size (Nat.le_refl _) (.int .i64 2) (.int .i64 0) (.bool false) (.int .i64 zv) (.int .i64 N)
    have hoth : ∀ k, k ≠ w.heap.size → (put5 w3 w.heap.size (.int .i64 2) (.int .i64 0) (.bool false) (.int .i64 zv) (.int .i64 N)).heap[k]? = w3.heap[k]? := fun k hk => by
      unfold put5
      rw [Below.heap_setCell _ _ _ _ hk, Below.heap_setCell _ _ _ _ hk, Below.heap_setCell _ _ _ _ hk, Below.heap_setCell _ _ _ _ hk, Below.heap_setCell _ _ _ _ hk]
    have c := hF.from HBd.out
    have hnR : ∀ k, cX d g gi' r' h' ev' k → k ≠ w.heap.size := fun k hk e => by
      rcases hk with hk | hk
      · have := HC.out.hd.lt (by omega); omega
      · rcases hF.fx k hk with y | y
        · have := HC.out.dt.lt k y; omega
        · have h9 : w2.drew.heap.size = w2.heap.size := rfl
          omega
    exact ⟨c.dc.same fun k hk => hoth k (hnR k hk), HMo.out.same _ _ _ _ c.m fun k hk => hbp.block k (hlm k hk), c.fx, c.ex.next (Y := fun k => w.heap.size ≤ k) ⟨hbp.os, hbp.tape, hbp.output, hbp.size, fun k _ hx => hbp.block k (by omega)⟩ (fun k hk hx => by omega)⟩
  have HN := Lib.hid hN
  unfold put5 at HR4 HF4
  clear hF hX3 s1 HX2
  go_wp2_with fail
  generalize World.setCell (World.setCell (World.setCell (World.setCell (World.setCell w3 _ _) _ _) _ _) _ _) _ _ = w4 at *
  have o0 : w4.cell? ⟨w.heap.size, 0, none⟩ = some (.int .i64 2) := HR4.out.c 0 (by omega)
  have o1 : w4.cell? ⟨w.heap.size, 1, none⟩ = some (.int .i64 0) := HR4.out.c 1 (by omega)
  have o2 : w4.cell? ⟨w.heap.size, 2, none⟩ = some (.bool false) := HR4.out.c 2 (by omega)
  have o3 : w4.cell? ⟨w.heap.size, 3, none⟩ = some (.int .i64 zv) := HR4.out.c 3 (by omega)
  have o4 : w4.cell? ⟨w.heap.size, 4, none⟩ = some (.int .i64 N) := HR4.out.c 4 (by omega)
  refine bodyPost_ret (v := .agg #[.int .i64 2, .int .i64 0, .bool false, .int .i64 zv, .int .i64 N]) ?_ rfl ⟨?_, gi', r', h', ev', HF4.out⟩
  · simp [results, Tryz.results89, go_sem, o0, o1, o2, o3, o4]
  · rw [← HN.out]
set_option maxRecDepth 100000 in
set_option maxHeartbeats 2000000 in
theorem addPair_no {w : World} {d g gi r h : Nat} {ev : Value} {t : Tb} {mv : Value} {M : Int → Int → World → Prop} {a b : Int} {most : Int} {v : Nat} (hC : Dc w d g gi r h ev t mv most v) (hMo : MtOk mv M) (hM : M a b w) {x : Nat} {sv : Value} {m : Ma} (hm : Mx w d g gi r h ev mv x sv m) (hf : ¬ (t.live : Int) < most) :
    Calls Tryz.prog 89 #[.pointer (some ⟨x, 0, none⟩)] w fun e w' => e = .returned (tuV ⟨3, 0, false, 0, 0⟩) ∧ Cd w d g gi r h ev mv M a b most v t w' gi r h ev := by
  obtain ⟨w1, hw1⟩ : ∃ y, w.alloc (.cells #[.int .i64 0, .int .i64 0, .bool false, .int .i64 0, .int .i64 0] 77) = y := ⟨_, rfl⟩
  have hB1 : Below w.heap.size w w1 := by rw [← hw1]; exact (Below.refl _ w).alloc (Nat.le_refl _) _
  have hX1 : Blk w1 w.heap.size 5 (fun j => #[Value.int .i64 0, .int .i64 0, .bool false, .int .i64 0, .int .i64 0].getD j .nilFunc) := by rw [← hw1]; exact Blk.new w _ _
  have hC1 := hC.below hB1
  have hm1' : Mc w1 x sv d m := hm.mc.of hB1 (by omega)
  have lx := hm.mc.lt (by omega)
  have lR := hX1.lt (by omega)
  have k1 : w1.cell? ⟨x, 1, none⟩ = some (.pointer (some ⟨d, 0, none⟩)) := hm1'.c 1 (by omega)
  have C1 := isFull_any (hC1.hd.c 0 (by omega)) (hC1.hd.c 1 (by omega)) (hC1.dt.hd.c 3 (by omega))
  have C1' : Calls Tryz.prog 124 #[.pointer (some ⟨d, 0, none⟩)] w1 fun e w' => e = .returned (.bool (decide (most ≤ (t.live : Int)))) ∧ w' = w1.drew := C1
  have HC := Lib.hid hC
  have HMo := Lib.hid hMo
  have HM := Lib.hid hM
  have HB1 := Lib.hid hB1
  have HX1 := Lib.hid hX1
  have HW1 := Lib.hid hw1
  clear hC hMo hM hC1 hm1' hB1 hX1 hw1 C1 hm
  unfold tuV
  go_enter Tryz.func89, Tryz.ntmps89
  go_upto_region 1 with fail
  rw [HW1.out]
  go_wp2_with fail
  refine C1'.mono ?_
  rintro e w2 ⟨rfl, hw2⟩
  clear C1'
  have hB2 : Below w.heap.size w w2 := by rw [hw2]; exact HB1.out.drew
  have hX2 : Blk w2 w.heap.size 5 (fun j => #[Value.int .i64 0, .int .i64 0, .bool false, .int .i64 0, .int .i64 0].getD j .nilFunc) := by rw [hw2]; exact HX1.out.same rfl
  have hl2 : w.heap.size < w2.heap.size := by rw [hw2]; exact lR
  clear hw2 k1
  have tf : decide (most ≤ (t.live : Int)) = true := decide_eq_true (by omega)
  rw [tf]
  have q0 : w2.cell? ⟨w.heap.size, 0, none⟩ = some (.int .i64 0) := hX2.c 0 (by omega)
  have q1 : w2.cell? ⟨w.heap.size, 1, none⟩ = some (.int .i64 0) := hX2.c 1 (by omega)
  have q2 : w2.cell? ⟨w.heap.size, 2, none⟩ = some (.bool false) := hX2.c 2 (by omega)
  have q3 : w2.cell? ⟨w.heap.size, 3, none⟩ = some (.int .i64 0) := hX2.c 3 (by omega)
  have q4 : w2.cell? ⟨w.heap.size, 4, none⟩ = some (.int .i64 0) := hX2.c 4 (by omega)
  have z0 := hX2.z 0
  have z1 := hX2.z 1
  have z2 := hX2.z 2
  have z3 := hX2.z 3
  have z4 := hX2.z 4
  have HR4 := Lib.hid (put5_blk hX2 (.int .i64 3) (.int .i64 0) (.bool false) (.int .i64 0) (.int .i64 0))
  have HF4 := Lib.hid (HC.out.cd HMo.out HM.out (hB2.trans (put5_below (B := w.heap.size) (w := w2) w.heap.size (Nat.le_refl _) (.int .i64 3) (.int .i64 0) (.bool false) (.int .i64 0) (.int .i64 0))))
  unfold put5 at HR4 HF4
  clear hB2 hX2 tf
  go_wp2_with fail
  generalize World.setCell (World.setCell (World.setCell (World.setCell (World.setCell w2 _ _) _ _) _ _) _ _) _ _ = w4 at *
  have o0 : w4.cell? ⟨w.heap.size, 0, none⟩ = some (.int .i64 3) := HR4.out.c 0 (by omega)
  have o1 : w4.cell? ⟨w.heap.size, 1, none⟩ = some (.int .i64 0) := HR4.out.c 1 (by omega)
  have o2 : w4.cell? ⟨w.heap.size, 2, none⟩ = some (.bool false) := HR4.out.c 2 (by omega)
  have o3 : w4.cell? ⟨w.heap.size, 3, none⟩ = some (.int .i64 0) := HR4.out.c 3 (by omega)
  have o4 : w4.cell? ⟨w.heap.size, 4, none⟩ = some (.int .i64 0) := HR4.out.c 4 (by omega)
  refine bodyPost_ret (v := .agg #[.int .i64 3, .int .i64 0, .bool false, .int .i64 0, .int .i64 0]) ?_ rfl ⟨rfl, HF4.out⟩
  simp [results, Tryz.results89, go_sem, o0, o1, o2, o3, o4]
end Go.Proofs.YtooneobnfepncaaGreat
