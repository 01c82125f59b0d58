/-
  What a stand's add and take do.
  A row's add of a name that is new to the key table, or that turns it; take.
  A row's add, whatever comes of it; a namespace and its family; what Set, Get, Del begin with.
-/
import Derived.Test.YtcbhpjpkjmlcnaaGreatGxaf
namespace Go.Proofs.YtcbhpjpkjmlcnaaGreat
open Go.RowKit Go.WideShapes

/-- What is behind a stand's add or take: the family, and how the namespace stands. -/
structure SdR (w : World) (f : Nat) (mv : Value) (N : Int → Int → Int → Int → World → Prop) (XF XQ : Nat → Prop) (F' : Fa) (st' : Stn) (q' : Nat) (a' b' c' d' : Int) (w' : World) (XF' XQ' : Nat → Prop) : Prop where
  fm : FamX w' f F' mv XF'
  sq : Sq w' q' f mv XQ' st'
  ap : ∀ k, XF' k → ¬ XQ' k
  mq : ∀ k, mB mv k → ¬ XQ' k
  n : N a' b' c' d' w'
  hf : ∀ k, XF' k → XF k ∨ w.heap.size ≤ k
  hq : ∀ k, XQ' k → XQ k ∨ w.heap.size ≤ k
  ex : Ex (fun k => XF k ∨ XQ k ∨ mB mv k) w w'
theorem Fam.x {w : World} {f g gi r h : Nat} {ev : Value} {mb : Nat} {nv : Value} {F : Fa} {mv : Value} (x : Fam w f g gi r h ev mb nv F mv) : FamX w f F mv (fX f g gi r h ev mb nv) := ⟨g, gi, r, h, ev, mb, nv, x, rfl⟩
/-- A name added to a table of one's own: what it leaves. -/
theorem fd_own {w w' : World} {f g gi r h : Nat} {ev : Value} {mb : Nat} {nv nv' : Value} {F : Fa} {mv : Value} {N : Int → Int → Int → Int → World → Prop} {a b c d : Int} {tg tgi tr th : Nat} {tev : Value} {tgi' tr' th' : Nat} {tev' : Value} {q : Nat} {all' : List ByteArray} {t' : Tb} (hF : Fam w f g gi r h ev mb nv F mv) (hMo : MtOk mv (fun a b w => N a b c d w)) {a0 b0 : Int} (hM : N a0 b0 c d w)
    (hq : Blk w q 2 (sdF f (.pointer (some ⟨tg, 0, none⟩)))) (nq : ¬ dX tg tgi tr th tev q) (ap : ∀ k, fX f g gi r h ev mb nv k → ¬ (k = q ∨ dX tg tgi tr th tev k)) (mq : ∀ k, mB mv k → ¬ (k = q ∨ dX tg tgi tr th tev k))
    (A : Fd w f g F.room F.most mb nv mv tg tgi tr th tev (fun a b w => N a b c d w) a b all' t' w' nv' tgi' tr' th' tev') :
    SdR w f mv N (fX f g gi r h ev mb nv) (fun k => k = q ∨ dX tg tgi tr th tev k) { F with all := all' } (.own t') q a b c d w' (fX f g gi r h ev mb nv') (fun k => k = q ∨ dX tg tgi' tr' th' tev' k) := by
  have lq := hq.lt (by omega)
  have ex1 : ∀ k, k < w.heap.size → ¬ hX f mb nv k → ¬ dX tg tgi tr th tev k → ¬ mB mv k → w'.heap[k]? = w.heap[k]? := fun k hk h1 h2 h3 => A.ex.block k hk (fun y => y.elim h1 (fun y => y.elim h2 h3))
  have hdt : Dt w' g gi r h ev F.kt mv := hF.dt.same fun k hk => ex1 k (hF.dt.lt k hk) (fun y => hF.ap k y hk) (fun y => ap k (.inr hk) (.inr y)) (fun y => hF.dt.nm y hk)
  have hs := A.ex.size
  have apn : ∀ k, hX f mb nv' k → ¬ dX g gi r h ev k := fun k hk y => by
    rcases A.hx k hk with z | z
    · exact hF.ap k z y
    · have := hF.dt.lt k y; omega
  refine ⟨⟨g, gi, r, h, ev, mb, nv', ⟨A.nh, hdt, apn, A.n3⟩, rfl⟩, ⟨tg, tgi', tr', th', tev', hq.same (ex1 q lq (fun y => ap q (.inl y) (.inl rfl)) nq (fun y => mq q y (.inl rfl))), A.dt, fun y => ?_, rfl⟩, ?_, ?_, A.m, ?_, ?_, ?_⟩
  · rcases A.fx q y with z | z
    · exact nq z
    · omega
  · rintro k (hk | hk) (y | y)
    · rcases A.hx k hk with z | z
      · exact ap k (.inl z) (.inl y)
      · omega
    · exact A.ap k hk y
    · exact ap k (.inr hk) (.inl y)
    · rcases A.fx k y with z | z
      · exact ap k (.inr hk) (.inr z)
      · have := hF.dt.lt k hk; omega
  · rintro k hk (y | y)
    · exact mq k hk (.inl y)
    · rcases A.fx k y with z | z
      · exact mq k hk (.inr z)
      · have := hMo.lt _ _ _ _ hM hk; omega
  · rintro k (hk | hk)
    · rcases A.hx k hk with z | z
      · exact .inl (.inl z)
      · exact .inr z
    · exact .inl (.inr hk)
  · rintro k (hk | hk)
    · exact .inl (.inl hk)
    · rcases A.fx k hk with z | z
      · exact .inl (.inr z)
      · exact .inr z
  · exact A.ex.mono fun k _ hk => by
      rcases hk with y | y | y
      · exact .inl (.inl y)
      · exact .inr (.inl (.inr y))
      · exact .inr (.inr y)
/-- .. to the key table. -/
theorem fd_key {w w' : World} {f g gi r h : Nat} {ev : Value} {mb : Nat} {nv nv' : Value} {F : Fa} {mv : Value} {M : Int → Int → World → Prop} {a b : Int} {gi' r' h' : Nat} {ev' : Value} {all' : List ByteArray} {t' : Tb}
    (A : Fd w f g F.room F.most mb nv mv g gi r h ev M a b all' t' w' nv' gi' r' h' ev') : Fam w' f g gi' r' h' ev' mb nv' { F with all := all', kt := t' } mv ∧ (∀ k, fX f g gi' r' h' ev' mb nv' k → fX f g gi r h ev mb nv k ∨ w.heap.size ≤ k) ∧ Ex (fun k => fX f g gi r h ev mb nv k ∨ mB mv k) w w' := by
  refine ⟨⟨A.nh, A.dt, A.ap, A.n3⟩, ?_, A.ex.mono fun k _ hk => ?_⟩
  · rintro k (hk | hk)
    · rcases A.hx k hk with z | z
      · exact .inl (.inl z)
      · exact .inr z
    · rcases A.fx k hk with z | z
      · exact .inl (.inr z)
      · exact .inr z
  · rcases hk with y | y | y
    · exact .inl (.inl y)
    · exact .inl (.inr y)
    · exact .inr y
set_option maxRecDepth 100000 in
set_option maxHeartbeats 4000000 in
theorem ownAdd_any {w : World} {q f : Nat} {F : Fa} {mv : Value} {XF XQ : Nat → Prop} {t : Tb} {N : Int → Int → Int → Int → World → Prop} {a b c d : Int} {c0 : Nat} (hF : FamX w f F mv XF) (hS : Sq w q f mv XQ (.own t)) (ap : ∀ k, XF k → ¬ XQ k) (mq : ∀ k, mB mv k → ¬ XQ k) (hM4 : M4 mv N) (hM : N a b c d w) (ha : 0 ≤ a ∧ a ≤ 100000000) (hO : F.Ok hsT c0) (hT : t.Ok) (hb : t.births ≤ c0) (hm : t.made ≤ c0 + 1) (ht : t.turn ≤ c0) (hc : c0 ≤ 50000) {nm : ByteArray} (hs : nm.size ≤ 3000) {k : Int} (hk : Num F.all nm k) (x v : Int) :
    Calls Tryz.prog 179 #[.pointer (some ⟨q, 0, none⟩), .string nm, .int .i64 x, .int .i64 v] w fun e w' => e = .returned (.iface 229 (.pointer (some ⟨q, 0, none⟩))) ∧ ∃ XF' XQ', SdR w f mv N XF XQ { F with all := alln F.all nm k } (.own (t.add (hsT nm) (numn F.all k) v)) q (a + ((t.add (hsT nm) (numn F.all k) v).made - t.made : Nat)) b c d w' XF' XQ' := by
  obtain ⟨g, gi, r, h, ev, mb, nv, hFa, rfl⟩ := hF
  obtain ⟨tg, tgi, tr, th, tev, hq, hD, nq, rfl⟩ := hS
  have hBd : Below w.heap.size w w.drew := (Below.refl _ w).drew
  have k0 : w.cell? ⟨q, 0, none⟩ = some (.pointer (some ⟨f, 0, none⟩)) := hq.c 0 (by omega)
  have k1 : w.cell? ⟨q, 1, none⟩ = some (.pointer (some ⟨tg, 0, none⟩)) := hq.c 1 (by omega)
  have d0 : w.drew.cell? ⟨q, 0, none⟩ = some (.pointer (some ⟨f, 0, none⟩)) := k0
  have d1 : w.drew.cell? ⟨q, 1, none⟩ = some (.pointer (some ⟨tg, 0, none⟩)) := k1
  have hNd := hFa.nh.same (w' := w.drew) fun _ _ => rfl
  have hDd := hD.same (w' := w.drew) fun _ _ => rfl
  have hMd : N a b c d w.drew := (hM4.mt c d).same a b w w.drew hM fun _ _ => rfl
  have hqd := hq.same (w' := w.drew) rfl
  have hFd := hFa.same (w' := w.drew) fun _ _ => rfl
  have CA := (fadd_any (w := w.drew) (M := fun a b w => N a b c d w) hNd hDd (fun k' hk' y => ap k' (.inl hk') (.inr y)) hFa.n3 hT (hM4.mt c d) hMd (by omega) ⟨ha.1, by omega⟩ (by omega) (by omega) hs hk (by have := hO.names; omega) v).mono (R' := fun e w' => e = .returned (.tuple #[]) ∧ (∃ XF' XQ', SdR w f mv N (fX f g gi r h ev mb nv) (fun k => k = q ∨ dX tg tgi tr th tev k) { F with all := alln F.all nm k } (.own (t.add (hsT nm) (numn F.all k) v)) q (a + ((t.add (hsT nm) (numn F.all k) v).made - t.made : Nat)) b c d w' XF' XQ') ∧ w'.cell? ⟨q, 0, none⟩ = some (.pointer (some ⟨f, 0, none⟩)) ∧ w'.cell? ⟨q, 1, none⟩ = some (.pointer (some ⟨tg, 0, none⟩))) (fun e w' ⟨h1, nv', tgi', tr', th', tev', A⟩ => by
    have R := fd_own hFd (hM4.mt c d) hMd hqd nq ap mq A
    obtain ⟨tg2, _, _, _, _, b1, _⟩ := R.sq
    have bq : w'.heap[q]? = w.drew.heap[q]? := A.ex.block q (hqd.lt (by omega)) (fun y => by
      rcases y with y | y | y
      · exact ap q (.inl y) (.inl rfl)
      · exact nq y
      · exact mq q y (.inl rfl))
    exact ⟨h1, ⟨_, _, ⟨R.fm, R.sq, R.ap, R.mq, R.n, R.hf, R.hq, ⟨R.ex.os, R.ex.tape, R.ex.output, R.ex.size, R.ex.block⟩⟩⟩, (World.cell?_of_block (a := ⟨q, 0, none⟩) bq).trans d0, (World.cell?_of_block (a := ⟨q, 1, none⟩) bq).trans d1⟩)
  obtain ⟨U, hU⟩ : ∃ U, hsT nm = U := ⟨_, rfl⟩
  rw [hU] at CA ⊢
  clear hFa hD hNd hDd hMd hqd hFd hM4 hM hO hT hk ap mq hq nq hU hBd
  go_enter Tryz.func179, Tryz.ntmps179
  go_wp2_with fail
  go_region_held3 (fun V => V.cell? ⟨q, 0, none⟩ = some (.pointer (some ⟨f, 0, none⟩)) ∧ V.cell? ⟨q, 1, none⟩ = some (.pointer (some ⟨tg, 0, none⟩)))
    (first | with_reducible exact ⟨d0, d1⟩ | with_reducible exact ⟨h30, h31⟩ | fail)
    (first | (go_at_call 160; refine CA.mono ?_; rintro e w3 ⟨rfl, hR, h30, h31⟩; have HR := Lib.hid hR; clear hR) | fail)
  clear CA
  go_wp2
  go_ret
  exact ⟨rfl, HR.out⟩
/-- A value behind a row. -/
theorem row_more {w w2 : World} {q f : Nat} {vv v' : Value} {vs : List Int} {x : Int} {o : Obj} (hq : Blk w q 2 (sdF f vv)) (hn : vv.ownBlock ≠ some q)
    (hown : w2.ownsRow 0 3 1 v' (vs.length + 1) ((vs.map fun x : Int => Value.int .i64 x) ++ [.int .i64 x])) (hgrow : (w.alloc o).grownBy w2 vv.ownBlock) (hob : v'.ownBlock = vv.ownBlock ∨ v'.ownBlock = some (w.alloc o).heap.size) :
    w2.heap[q]? = w.heap[q]? ∧ Blk (w2.setCell ⟨q, 1, none⟩ v') q 2 (sdF f v') ∧ IntsR 0 (w2.setCell ⟨q, 1, none⟩ v') v' (vs ++ [x]) ∧ v'.ownBlock ≠ some q ∧ Ex (fun k => k = q ∨ vv.ownBlock = some k) w (w2.setCell ⟨q, 1, none⟩ v') ∧ ∀ k, v'.ownBlock = some k → vv.ownBlock = some k ∨ w.heap.size ≤ k := by
  have lq := hq.lt (by omega)
  have hs1 : (w.alloc o).heap.size = w.heap.size + 1 := by simp
  have e2 : ∀ k, k < w.heap.size → vv.ownBlock ≠ some k → w2.heap[k]? = w.heap[k]? := fun k hk h2 => (hgrow.block k (by omega) (fun e => h2 e.symm)).trans (Below.heap_alloc _ _ _ hk)
  have hv' : ∀ k, v'.ownBlock = some k → vv.ownBlock = some k ∨ w.heap.size ≤ k := fun k hk => by
    rcases hob with h | h
    · exact .inl (h ▸ hk)
    · right
      rw [h] at hk
      injection hk with hk
      omega
  have n2 : v'.ownBlock ≠ some q := fun hk => by
    rcases hv' q hk with h | h
    · exact hn h
    · omega
  have hq2 := hq.same (e2 q lq hn)
  refine ⟨e2 q lq hn, (hq2.put 1 v').congr fun j hj => ?_, ?_, n2, ?_, hv'⟩
  · have : j = 0 ∨ j = 1 := by omega
    rcases this with rfl | rfl <;> rfl
  · exact (intsR_snoc hown).same0 fun k hk => Below.heap_setCell _ _ _ _ (fun (e : k = q) => n2 (e ▸ hk))
  · have x1 : Ex (fun k => k = q ∨ vv.ownBlock = some k) w w2 := ⟨hgrow.os, hgrow.tape, hgrow.output, by have := hgrow.size; omega, fun k hk hn' => e2 k hk (fun e => hn' (.inr e))⟩
    exact x1.setCell (p := ⟨q, 1, none⟩) (fun _ => .inl rfl) _
/-- A value behind a row, and its charge. -/
theorem row_done {w w0 w1 : World} {q f : Nat} {F' : Fa} {mv : Value} {N : Int → Int → Int → Int → World → Prop} {a b c d : Int} {XF XF' : Nat → Prop} {vv : Value} {vs : List Int} {x : Int} (hM4 : M4 mv N) (hc : 0 ≤ c ∧ c ≤ 100000000)
    (hF1 : FamX w1 f F' mv XF') (hN1 : N a b c d w1) (hq : Blk w1 q 2 (sdF f vv)) (hn : vv.ownBlock ≠ some q) (ap : ∀ k, XF' k → ¬ (k = q ∨ vv.ownBlock = some k)) (mq : ∀ k, mB mv k → ¬ (k = q ∨ vv.ownBlock = some k))
    (hs : w.heap.size ≤ w1.heap.size) (hf : ∀ k, XF' k → XF k ∨ w.heap.size ≤ k) (hx : Ex (fun k => XF k ∨ mB mv k) w w1) (h0 : w0 = w1) :
    ∀ v' w2, w2.ownsRow 0 3 1 v' (vs.length + 1) ((vs.map fun x : Int => Value.int .i64 x) ++ [.int .i64 x]) → (w0.alloc (.cells #[.int .i64 x] 3)).grownBy w2 vv.ownBlock → (v'.ownBlock = vv.ownBlock ∨ v'.ownBlock = some (w0.alloc (.cells #[.int .i64 x] 3)).heap.size) →
        (w2.cell? ⟨q, 1, none⟩ = some vv ∧ w2.frozen? ⟨q, 1, none⟩ = false) ∧ ∀ w3, w2.setCell ⟨q, 1, none⟩ v' = w3 → w3.cell? ⟨q, 0, none⟩ = some (.pointer (some ⟨f, 0, none⟩)) ∧ w3.cell? ⟨f, 0, none⟩ = some mv ∧
          Calls Tryz.prog 180 #[mv, .int .i64 1] w3 fun e w' => e = .returned (.tuple #[]) ∧ ∃ XF' XQ', SdR w f mv N XF (fun k => k = q ∨ vv.ownBlock = some k) F' (.row (vs ++ [x])) q a b (c + 1) d w' XF' XQ' := by
  subst h0
  intro v' w2 h1 h2 h3
  obtain ⟨e0, q1, q2, q3, q4, q5⟩ := row_more hq hn h1 h2 h3
  refine ⟨⟨(World.cell?_of_block (a := ⟨q, 1, none⟩) e0).trans (hq.c 1 (by omega)), (World.frozen?_of_block (a := ⟨q, 1, none⟩) e0).trans (hq.z 1)⟩, fun w3 hw3 => ?_⟩
  rw [hw3] at q1 q2 q4
  have hF3 := hF1.same (w' := w3) fun k hk => q4.block k (hF1.lt k hk) (ap k hk)
  have hN3 : N a b c d w3 := (hM4.mt c d).same a b w0 w3 hN1 fun k hk => q4.block k ((hM4.mt c d).lt a b w0 k hN1 hk) (mq k hk)
  have hs3 := q4.size
  have hXQ3 : ∀ k, (k = q ∨ v'.ownBlock = some k) → (k = q ∨ vv.ownBlock = some k) ∨ w0.heap.size ≤ k := by
    rintro k (hk | hk)
    · exact .inl (.inl hk)
    · rcases q5 k hk with z | z
      · exact .inl (.inr z)
      · exact .inr z
  have mq3 : ∀ k, mB mv k → ¬ (k = q ∨ v'.ownBlock = some k) := fun k hk y => by
    rcases hXQ3 k y with z | z
    · exact mq k hk z
    · have := (hM4.mt c d).lt a b w0 k hN1 hk; omega
  have ap3 : ∀ k, XF' k → ¬ (k = q ∨ v'.ownBlock = some k) := fun k hk y => by
    rcases hXQ3 k y with z | z
    · exact ap k hk z
    · have := hF1.lt k hk; omega
  refine ⟨q1.c 0 (by omega), ?_, (hM4.ch a b c d w3 hc.1 (by omega) hN3).mono ?_⟩
  · obtain ⟨g, gi, r, h, ev, mb, nv, hFa, _⟩ := hF3
    exact hFa.nh.hd.c 0 (by omega)
  · rintro e w' ⟨he, hN', hx'⟩
    refine ⟨he, XF', fun k => k = q ∨ v'.ownBlock = some k, hF3.same fun k hk => hx'.met (hF3.lt k hk) (fun y => hF3.nm k y hk), ⟨v', q1.same (hx'.met (q1.lt (by omega)) (fun y => mq3 q y (.inl rfl))), q2.same0 fun k hk => hx'.met (q2.lt0 k hk) (fun y => mq3 k y (.inr hk)), q3, rfl⟩, ap3, mq3, hN', hf, fun k hk => ?_, ?_⟩
    · rcases hXQ3 k hk with z | z
      · exact .inl z
      · exact .inr (by omega)
    · refine ((hx.mono fun k _ hk => hk.elim .inl (fun y => .inr (.inr y))).next (q4.mono fun k _ hk => .inr (.inl hk)) fun k _ hk => hk).next hx' fun k _ hk => .inr (.inr hk)
set_option maxRecDepth 100000 in
set_option maxHeartbeats 4000000 in
theorem rowAdd_next {w : World} {q f : Nat} {F : Fa} {pm : Option Addr} {XF XQ : Nat → Prop} {vs : List Int} {N : Int → Int → Int → Int → World → Prop} {a b c d : Int} {c0 : Nat} (hF : FamX w f F (.pointer pm) XF) (hS : Sq w q f (.pointer pm) XQ (.row vs)) (ap : ∀ k, XF k → ¬ XQ k) (mq : ∀ k, mB (.pointer pm) k → ¬ XQ k) (hM4 : M4 (.pointer pm) N) (hM : N a b c d w) (hc : 0 ≤ c ∧ c ≤ 100000000) (hO : F.Ok hsT c0) {nm : ByteArray} (hlt : vs.length < F.kt.es.length) (v : Int) :
    Calls Tryz.prog 167 #[.pointer (some ⟨q, 0, none⟩), .string nm, .int .i64 (vs.length : Int), .int .i64 v] w fun e w' => e = .returned (.iface 117 (.pointer (some ⟨q, 0, none⟩))) ∧ ∃ XF' XQ', SdR w f (.pointer pm) N XF XQ F (.row (vs ++ [v])) q a b (c + 1) d w' XF' XQ' := by
  obtain ⟨i0, hi0, hz0, hz1, hz2⟩ := info_parts Tryz.infoN
  have hFX := hF
  obtain ⟨g, gi, r, h, ev, mb, nv, hFa, rfl⟩ := hF
  obtain ⟨vv, hq, hv, hnq, rfl⟩ := hS
  obtain ⟨av, cap, hvv⟩ := ownsRow_shape hv
  have hlive : F.kt.live = F.kt.es.length := by rw [Tb.live_eq, live_all hO.dead]
  have hle : vs.length ≤ 256 := by have := hO.len; have := hO.room; omega
  have k0 : w.cell? ⟨q, 0, none⟩ = some (.pointer (some ⟨f, 0, none⟩)) := hq.c 0 (by omega)
  have k1 : w.cell? ⟨q, 1, none⟩ = some vv := hq.c 1 (by omega)
  have CF := fits_any (w := w) k0 (by rw [hvv] at k1; exact k1) (hFa.nh.hd.c 1 (by omega)) (hFa.nh.hd.c 2 (by omega)) (hFa.dt.hd.c 3 (by omega)) (vs.length : Int)
  rw [if_pos (by rw [hlive]; omega), decide_eq_true rfl] at CF
  have te : ((vs.length : Int) == -1) = false := by rw [beq_eq_false_iff_ne]; omega
  have HAFT : Hid (∀ W, Below w.heap.size w W → W.cell? ⟨q, 1, none⟩ = some vv ∧ W.ownsRow 0 3 1 vv vs.length (vs.map fun x : Int => Value.int .i64 x) ∧ ∀ v' w2, w2.ownsRow 0 3 1 v' (vs.length + 1) ((vs.map fun x : Int => Value.int .i64 x) ++ [.int .i64 v]) → (W.alloc (.cells #[.int .i64 v] 3)).grownBy w2 vv.ownBlock → (v'.ownBlock = vv.ownBlock ∨ v'.ownBlock = some (W.alloc (.cells #[.int .i64 v] 3)).heap.size) →
        (w2.cell? ⟨q, 1, none⟩ = some vv ∧ w2.frozen? ⟨q, 1, none⟩ = false) ∧ ∀ w3, w2.setCell ⟨q, 1, none⟩ v' = w3 → w3.cell? ⟨q, 0, none⟩ = some (.pointer (some ⟨f, 0, none⟩)) ∧ w3.cell? ⟨f, 0, none⟩ = some (.pointer pm) ∧
          Calls Tryz.prog 180 #[.pointer pm, .int .i64 1] w3 fun e w' => e = .returned (.tuple #[]) ∧ ∃ XF' XQ', SdR w f (.pointer pm) N (fX f g gi r h ev mb nv) (fun k => k = q ∨ vv.ownBlock = some k) F (.row (vs ++ [v])) q a b (c + 1) d w' XF' XQ') := by
    intro W hB
    have hqW := hq.of hB (by omega)
    have hvW : IntsR 0 W vv vs := hv.same0 fun k hk => hB.block k (hv.lt0 k hk)
    refine ⟨hqW.c 1 (by omega), hvW, row_done hM4 hc (hFX.same fun k hk => hB.block k (hFX.lt k hk)) ((hM4.mt c d).below hM hB) hqW hnq ap mq hB.size (fun k hk => .inl hk) (ex_of hB) rfl⟩
  subst hvv
  clear hFX hFa hq hv hnq ap mq hM4 hM hO hlive
  obtain ⟨n, hn⟩ : ∃ n, vs.length = n := ⟨_, rfl⟩
  obtain ⟨R, hR⟩ : ∃ R, (vs.map fun x : Int => Value.int .i64 x) = R := ⟨_, rfl⟩
  rw [hn, hR] at HAFT
  rw [hn] at CF k1 te hle ⊢
  clear hn hR hlt
  go_enter Tryz.func167, Tryz.ntmps167
  go_wp2_with fail
  refine CF.mono ?_
  rintro e w1 ⟨rfl, hB1⟩
  clear CF k0 k1
  obtain ⟨c1, hown, HA⟩ := HAFT.out w1 hB1
  have HA2 := Lib.hid HA
  clear HAFT HA
  go_upto_region 6 with (at_builtin; refine wpList_append_own_at _ rfl _ _ 70 rfl 0 3 i0 (.int .i64 0) 1 8 Tryz.underlying70 hi0 hz0 hz1 hz2 rfl (by decide) _ _ _ rfl (World.ownsRow.alloc hown _) ⟨w1.heap.size, 0, none⟩ 1 1 [.int .i64 v] rfl rfl (newR_one _ _ _) (by simp [Value.oneCell']) (by unfold maxLen; omega) (by omega) (by simp) ?_; intro v' w2 hown2 hgrow _ hob; obtain ⟨⟨k5, z5⟩, HN3⟩ := HA2.out v' w2 hown2 hgrow hob; have HN4 := Lib.hid HN3; obtain ⟨a', cap', hv'⟩ := ownsRow_shape hown2; subst hv'; clear hown2 hgrow hob HN3)
  obtain ⟨w3, hw3⟩ : ∃ y, w2.setCell ⟨q, 1, none⟩ (.slice a' (n + 1) cap') = y := ⟨_, rfl⟩
  obtain ⟨d0, d1, CC⟩ := HN4.out w3 hw3
  have HW3 := Lib.hid hw3
  clear hw3 HN4 HA2
  rw [HW3.out]
  go_wp2_with fail
  refine CC.mono ?_
  rintro e w4 ⟨rfl, hR4⟩
  clear CC
  have HR4 := Lib.hid hR4
  clear hR4
  go_wp2
  go_ret
  exact ⟨rfl, HR4.out⟩
end Go.Proofs.YtcbhpjpkjmlcnaaGreat
namespace Go.Proofs.YtcbhpjpkjmlcnaaGreat
open Go.RowKit Go.WideShapes

set_option maxRecDepth 100000 in
set_option maxHeartbeats 4000000 in
theorem rowAdd_new {w : World} {q f : Nat} {F : Fa} {pm : Option Addr} {XF XQ : Nat → Prop} {vs : List Int} {N : Int → Int → Int → Int → World → Prop} {a b c d : Int} {c0 : Nat} (hF : FamX w f F (.pointer pm) XF) (hS : Sq w q f (.pointer pm) XQ (.row vs)) (ap : ∀ k, XF k → ¬ XQ k) (mq : ∀ k, mB (.pointer pm) k → ¬ XQ k) (hM4 : M4 (.pointer pm) N) (hM : N a b c d w) (ha : 0 ≤ a ∧ a ≤ 100000000) (hc : 0 ≤ c ∧ c ≤ 100000000) (hO : F.Ok hsT c0) (hc0 : c0 ≤ 50000) {nm : ByteArray} (hs : nm.size ≤ 3000) {k : Int} (hk : Num F.all nm k) (hlen : F.kt.es.length = vs.length) (hroom : vs.length < F.room) (v : Int) :
    Calls Tryz.prog 167 #[.pointer (some ⟨q, 0, none⟩), .string nm, .int .i64 (-1), .int .i64 v] w fun e w' => e = .returned (.iface 117 (.pointer (some ⟨q, 0, none⟩))) ∧ ∃ XF' XQ', SdR w f (.pointer pm) N XF XQ { F with all := alln F.all nm k, kt := F.kt.add (hsT nm) (numn F.all k) 0 } (.row (vs ++ [v])) q (a + ((F.kt.add (hsT nm) (numn F.all k) 0).made - F.kt.made : Nat)) b (c + 1) d w' XF' XQ' := by
  obtain ⟨i0, hi0, hz0, hz1, hz2⟩ := info_parts Tryz.infoN
  obtain ⟨g, gi, r, h, ev, mb, nv, hFa, rfl⟩ := hF
  obtain ⟨vv, hq, hv, hnq, rfl⟩ := hS
  obtain ⟨av, cap, hvv⟩ := ownsRow_shape hv
  have hlive : F.kt.live = F.kt.es.length := by rw [Tb.live_eq, live_all hO.dead]
  have hle : vs.length ≤ 256 := by have := hO.len; have := hO.room; omega
  have k0 : w.cell? ⟨q, 0, none⟩ = some (.pointer (some ⟨f, 0, none⟩)) := hq.c 0 (by omega)
  have k1 : w.cell? ⟨q, 1, none⟩ = some vv := hq.c 1 (by omega)
  have CF := fits_any (w := w) k0 (by rw [hvv] at k1; exact k1) (hFa.nh.hd.c 1 (by omega)) (hFa.nh.hd.c 2 (by omega)) (hFa.dt.hd.c 3 (by omega)) (-1)
  rw [if_neg (by rw [hlive]; omega), decide_eq_true (by omega)] at CF
  have HADD : Hid (∀ W, Below w.heap.size w W → W.cell? ⟨q, 0, none⟩ = some (.pointer (some ⟨f, 0, none⟩)) ∧ Calls Tryz.prog 174 #[.pointer (some ⟨q, 0, none⟩)] W (fun e w' => e = .returned (.pointer (some ⟨g, 0, none⟩)) ∧ w' = W) ∧
      Calls Tryz.prog 160 #[.pointer (some ⟨f, 0, none⟩), .pointer (some ⟨g, 0, none⟩), .string nm, .int .i64 0] W (fun e W1 => e = .returned (.tuple #[]) ∧ W1.cell? ⟨q, 0, none⟩ = some (.pointer (some ⟨f, 0, none⟩)) ∧ W1.cell? ⟨q, 1, none⟩ = some vv ∧ W1.ownsRow 0 3 1 vv vs.length (vs.map fun x : Int => Value.int .i64 x) ∧
        ∀ v' w2, w2.ownsRow 0 3 1 v' (vs.length + 1) ((vs.map fun x : Int => Value.int .i64 x) ++ [.int .i64 v]) → (W1.alloc (.cells #[.int .i64 v] 3)).grownBy w2 vv.ownBlock → (v'.ownBlock = vv.ownBlock ∨ v'.ownBlock = some (W1.alloc (.cells #[.int .i64 v] 3)).heap.size) →
        (w2.cell? ⟨q, 1, none⟩ = some vv ∧ w2.frozen? ⟨q, 1, none⟩ = false) ∧ ∀ w3, w2.setCell ⟨q, 1, none⟩ v' = w3 → w3.cell? ⟨q, 0, none⟩ = some (.pointer (some ⟨f, 0, none⟩)) ∧ w3.cell? ⟨f, 0, none⟩ = some (.pointer pm) ∧
          Calls Tryz.prog 180 #[.pointer pm, .int .i64 1] w3 fun e w' => e = .returned (.tuple #[]) ∧ ∃ XF' XQ', SdR w f (.pointer pm) N (fX f g gi r h ev mb nv) (fun k => k = q ∨ vv.ownBlock = some k) { F with all := alln F.all nm k, kt := F.kt.add (hsT nm) (numn F.all k) 0 } (.row (vs ++ [v])) q (a + ((F.kt.add (hsT nm) (numn F.all k) 0).made - F.kt.made : Nat)) b (c + 1) d w' XF' XQ')) := by
    intro W hB
    have hqW := hq.of hB (by omega)
    have hvW : IntsR 0 W vv vs := hv.same0 fun k hk => hB.block k (hv.lt0 k hk)
    have hFW := hFa.below hB
    have hMW : N a b c d W := (hM4.mt c d).below hM hB
    refine ⟨hqW.c 0 (by omega), rowTable_any (hqW.c 0 (by omega)) (hFW.nh.hd.c 1 (by omega)), (fadd_any (M := fun a b w => N a b c d w) hFW.nh hFW.dt hFW.ap hFW.n3 hO.ok (hM4.mt c d) hMW (by have := hO.made; omega) ⟨ha.1, by omega⟩ (by have := hO.turn; omega) (by have := hO.births; omega) hs hk (by have := hO.names; omega) 0).mono ?_⟩
    rintro e W1 ⟨h1, nv', gi', r', h', ev', A⟩
    obtain ⟨hF1, hfx, hx1⟩ := fd_key A
    have e1 : ∀ j, (j = q ∨ vv.ownBlock = some j) → W1.heap[j]? = W.heap[j]? := fun j hj => hx1.block j (by
      rcases hj with y | y
      · rw [y]; exact hqW.lt (by omega)
      · exact hvW.lt0 j y) (fun y => y.elim (fun z => ap j z hj) (fun z => mq j z hj))
    have hq1 := hqW.same (e1 q (.inl rfl))
    have hv1 : IntsR 0 W1 vv vs := hvW.same0 fun j hj => e1 j (.inr hj)
    have hsB := hB.size
    refine ⟨h1, hq1.c 0 (by omega), hq1.c 1 (by omega), hv1, row_done hM4 hc hF1.x A.m hq1 hnq ?_ mq (Nat.le_trans hsB hx1.size) (fun j hj => ?_) ((ex_of hB).trans hx1) rfl⟩
    · intro j hj y
      rcases hfx j hj with z | z
      · exact ap j z y
      · have hlt : j < w.heap.size := by
          rcases y with y | y
          · rw [y]; exact hq.lt (by omega)
          · exact hv.lt0 j y
        omega
    · rcases hfx j hj with z | z
      · exact .inl z
      · exact .inr (by omega)
  subst hvv
  clear hFa hq hv hnq ap mq hM4 hM hO hlive hk
  obtain ⟨n, hn⟩ : ∃ n, vs.length = n := ⟨_, rfl⟩
  obtain ⟨R, hR⟩ : ∃ R, (vs.map fun x : Int => Value.int .i64 x) = R := ⟨_, rfl⟩
  rw [hn, hR] at HADD
  rw [hn] at k1 hle ⊢
  clear hn hR hlen hroom
  go_enter Tryz.func167, Tryz.ntmps167
  go_wp2_with fail
  refine CF.mono ?_
  rintro e w1 ⟨rfl, hB1⟩
  clear CF k0 k1
  obtain ⟨d0, CT, CA⟩ := HADD.out w1.drew hB1.drew
  have CA2 := CA.mono (R' := fun e W1 => e = .returned (.tuple #[]) ∧ W1.cell? ⟨q, 0, none⟩ = some (.pointer (some ⟨f, 0, none⟩)) ∧ W1.cell? ⟨q, 1, none⟩ = some (.slice av n cap) ∧ Hid (W1.ownsRow 0 3 1 (.slice av n cap) n R ∧ _)) (fun e W1 ⟨h1, h2, h3, h4⟩ => ⟨h1, h2, h3, h4⟩)
  clear HADD CA
  go_wp2_with fail
  go_region_held3 (fun V => V.cell? ⟨q, 0, none⟩ = some (.pointer (some ⟨f, 0, none⟩)))
    (first | with_reducible exact d0 | with_reducible exact x0 | fail)
    (first | (go_at_call 174; refine CT.mono ?_; rintro e w2 ⟨rfl, rfl⟩) | (go_at_call 160; refine CA2.mono ?_; rintro e w4 ⟨rfl, x0, x1, HA⟩) | fail)
  obtain ⟨hown, HA1⟩ := HA.out
  have HA2 := Lib.hid HA1
  clear HA HA1 CT CA2 d0 x0
  go_upto_region 6 with (at_builtin; refine wpList_append_own_at _ rfl _ _ 70 rfl 0 3 i0 (.int .i64 0) 1 8 Tryz.underlying70 hi0 hz0 hz1 hz2 rfl (by decide) _ _ _ rfl (World.ownsRow.alloc hown _) ⟨w4.heap.size, 0, none⟩ 1 1 [.int .i64 v] rfl rfl (newR_one _ _ _) (by simp [Value.oneCell']) (by unfold maxLen; omega) (by omega) (by simp) ?_; intro v' w2 hown2 hgrow _ hob; obtain ⟨⟨k5, z5⟩, HN3⟩ := HA2.out v' w2 hown2 hgrow hob; have HN4 := Lib.hid HN3; obtain ⟨a', cap', hv'⟩ := ownsRow_shape hown2; subst hv'; clear hown2 hgrow hob HN3)
  obtain ⟨w3, hw3⟩ : ∃ y, w2.setCell ⟨q, 1, none⟩ (.slice a' (n + 1) cap') = y := ⟨_, rfl⟩
  obtain ⟨d0, d1, CC⟩ := HN4.out w3 hw3
  have HW3 := Lib.hid hw3
  clear hw3 HN4 HA2
  rw [HW3.out]
  go_wp2_with fail
  refine CC.mono ?_
  rintro e w5 ⟨rfl, hR4⟩
  clear CC
  have HR4 := Lib.hid hR4
  clear hR4
  go_wp2
  go_ret
  exact ⟨rfl, HR4.out⟩
theorem OwnN.sq {w w' : World} {f q : Nat} {mv : Value} {N : Int → Int → Int → Int → World → Prop} {a b c d : Int} {t : Tb} (h : OwnN w w' f q mv N a b c d t) (hq : w.heap.size ≤ q) : ∃ XQ, Sq w' q f mv XQ (.own t) ∧ (∀ k, XQ k → w.heap.size ≤ k) ∧ N a b c d w' ∧ Ex (mB mv) w w' := by
  obtain ⟨g, gi, r, h', ev, h1, h2, h3, h4, h5⟩ := h
  refine ⟨_, ⟨g, gi, r, h', ev, h1, h2, fun y => (h3 q y).2 rfl, rfl⟩, ?_, h4, h5⟩
  rintro k (hk | hk)
  · omega
  · exact (h3 k hk).1
/-- What the meter alone has counted ahead of it. -/
theorem SdR.ahead {w w1 : World} {f : Nat} {mv : Value} {N : Int → Int → Int → Int → World → Prop} {XF XQ XQ1 : Nat → Prop} {F' : Fa} {st' : Stn} {q' : Nat} {a' b' c' d' : Int} {w' : World} {XF' XQ' : Nat → Prop} (R : SdR w1 f mv N XF XQ1 F' st' q' a' b' c' d' w' XF' XQ') (hx : Ex (mB mv) w w1) (hq : ∀ k, XQ1 k → w.heap.size ≤ k) : SdR w f mv N XF XQ F' st' q' a' b' c' d' w' XF' XQ' := by
  have hs := hx.size
  refine ⟨R.fm, R.sq, R.ap, R.mq, R.n, fun k hk => ?_, fun k hk => ?_, ?_⟩
  · rcases R.hf k hk with y | y
    · exact .inl y
    · exact .inr (by omega)
  · rcases R.hq k hk with y | y
    · exact .inr (hq k y)
    · exact .inr (by omega)
  · refine (hx.mono fun k _ hk => .inr (.inr hk)).next R.ex fun k hk y => ?_
    rcases y with y | y | y
    · exact .inl y
    · have := hq k y; omega
    · exact .inr (.inr y)
set_option maxRecDepth 100000 in
set_option maxHeartbeats 4000000 in
theorem rowAdd_turn {w : World} {q f : Nat} {F : Fa} {pm : Option Addr} {XF XQ : Nat → Prop} {vs : List Int} {N : Int → Int → Int → Int → World → Prop} {a b c d : Int} {c0 : Nat} (hF : FamX w f F (.pointer pm) XF) (hS : Sq w q f (.pointer pm) XQ (.row vs)) (mq : ∀ k, mB (.pointer pm) k → ¬ XQ k) (hM4 : M4 (.pointer pm) N) (hM : N a b c d w) (ha : 0 ≤ a ∧ a ≤ 10000000) (hd : 0 ≤ d ∧ d ≤ 100000000) (hO : F.Ok hsT c0) (hc0 : c0 ≤ 49000) {nm : ByteArray} (hs : nm.size ≤ 3000) {k : Int} (hk : Num F.all nm k) (hl : vs.length ≤ F.kt.es.length) (res : Int) (hno : (if (vs.length : Int) < (F.kt.live : Int) then decide (res = (vs.length : Int)) else decide ((vs.length : Int) < (F.room : Int))) = false) (v : Int) :
    Calls Tryz.prog 167 #[.pointer (some ⟨q, 0, none⟩), .string nm, .int .i64 res, .int .i64 v] w fun e w' => ∃ q', e = .returned (.iface 229 (.pointer (some ⟨q', 0, none⟩))) ∧ ∃ XF' XQ', SdR w f (.pointer pm) N XF XQ { F with all := alln F.all nm k } (.own ((turnN F.kt.es vs vs.length).add (hsT nm) (numn F.all k) v)) q' (a + ((((turnN F.kt.es vs vs.length).add (hsT nm) (numn F.all k) v).made : Nat) : Int)) b c (d + 1) w' XF' XQ' := by
  have hFX := hF
  obtain ⟨g, gi, r, h, ev, mb, nv, hFa, rfl⟩ := hF
  obtain ⟨vv, hq, hv, hnq, rfl⟩ := hS
  obtain ⟨av, cap, hvv⟩ := ownsRow_shape hv
  have hle : vs.length ≤ 256 := by have := hO.len; have := hO.room; omega
  have k0 : w.cell? ⟨q, 0, none⟩ = some (.pointer (some ⟨f, 0, none⟩)) := hq.c 0 (by omega)
  have k1 : w.cell? ⟨q, 1, none⟩ = some vv := hq.c 1 (by omega)
  have CF := fits_any (w := w) k0 (by rw [hvv] at k1; exact k1) (hFa.nh.hd.c 1 (by omega)) (hFa.nh.hd.c 2 (by omega)) (hFa.dt.hd.c 3 (by omega)) res
  rw [hno] at CF
  obtain ⟨t1, t2, t3, t4, _⟩ := turnN_is F.kt.es vs vs.length (by omega)
  have hbr := (hO.ok).few
  have HTU : Hid (∀ W, Below w.heap.size w W → Calls Tryz.prog 178 #[.pointer (some ⟨q, 0, none⟩)] W fun e W1 => ∃ q', e = .returned (.pointer (some ⟨q', 0, none⟩)) ∧
      Calls Tryz.prog 179 #[.pointer (some ⟨q', 0, none⟩), .string nm, .int .i64 (-1), .int .i64 v] W1 fun e w' => e = .returned (.iface 229 (.pointer (some ⟨q', 0, none⟩))) ∧ ∃ XF' XQ', SdR w f (.pointer pm) N (fX f g gi r h ev mb nv) (fun k => k = q ∨ vv.ownBlock = some k) { F with all := alln F.all nm k } (.own ((turnN F.kt.es vs vs.length).add (hsT nm) (numn F.all k) v)) q' (a + ((((turnN F.kt.es vs vs.length).add (hsT nm) (numn F.all k) v).made : Nat) : Int)) b c (d + 1) w' XF' XQ') := by
    intro W hB
    have hqW := hq.of hB (by omega)
    have hvW : IntsR 0 W vv vs := hv.same0 fun k hk => hB.block k (hv.lt0 k hk)
    have hFW := hFa.below hB
    have hMW : N a b c d W := (hM4.mt c d).below hM hB
    refine (turned_any hFW hM4 hMW ⟨ha.1, by omega⟩ hd hqW hvW (fun y => mq q y (.inl rfl)) (fun k' hk' y => mq k' y (.inr hk')) hl hle hO.dead).mono ?_
    rintro e W1 ⟨q', h1, h2, h3⟩
    refine ⟨q', h1, ?_⟩
    obtain ⟨XQ1, hS1, hX1, hN1, hx1⟩ := h3.sq h2
    have hxw : Ex (mB (.pointer pm)) w W1 := (ex_of hB).trans hx1
    have hF1 := hFX.same (w' := W1) fun k' hk' => hxw.met (hFX.lt k' hk') (fun y => hFX.nm k' y hk')
    have hsB := hB.size
    refine (ownAdd_any (c0 := c0 + 300) hF1 hS1 (fun k' hk' y => by have := hX1 k' y; have := hFX.lt k' hk'; omega) (fun k' hk' y => by have := hX1 k' y; have := (hM4.mt c d).lt a b w k' hM hk'; omega) hM4 hN1 ⟨by omega, by omega⟩ ⟨hO.nd, hO.ok, hO.nl, hO.dead, hO.len, hO.room, hO.most, by have := hO.names; omega, by have := hO.births; omega, by have := hO.made; omega, by have := hO.turn; omega, hO.wide⟩ t1 (by omega) (by omega) (by omega) (by omega) hs hk (-1) v).mono ?_
    rintro e w' ⟨h4, XF', XQ', R⟩
    have hmd := ((turnN F.kt.es vs vs.length).add_rest (hsT nm) (numn F.all k) v).2.2.1
    rw [show a + ((turnN F.kt.es vs vs.length).made : Int) + ((((turnN F.kt.es vs vs.length).add (hsT nm) (numn F.all k) v).made - (turnN F.kt.es vs vs.length).made : Nat) : Int) = a + ((((turnN F.kt.es vs vs.length).add (hsT nm) (numn F.all k) v).made : Nat) : Int) by omega] at R
    exact ⟨h4, XF', XQ', R.ahead hxw (fun k' hk' => by have := hX1 k' hk'; omega)⟩
  clear hFX hFa hq hv hnq mq hM4 hM hO hk hno t1 t2 t3 t4 k1 hbr
  go_enter Tryz.func167, Tryz.ntmps167
  go_wp2_with fail
  refine CF.mono ?_
  rintro e w1 ⟨rfl, hB1⟩
  clear CF k0
  have CT := HTU.out w1 hB1
  clear HTU
  go_wp2_with fail
  refine CT.mono ?_
  rintro e w2 ⟨q', rfl, CA⟩
  clear CT
  go_wp2_with fail
  refine CA.mono ?_
  rintro e w3 ⟨rfl, hR⟩
  clear CA
  have HR := Lib.hid hR
  clear hR
  go_wp2
  go_ret
  exact ⟨q', rfl, HR.out⟩
end Go.Proofs.YtcbhpjpkjmlcnaaGreat
namespace Go.Proofs.YtcbhpjpkjmlcnaaGreat
open Go.RowKit Go.WideShapes

/-- A row's add. -/
theorem rowAdd_any {w : World} {q f : Nat} {F : Fa} {pm : Option Addr} {XF XQ : Nat → Prop} {vs : List Int} {N : Int → Int → Int → Int → World → Prop} {a b c d : Int} {c0 : Nat} (hF : FamX w f F (.pointer pm) XF) (hS : Sq w q f (.pointer pm) XQ (.row vs)) (ap : ∀ k, XF k → ¬ XQ k) (mq : ∀ k, mB (.pointer pm) k → ¬ XQ k) (hM4 : M4 (.pointer pm) N) (hM : N a b c d w) (ha : 0 ≤ a ∧ a ≤ 10000000) (hc : 0 ≤ c ∧ c ≤ 100000000) (hd : 0 ≤ d ∧ d ≤ 100000000) (hO : F.Ok hsT c0) (hc0 : c0 ≤ 49000) (hl : vs.length ≤ F.kt.es.length) (hmo : vs.length < F.most) {nm : ByteArray} (hs : nm.size ≤ 3000) {k : Int} (hk : Num F.all nm k) (res : Int)
    (hres : (∃ n : Nat, res = (n : Int) ∧ Fnd F.kt.es k n ∧ vs.length ≤ n) ∨ (res = -1 ∧ ∀ n, ¬ Fnd F.kt.es k n)) (v : Int) :
    Calls Tryz.prog 167 #[.pointer (some ⟨q, 0, none⟩), .string nm, .int .i64 res, .int .i64 v] w fun e w' => ∃ q' F' st' dc dd, e = .returned (.iface (tyS st') (.pointer (some ⟨q', 0, none⟩))) ∧ SetR hsT F nm v (.row vs) F' st' 0 dc dd ∧ ∃ XF' XQ', SdR w f (.pointer pm) N XF XQ F' st' q' (a + (F'.kt.made : Int) - (F.kt.made : Int) + (mdS st' : Int)) b (c + (dc : Int)) (d + (dd : Int)) w' XF' XQ' := by
  have hlive : F.kt.live = F.kt.es.length := by rw [Tb.live_eq, live_all hO.dead]
  have hfl : liveL F.kt.es = F.kt.es := live_all hO.dead
  have turn : (∀ n, Fnd F.kt.es k n → vs.length < n) → ¬ (F.kt.es.length = vs.length ∧ vs.length < F.room) → (if (vs.length : Int) < (F.kt.live : Int) then decide (res = (vs.length : Int)) else decide ((vs.length : Int) < (F.room : Int))) = false →
      Calls Tryz.prog 167 #[.pointer (some ⟨q, 0, none⟩), .string nm, .int .i64 res, .int .i64 v] w fun e w' => ∃ q' F' st' dc dd, e = .returned (.iface (tyS st') (.pointer (some ⟨q', 0, none⟩))) ∧ SetR hsT F nm v (.row vs) F' st' 0 dc dd ∧ ∃ XF' XQ', SdR w f (.pointer pm) N XF XQ F' st' q' (a + (F'.kt.made : Int) - (F.kt.made : Int) + (mdS st' : Int)) b (c + (dc : Int)) (d + (dd : Int)) w' XF' XQ' := by
    intro h1 h2 h3
    refine (rowAdd_turn hF hS mq hM4 hM ha hd hO hc0 hs hk hl res h3 v).mono ?_
    rintro e w' ⟨q', h4, XF', XQ', R⟩
    refine ⟨q', { F with all := alln F.all nm k }, .own ((turnN F.kt.es vs vs.length).add (hsT nm) (numn F.all k) v), 0, 1, h4, .turn hk h1 hmo h2, XF', XQ', ?_⟩
    rw [show a + (({ F with all := alln F.all nm k } : Fa).kt.made : Int) - (F.kt.made : Int) + (mdS (.own ((turnN F.kt.es vs vs.length).add (hsT nm) (numn F.all k) v)) : Int) = a + ((((turnN F.kt.es vs vs.length).add (hsT nm) (numn F.all k) v).made : Nat) : Int) by show a + (F.kt.made : Int) - (F.kt.made : Int) + ((((turnN F.kt.es vs vs.length).add (hsT nm) (numn F.all k) v).made : Nat) : Int) = _; omega, show c + ((0 : Nat) : Int) = c by omega]
    exact R
  rcases hres with ⟨n, rfl, hn, hle⟩ | ⟨rfl, hn⟩
  · rcases Nat.lt_or_ge vs.length n with c1 | c1
    · refine turn (fun m hm => ?_) (fun h => ?_) ?_
      · have := Nl.one (hs := hsT) (all := F.all) (by rw [hfl]; exact hO.nl) hm hn
        omega
      · have := hn.1; omega
      · rw [if_pos (by rw [hlive]; have := hn.1; omega)]
        exact decide_eq_false (by omega)
    · have e : n = vs.length := by omega
      subst e
      refine (rowAdd_next hF hS ap mq hM4 hM hc hO hn.1 v).mono ?_
      rintro e w' ⟨h4, XF', XQ', R⟩
      refine ⟨q, F, .row (vs ++ [v]), 1, 0, h4, .next hk hn hmo, XF', XQ', ?_⟩
      rw [show a + (F.kt.made : Int) - (F.kt.made : Int) + (mdS (.row (vs ++ [v])) : Int) = a by show a + (F.kt.made : Int) - (F.kt.made : Int) + ((0 : Nat) : Int) = a; omega, show d + ((0 : Nat) : Int) = d by omega]
      exact R
  · by_cases c1 : F.kt.es.length = vs.length ∧ vs.length < F.room
    · refine (rowAdd_new hF hS ap mq hM4 hM ⟨ha.1, by omega⟩ hc hO (by omega) hs hk c1.1 c1.2 v).mono ?_
      rintro e w' ⟨h4, XF', XQ', R⟩
      refine ⟨q, { F with all := alln F.all nm k, kt := F.kt.add (hsT nm) (numn F.all k) 0 }, .row (vs ++ [v]), 1, 0, h4, .new hk hn hmo c1.1 c1.2, XF', XQ', ?_⟩
      have hmd := (F.kt.add_rest (hsT nm) (numn F.all k) 0).2.2.1
      rw [show a + (({ F with all := alln F.all nm k, kt := F.kt.add (hsT nm) (numn F.all k) 0 } : Fa).kt.made : Int) - (F.kt.made : Int) + (mdS (.row (vs ++ [v])) : Int) = a + (((F.kt.add (hsT nm) (numn F.all k) 0).made - F.kt.made : Nat) : Int) by show a + ((F.kt.add (hsT nm) (numn F.all k) 0).made : Int) - (F.kt.made : Int) + ((0 : Nat) : Int) = _; omega, show d + ((0 : Nat) : Int) = d by omega]
      exact R
    · refine turn (fun m hm => absurd hm (hn m)) c1 ?_
      by_cases c2 : (vs.length : Int) < (F.kt.live : Int)
      · rw [if_pos c2]
        exact decide_eq_false (by omega)
      · rw [if_neg c2]
        rw [hlive] at c2
        exact decide_eq_false (fun h => c1 ⟨by omega, by omega⟩)
/-- A family, and one of its namespaces. -/
structure Fs (w : World) (f : Nat) (F : Fa) (mv : Value) (XF : Nat → Prop) (s : Nat) (st : Stn) (v : Nat) (XS : Nat → Prop) : Prop where
  fm : FamX w f F mv XF
  sm : Sm w s f mv v XS st
  ap : ∀ k, XF k → ¬ XS k
  mq : ∀ k, mB mv k → ¬ XS k
/-- The table on which a namespace stands. -/
def tbS (F : Fa) : Stn → Tb
  | .row _ => F.kt
  | .own t => t
/-- What a call of a namespace leaves. -/
structure SsR (w : World) (f : Nat) (mv : Value) (N : Int → Int → Int → Int → World → Prop) (XF XS : Nat → Prop) (s : Nat) (F' : Fa) (st' : Stn) (v' : Nat) (a' b' c' d' : Int) (w' : World) (XF' XS' : Nat → Prop) : Prop where
  fs : Fs w' f F' mv XF' s st' v' XS'
  n : N a' b' c' d' w'
  hf : ∀ k, XF' k → XF k ∨ w.heap.size ≤ k
  hs : ∀ k, XS' k → XS k ∨ w.heap.size ≤ k
  ex : Ex (fun k => XF k ∨ XS k ∨ mB mv k) w w'
theorem mR_table (a : Option Addr) (w : World) : (method 342 117 (.pointer a) "lexicon/shared.table").run Tryz.prog w = .ok (174, .pointer a) w := by kernel_rfl
theorem mO_table (a : Option Addr) (w : World) : (method 342 229 (.pointer a) "lexicon/shared.table").run Tryz.prog w = .ok (215, .pointer a) w := by kernel_rfl
theorem mR_has (a : Option Addr) (w : World) : (method 342 117 (.pointer a) "lexicon/shared.has").run Tryz.prog w = .ok (168, .pointer a) w := by kernel_rfl
theorem mO_has (a : Option Addr) (w : World) : (method 342 229 (.pointer a) "lexicon/shared.has").run Tryz.prog w = .ok (209, .pointer a) w := by kernel_rfl
theorem mR_size (a : Option Addr) (w : World) : (method 342 117 (.pointer a) "lexicon/shared.size").run Tryz.prog w = .ok (173, .pointer a) w := by kernel_rfl
theorem mO_size (a : Option Addr) (w : World) : (method 342 229 (.pointer a) "lexicon/shared.size").run Tryz.prog w = .ok (214, .pointer a) w := by kernel_rfl
theorem mR_put (a : Option Addr) (w : World) : (method 342 117 (.pointer a) "lexicon/shared.put").run Tryz.prog w = .ok (171, .pointer a) w := by kernel_rfl
theorem mO_put (a : Option Addr) (w : World) : (method 342 229 (.pointer a) "lexicon/shared.put").run Tryz.prog w = .ok (212, .pointer a) w := by kernel_rfl
theorem mR_add (a : Option Addr) (w : World) : (method 342 117 (.pointer a) "lexicon/shared.add").run Tryz.prog w = .ok (167, .pointer a) w := by kernel_rfl
theorem mO_add (a : Option Addr) (w : World) : (method 342 229 (.pointer a) "lexicon/shared.add").run Tryz.prog w = .ok (179, .pointer a) w := by kernel_rfl
theorem isNothing_no {w : World} {s q : Nat} {T : TypeId} (x1 : w.cell? ⟨s, 1, none⟩ = some (.iface T (.pointer (some ⟨q, 0, none⟩)))) :
    Calls Tryz.prog 48 #[.pointer (some ⟨s, 0, none⟩)] w fun e w' => e = .returned (.bool false) ∧ w' = w := by
  have h1 := eqSp s
  go_enter Tryz.func48, Tryz.ntmps48
  go_wp2
  go_ret
  exact ⟨rfl, rfl⟩
theorem isNothing_nil (w : World) : Calls Tryz.prog 48 #[.pointer none] w fun e w' => e = .returned (.bool true) ∧ w' = w := by
  have h1 : ∀ w, (binOp .eql 81 (.pointer none) (.pointer none)).run Tryz.prog w = .ok (.bool true) w := fun w => by kernel_rfl
  go_enter Tryz.func48, Tryz.ntmps48
  go_wp2
  go_ret
  exact ⟨rfl, rfl⟩
theorem isNothing_zero {w : World} {s : Nat} (x1 : w.cell? ⟨s, 1, none⟩ = some .nilIface) : Calls Tryz.prog 48 #[.pointer (some ⟨s, 0, none⟩)] w fun e w' => e = .returned (.bool true) ∧ w' = w := by
  have h1 := eqSp s
  go_enter Tryz.func48, Tryz.ntmps48
  go_wp2
  go_ret
  exact ⟨rfl, rfl⟩
/-- A namespace's seek. -/
theorem sseek_any {w : World} {f : Nat} {F : Fa} {mv : Value} {XF : Nat → Prop} {s : Nat} {st : Stn} {v : Nat} {XS : Nat → Prop} {N : Int → Int → Int → Int → World → Prop} {a b c d : Int} {c0 : Nat} (h : Fs w f F mv XF s st v XS) (hM4 : M4 mv N) (hM : N a b c d w) (hb : 0 ≤ b ∧ b ≤ 10000000000) (hO : F.Ok hsT c0) (hst : st.Ok hsT F c0) {nm : ByteArray} (hs : nm.size ≤ 3000) {k : Int} (hk : Num F.all nm k) :
    Calls Tryz.prog 49 #[.pointer (some ⟨s, 0, none⟩), .string nm] w fun e w' => ∃ (res : Int) (jj : Nat), e = .returned (.int .i64 res) ∧ SkR (tbS F st) (hsT nm) k res jj ∧ N a (b + (jj : Int)) c d w' ∧ Ex (mB mv) w w' := by
  obtain ⟨g, gi, r, h', ev, mb, nv, hFa, hXF⟩ := h.fm
  obtain ⟨q, XQ, h1, h2, h3, h4⟩ := h.sm
  have CN := numberOf_any (hFa.nh.hd.c 4 (by omega)) hFa.nh.mp hs hk
  cases st with
  | row vs =>
    obtain ⟨vv, hq, hv, hnq, rfl⟩ := h2
    show Calls Tryz.prog _ _ w fun e w' => ∃ (res : Int) (jj : Nat), e = .returned (.int .i64 res) ∧ SkR F.kt (hsT nm) k res jj ∧ N a (b + (jj : Int)) c d w' ∧ Ex (mB mv) w w'
    exact seek_gen (q := q) (t := F.kt) (T := 117) (Fn := 174) (M := fun a b w => N a b c d w) hs (h1.c 0 (by omega)) (h1.c 1 (by omega)) (fun w => mR_table _ w) (fun args w => Tryz.call174 args w) CN (rowTable_any (hq.c 0 (by omega)) (hFa.nh.hd.c 1 (by omega))) hFa.dt hO.ok (hM4.mt c d) (hM4.vi c d) hM hb (by have := hO.ok.few; have := hO.births; have := hO.ok.all; omega) (fun n hn => Nl.of (by rw [live_all hO.dead]; exact hO.nl) hk hn)
  | own t =>
    obtain ⟨tg, tgi, tr, th, tev, hq, hD, hnq, rfl⟩ := h2
    show Calls Tryz.prog _ _ w fun e w' => ∃ (res : Int) (jj : Nat), e = .returned (.int .i64 res) ∧ SkR t (hsT nm) k res jj ∧ N a (b + (jj : Int)) c d w' ∧ Ex (mB mv) w w'
    exact seek_gen (q := q) (t := t) (T := 229) (Fn := 215) (M := fun a b w => N a b c d w) hs (h1.c 0 (by omega)) (h1.c 1 (by omega)) (fun w => mO_table _ w) (fun args w => Tryz.call215 args w) CN (ownTable_any (hq.c 1 (by omega))) hD hst.1 (hM4.mt c d) (hM4.vi c d) hM hb (by have := hst.1.few; have := hst.1.all; omega) (fun n hn => Nl.of hst.2.1 hk hn)
end Go.Proofs.YtcbhpjpkjmlcnaaGreat
