/-
  Walks through a dictionary of one's own; awake.
-/
import Derived.Test.YtbdpecpmdglalaaGreatStGo
import Derived.Test.YtbdpecpmdglalaaGreatPrl
import Derived.Test.YtbdpecpmdglalaaGreatStEq
namespace Go.Proofs.YtbdpecpmdglalaaGreat
open Go.RowKit Go.WideShapes

def Nx1 (back : Bool) (es : List En) (told : Int) (n : Nat) : Prop := if back = true then Nb es told n else Nf es told n
def Nx0 (back : Bool) (es : List En) (told : Int) : Prop := if back = true then Fb es told else Ff es told
theorem fd_yes {back : Bool} {es : List En} {told : Int} {n : Nat} (hn : Nx1 back es told n) : ∀ e, FdR back es told e → e = .returned (.tuple #[eV (nth es n), .bool true]) := by
  unfold Nx1 at hn
  unfold FdR
  cases back with
  | true =>
    have hn' : Nb es told n := hn
    rintro e (⟨m, b, g⟩ | ⟨b, _⟩)
    · rw [g, b.uniq hn']
    · have h1 := b n hn'.1 hn'.2.1
      have h2 := hn'.2.2.1
      omega
  | false =>
    have hn' : Nf es told n := hn
    rintro e (⟨m, b, g⟩ | ⟨b, _⟩)
    · rw [g, b.uniq hn']
    · have h1 := b n hn'.1 hn'.2.1
      have h2 := hn'.2.2.1
      omega
theorem fd_no {back : Bool} {es : List En} {told : Int} (hn : Nx0 back es told) : ∀ e, FdR back es told e → e = .returned (.tuple #[eV En.zero, .bool false]) := by
  unfold Nx0 at hn
  unfold FdR
  cases back with
  | true =>
    have hn' : Fb es told := hn
    rintro e (⟨m, b, g⟩ | ⟨b, g⟩)
    · have h1 := hn' m b.1 b.2.1
      have h2 := b.2.2.1
      omega
    · exact g
  | false =>
    have hn' : Ff es told := hn
    rintro e (⟨m, b, g⟩ | ⟨b, g⟩)
    · have h1 := hn' m b.1 b.2.1
      have h2 := b.2.2.1
      omega
    · exact g
/-- The walk's own block is one of those kept: the dictionary stays as it was. -/
theorem Pd.strolled {K : Nat → Prop} {B : Nat} {w0 w w' : World} {d g gi r h : Nat} {ev : Value} {t : Tb} {most : Int} {v : Nat} (p : Pd K B w0 w d g gi r h ev t most v) {s : Nat} (hs : K s) (hB : B ≤ s) (hx : Ex (fun k => k = s) w w') : Pd K B w0 w' d g gi r h ev t most v :=
  ⟨p.dc.same fun k hk => hx.block k (p.dc.lt k hk) (fun e => (p.kp s hs).2 (e ▸ hk)), p.fr, p.bl.trans (hx.below (fun k hk => by rw [hk]; exact hB) p.size), fun k hk => ⟨Nat.lt_of_lt_of_le (p.kp k hk).1 hx.size, (p.kp k hk).2⟩⟩
theorem ln_yes {K : Nat → Prop} {B : Nat} {w0 w : World} {d g gi r h : Nat} {ev : Value} {t : Tb} {most : Int} {v : Nat} (p : Pd K B w0 w d g gi r h ev t most v) (hb : t.Born) {s b : Nat} {back : Bool} {told : Int} (hS : Sr w s d back (t.live : Int) told b) (hK : K s) (hB : B ≤ s) (ht : -1 ≤ told) (ht2 : back = false → told < 9223372036854775807) {n : Nat} (hn : Nx1 back t.es told n) :
    Calls Tryz.prog 15 #[.pointer (some ⟨s, 0, none⟩)] w fun e w' => e = .returned (.tuple #[eV (nth t.es n), .int .i64 0]) ∧ Sr w' s d back (t.live : Int) (nth t.es n).birth b ∧ Pd K B w0 w' d g gi r h ev t most v ∧ Ex (fun k => k = s) w w' :=
  (next_go p.dc hb hS ht ht2 (yb := true) (y0 := (nth t.es n).live) (y1 := (nth t.es n).hash) (y2 := (nth t.es n).key) (y3 := (nth t.es n).value) (y4 := (nth t.es n).birth) (fd_yes hn)).mono fun _ _ ⟨h1, h2, h3⟩ => ⟨h1, h2, p.strolled hK hB h3, h3⟩
theorem ln_no {K : Nat → Prop} {B : Nat} {w0 w : World} {d g gi r h : Nat} {ev : Value} {t : Tb} {most : Int} {v : Nat} (p : Pd K B w0 w d g gi r h ev t most v) (hb : t.Born) {s b : Nat} {back : Bool} {told : Int} (hS : Sr w s d back (t.live : Int) told b) (hK : K s) (hB : B ≤ s) (ht : -1 ≤ told) (ht2 : back = false → told < 9223372036854775807) (hn : Nx0 back t.es told) :
    Calls Tryz.prog 15 #[.pointer (some ⟨s, 0, none⟩)] w fun e w' => e = .returned (.tuple #[eV En.zero, .int .i64 10]) ∧ Blk w' s 5 (soF false) ∧ Pd K B w0 w' d g gi r h ev t most v ∧ Ex (fun k => k = s) w w' :=
  (next_go p.dc hb hS ht ht2 (yb := false) (y0 := false) (y1 := 0) (y2 := 0) (y3 := 0) (y4 := 0) (fd_no hn)).mono fun _ _ ⟨h1, h2, h3⟩ => ⟨h1, h2, p.strolled hK hB h3, h3⟩
/-- A new walk through a dictionary of one's own, kept with what is kept. -/
theorem ln_new {K : Nat → Prop} {B : Nat} {w0 w : World} {d g gi r h : Nat} {ev : Value} {t : Tb} {most : Int} {v : Nat} (p : Pd K B w0 w d g gi r h ev t most v) (back : Bool) :
    Calls Tryz.prog 10 #[.pointer (some ⟨d, 0, none⟩), .bool back] w fun e w' => ∃ s, e = .returned (.pointer (some ⟨s, 0, none⟩)) ∧ w.heap.size ≤ s ∧ ∃ b, w.heap.size ≤ b ∧ Sr w' s d back (t.live : Int) (if back = true then 9223372036854775807 else -1) b ∧ Pd (fun k => K k ∨ k = s ∨ k = b) B w0 w' d g gi r h ev t most v ∧ Below w.heap.size w w' := by
  refine (snew_any p.dc back).mono ?_
  rintro e w' ⟨s, b, h1, h2, h3, h4, h5⟩
  refine ⟨s, h1, h2, b, h3, h4, (p.below h5).withK ?_, h5⟩
  rintro k (hk | rfl | rfl)
  · exact ((p.below h5).kp k hk)
  · exact ⟨h4.lt.1, fun hc => by have := p.dc.lt _ hc; omega⟩
  · exact ⟨h4.lt.2, fun hc => by have := p.dc.lt _ hc; omega⟩
theorem awake_live : (Tb.new.add 7 1 10).live = 1 := by rw [Tb.live_eq, awake_add]; rfl
theorem new_born : Tb.new.Born := Go.Proofs.YtbdpecpmdglalaaGreat.Born.nil _
set_option maxRecDepth 100000 in
set_option maxHeartbeats 4000000 in
theorem awake9_any (w : World) : Calls Tryz.prog 5 #[] w fun e w' => e = .returned (.bool true) ∧ Below w.heap.size w w' := by
  have CN := lw_new w 3 (by decide) (by decide)
  go_enter Tryz.func5, Tryz.ntmps5
  go_wp2_with fail
  refine CN.mono ?_
  rintro e w1 ⟨d, g, gi, r, h, rfl, hP⟩
  clear CN
  have CB := lw_begin hP 2 (by decide) (by decide) 7 1 10
  have h1 := eqD d
  clear hP
  go_wp2_with fail
  refine CB.mono ?_
  rintro e w2 ⟨x, rfl, hx, hkx, hnx, hm, hP, _⟩
  clear CB h1
  have CS := ln_new hP false
  have lx := hm.lt (by omega)
  clear hP
  go_wp2_with fail
  refine CS.mono ?_
  rintro e w3 ⟨s, rfl, hs, b, hb, hS, hP, hB3⟩
  clear CS
  have hm3 := hm.of hB3 (by omega)
  have hBs := hP.size
  have h1 := eqMa x
  have h2 := eqSr s
  have CS := fresh_step hP hx hm3 hnx (by rintro (h | h | h) <;> omega) ⟨by decide, by decide, by decide, by decide⟩ (fun n hn => (new_none _ n hn).elim)
  have HS := Lib.hid hS
  have hB2 : w.heap.size ≤ w2.heap.size := by omega
  clear hP hm hm3 hS
  go_wp2_with fail
  refine CS.mono ?_
  rintro e w4 ⟨u, rfl, hL, hK4⟩
  clear CS
  obtain ⟨hu, g2, gi2, r2, h2', ev2, hP⟩ : u = ⟨2, 0, false, 10, 0⟩ ∧ ∃ g gi' r' h' ev', Pd (fun k => False ∨ k = s ∨ k = b) w.heap.size w w4 d g gi' r' h' ev' (Tb.new.add 7 1 10) 3 1 := by
    rcases hL with ⟨n, hO, _⟩ | ⟨_, _, hM⟩
    · exact (new_none _ n hO).elim
    · rcases hM with ⟨_, _, q, y⟩ | ⟨_, q, _⟩ | ⟨q, _⟩
      · refine ⟨?_, y⟩
        rw [q, awake_add]
        rfl
      · exact absurd (by decide) q
      · exact absurd (.inl rfl) q
  subst hu
  clear hL
  have hS4 := HS.out.same (hK4 s (.inr (.inl rfl))) (hK4 b (.inr (.inr rfl)))
  have CS := ln_new hP true
  have hes := awake_add
  have hlv := awake_live
  have hbo : (Tb.new.add 7 1 10).Born := new_born.add 7 1 10
  generalize Tb.new.add 7 1 10 = T at *
  have HS4 := Lib.hid hS4
  have HES := Lib.hid hes
  have HLV := Lib.hid hlv
  have HBO := Lib.hid hbo
  clear hP hS4 hK4 HS hes hlv hbo
  unfold tuV
  have hfl : ∀ w, (Instr.field 48 (.agg #[.int .i64 2, .int .i64 0, .bool false, .int .i64 10, .int .i64 0]) 0).run Tryz.prog w = .ok (.int .i64 2) w := fun _ => by kernel_rfl
  go_wp2_with fail
  refine CS.mono ?_
  rintro e w5 ⟨s2, rfl, hs2, b2, hb2, hS2, hP, hB5⟩
  clear CS
  have hS5 := HS4.out.below hB5
  have l4 := HS4.out.lt
  have CS := next_size hP.dc hS5 (by rw [HLV.out]; decide)
  have HP := Lib.hid hP
  have HS2 := Lib.hid hS2
  clear hP hS2 hS5
  go_wp2_with fail
  refine CS.mono ?_
  rintro e w6 ⟨rfl, _, hX6⟩
  clear CS
  have hP6 := HP.out.strolled (.inl (.inr (.inl rfl))) (by omega) hX6
  have hS6 := HS2.out.same (hX6.block s2 HS2.out.lt.1 (by omega)) (hX6.block b2 HS2.out.lt.2 (by omega))
  have hn : Nx1 true T.es 9223372036854775807 0 := by
    show Nb T.es 9223372036854775807 0
    rw [HES.out]
    exact ⟨by decide, rfl, by decide, fun k h1 h2 => by simp at h2; omega⟩
  have CS := ln_yes hP6 HBO.out hS6 (.inr (.inl rfl)) (by omega) (by decide) (fun h => by cases h) hn
  have hnt : nth T.es 0 = ⟨true, 7, 1, 10, 0⟩ := by rw [HES.out]; rfl
  rw [hnt] at CS
  clear hP6 hS6 hX6 hn hnt HP HS2
  unfold eV at CS ⊢
  simp only at CS
  go_wp2_with fail
  refine CS.mono ?_
  rintro e w7 ⟨rfl, hS7, hP7, _⟩
  clear CS
  obtain ⟨w8, hw8⟩ : ∃ y, w7.alloc (.cells #[.bool true, .int .i64 7, .int .i64 1, .int .i64 10, .int .i64 0] 53) = y := ⟨_, rfl⟩
  have hB8 : Below w7.heap.size w7 w8 := by rw [← hw8]; exact (Below.refl _ w7).alloc (Nat.le_refl _) _
  have hX8 : Blk w8 w7.heap.size 5 (fun j => #[Value.bool true, .int .i64 7, .int .i64 1, .int .i64 10, .int .i64 0].getD j .nilFunc) := by rw [← hw8]; exact Blk.new w7 _ _
  have HW8 := Lib.hid hw8
  have l7 := hS7.lt.1
  have hn : Nx0 true T.es 0 := by
    show Fb T.es 0
    rw [HES.out]
    exact fun k h1 h2 => by
      have : k = 0 := by simp at h1; exact h1
      subst this
      decide
  have CS := ln_no (hP7.below hB8) HBO.out (hS7.below hB8) (.inr (.inl rfl)) (by omega) (by decide) (fun h => by cases h) hn
  have HX8 := Lib.hid hX8
  clear hP7 hS7 hn hX8 hw8 hB8
  unfold eV at CS
  go_upto_region 11 with fail
  rw [HW8.out]
  go_wp2_with fail
  refine CS.mono ?_
  rintro e w9 ⟨rfl, _, hP9, hX9⟩
  clear CS
  obtain ⟨w10, hw10⟩ : ∃ y, w9.alloc (.cells #[.bool En.zero.live, .int .i64 En.zero.hash, .int .i64 En.zero.key, .int .i64 En.zero.value, .int .i64 En.zero.birth] 53) = y := ⟨_, rfl⟩
  have hB10 : Below w9.heap.size w9 w10 := by rw [← hw10]; exact (Below.refl _ w9).alloc (Nat.le_refl _) _
  have hY : Blk w9 w7.heap.size 5 (fun j => #[Value.bool true, .int .i64 7, .int .i64 1, .int .i64 10, .int .i64 0].getD j .nilFunc) := HX8.out.same (hX9.block _ (HX8.out.lt (by omega)) (by omega))
  have hY10 := hY.of hB10 (by omega)
  have c2 : w10.cell? ⟨w7.heap.size, 2, none⟩ = some (.int .i64 1) := hY10.c 2 (by omega)
  have c3 : w10.cell? ⟨w7.heap.size, 3, none⟩ = some (.int .i64 10) := hY10.c 3 (by omega)
  have HB : Hid (Below w.heap.size w w10) := (hP9.below hB10).bl
  have HW10 := Lib.hid hw10
  clear hw10 hY hY10 hP9 hX9 hB10
  unfold En.zero at HW10 ⊢
  go_upto_region 12 with fail
  rw [HW10.out]
  go_wp2
  go_ret
  exact ⟨rfl, HB.out⟩
end Go.Proofs.YtbdpecpmdglalaaGreat
