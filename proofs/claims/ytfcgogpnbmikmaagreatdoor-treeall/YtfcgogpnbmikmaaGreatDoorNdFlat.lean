/-
  TreeAll: the law's flat.
-/
import Derived.Test.YtfcgogpnbmikmaaGreatDoorNdBare
namespace Go.Proofs.YtfcgogpnbmikmaaGreatDoor
open Go.RowKit Go.WideShapes
namespace Nd
open Lx

theorem Tryz.infoI : (Tryz.prog.info? 3).map (fun i => (i.zero, i.size, i.bytes)) = some (some (.int .i64 0), 1, 8) := by kernel_rfl
def nl (L : List (Nat × Nv)) : List Value := (L.map (fun p => p.2.c)).flatten
def dl (L : List (Nat × Nv)) : List Value := L.map (fun p => .int .i64 (p.1 : Int))
/-- The law's two lists. -/
structure Fw (w : World) (B : Nat) (lv av : Value) (L : List (Nat × Nv)) : Prop where
  l : w.ownsRow B 27 6 lv L.length (nl L)
  a : w.ownsRow B 3 1 av L.length (dl L)
/-- What a call of flat leaves. -/
structure Gr (w w' : World) (lv av lv' av' : Value) : Prop where
  os : w'.os = w.os
  tape : w'.tape = w.tape
  output : w'.output = w.output
  size : w.heap.size ≤ w'.heap.size
  blk : ∀ b, b < w.heap.size → lv.ownBlock ≠ some b → av.ownBlock ≠ some b → w'.heap[b]? = w.heap[b]?
  nl : ∀ b, lv'.ownBlock = some b → lv.ownBlock = some b ∨ w.heap.size ≤ b
  na : ∀ b, av'.ownBlock = some b → av.ownBlock = some b ∨ w.heap.size ≤ b
theorem Gr.refl (w : World) (lv av : Value) : Gr w w lv av lv av := ⟨rfl, rfl, rfl, Nat.le_refl _, fun _ _ _ _ => rfl, fun _ h => Or.inl h, fun _ h => Or.inl h⟩
theorem Gr.trans {w w1 w2 : World} {lv av lv1 av1 lv2 av2 : Value} (h : Gr w w1 lv av lv1 av1) (k : Gr w1 w2 lv1 av1 lv2 av2) : Gr w w2 lv av lv2 av2 := by
  refine ⟨k.os.trans h.os, k.tape.trans h.tape, k.output.trans h.output, Nat.le_trans h.size k.size, fun b hb h1 h2 => ?_, fun b hb => ?_, fun b hb => ?_⟩
  · refine (k.blk b (Nat.lt_of_lt_of_le hb h.size) (fun e => ?_) (fun e => ?_)).trans (h.blk b hb h1 h2)
    · rcases h.nl b e with e | e
      · exact h1 e
      · omega
    · rcases h.na b e with e | e
      · exact h2 e
      · omega
  · rcases k.nl b hb with e | e
    · exact h.nl b e
    · exact Or.inr (Nat.le_trans h.size e)
  · rcases k.na b hb with e | e
    · exact h.na b e
    · exact Or.inr (Nat.le_trans h.size e)
theorem Gr.alloc (w : World) (o : Obj) (lv av : Value) : Gr w (w.alloc o) lv av lv av := ⟨rfl, rfl, rfl, by simp, fun b hb _ _ => Below.heap_alloc _ _ _ hb, fun _ h => Or.inl h, fun _ h => Or.inl h⟩
theorem Fw.alloc {w : World} {B : Nat} {lv av : Value} {L : List (Nat × Nv)} (h : Fw w B lv av L) (o : Obj) : Fw (w.alloc o) B lv av L := ⟨World.ownsRow.alloc h.l _, World.ownsRow.alloc h.a _⟩
theorem owns_keep {w w' : World} {B : Nat} {e : TypeId} {size n : Nat} {v : Value} {xs : List Value} (h : w.ownsRow B e size v n xs) (hb : ∀ b, v.ownBlock = some b → w'.heap[b]? = w.heap[b]?) : w'.ownsRow B e size v n xs := by
  obtain ⟨h1, h2 | ⟨g, c, cur, rfl, h3, h4, h5⟩⟩ := h
  · exact ⟨h1, Or.inl h2⟩
  · exact ⟨h1, Or.inr ⟨g, c, cur, rfl, h3, (hb g rfl).trans h4, h5⟩⟩
theorem owns_type {w : World} {B : Nat} {e : TypeId} {size n b : Nat} {v : Value} {xs : List Value} (h : w.ownsRow B e size v n xs) (hb : v.ownBlock = some b) : B ≤ b ∧ b < w.heap.size ∧ ∃ c, w.heap[b]? = some (.cells c e) := by
  obtain ⟨h1, h2 | ⟨g, c, cur, rfl, h3, h4, h5⟩⟩ := h
  · rw [h2.1] at hb; cases hb
  · injection hb with hb
    subst hb
    exact ⟨h3, (Array.getElem?_eq_some_iff.1 h4).1, _, h4⟩
theorem Fw.apart {w : World} {B : Nat} {lv av : Value} {L : List (Nat × Nv)} (h : Fw w B lv av L) (b : Nat) : lv.ownBlock = some b → av.ownBlock ≠ some b := fun h1 h2 => by
  obtain ⟨_, _, c, hc⟩ := owns_type h.l h1
  obtain ⟨_, _, d, hd⟩ := owns_type h.a h2
  rw [hc] at hd
  simp at hd
theorem Gr.ofL {w w' : World} {lv av lv' : Value} (hg : w.grownBy w' lv.ownBlock) (ha : lv'.ownBlock = lv.ownBlock ∨ lv'.ownBlock = some w.heap.size) : Gr w w' lv av lv' av :=
  ⟨hg.os, hg.tape, hg.output, hg.size, fun b hb h1 _ => hg.block b hb (fun e => h1 e.symm), fun b hb => by
    rcases ha with e | e
    · exact Or.inl (e ▸ hb)
    · rw [e] at hb; injection hb with hb; exact Or.inr (by omega), fun _ h => Or.inl h⟩
theorem Gr.ofA {w w' : World} {lv av av' : Value} (hg : w.grownBy w' av.ownBlock) (ha : av'.ownBlock = av.ownBlock ∨ av'.ownBlock = some w.heap.size) : Gr w w' lv av lv av' :=
  ⟨hg.os, hg.tape, hg.output, hg.size, fun b hb _ h2 => hg.block b hb (fun e => h2 e.symm), fun _ h => Or.inl h, fun b hb => by
    rcases ha with e | e
    · exact Or.inl (e ▸ hb)
    · rw [e] at hb; injection hb with hb; exact Or.inr (by omega)⟩
theorem nl_one (L : List (Nat × Nv)) (d : Nat) (x : Nv) : nl (L ++ [(d, x)]) = nl L ++ x.c := by simp [nl]
theorem dl_one (L : List (Nat × Nv)) (d : Nat) (x : Nv) : dl (L ++ [(d, x)]) = dl L ++ [.int .i64 (d : Int)] := by simp [dl]
set_option maxRecDepth 100000 in
set_option maxHeartbeats 8000000 in
theorem flat_any {ok : Nat → Prop} {B : Nat} (hok : ∀ b, ok b → b < B) : ∀ (t : Tr) (x : Nv) (d : Nat) (L L0 : List (Nat × Nv)) (lv av : Value) (w : World), Fl w ok t x d L → B ≤ w.heap.size → Fw w B lv av L0 → L0.length + L.length ≤ 1000 → d + L.length ≤ 1000 →
    Calls Tryz.prog 19 #[x.v, .int .i64 (d : Int), lv, av] w fun e w' => ∃ lv' av', e = .returned (.tuple #[lv', av']) ∧ Fw w' B lv' av' (L0 ++ L) ∧ Gr w w' lv av lv' av' := by
  obtain ⟨iN, hni, hnz0, hnz1, hnz2⟩ := info_parts Tryz.infoNd
  obtain ⟨iI, hii, hiz0, hiz1, hiz2⟩ := info_parts Tryz.infoI
  intro t
  induction t with
  | no => intro x d L L0 lv av w h; cases h
  | mk k a s neg mg n kid ih =>
    intro x d L L0 lv av w hF hB hW hL hd
    cases hF with
    | @mk _ _ _ _ _ _ _ _ _ ka kc b off ys Ls hk hm h3 hAt hFl =>
      obtain ⟨ma, mn, mc, hm⟩ := hm
      obtain ⟨xk, xa, xs, xn, xm, xkv⟩ := x
      simp only at hm hk
      subst hm
      subst hk
      obtain ⟨la, lc, rfl⟩ := ownsS_shape hW.l
      obtain ⟨aa, ac, rfl⟩ := ownsS_shape hW.a
      obtain ⟨N0, hN0⟩ : ∃ N, L0.length = N := ⟨_, rfl⟩
      simp only [List.length_cons] at hL hd
      obtain ⟨W, hWW⟩ : ∃ W, w.alloc (.cells #[.int .i64 xk, .int .i64 xa, .string xs, .bool xn, .slice ma mn mc, .slice ka n kc] 27) = W := ⟨_, rfl⟩
      have hN : At W w.heap.size 0 ⟨xk, xa, xs, xn, .slice ma mn mc, .slice ka n kc⟩ := by rw [← hWW]; exact at_alloc w ⟨xk, xa, xs, xn, .slice ma mn mc, .slice ka n kc⟩
      have hW1 : Fw W B (.slice la L0.length lc) (.slice aa L0.length ac) L0 := by rw [← hWW]; exact hW.alloc _
      have hG1 : Gr w W (.slice la L0.length lc) (.slice aa L0.length ac) (.slice la L0.length lc) (.slice aa L0.length ac) := by rw [← hWW]; exact Gr.alloc w _ _ _
      have hsW : W.heap.size = w.heap.size + 1 := by rw [← hWW]; simp
      rw [hN0] at hW1 hG1 hL ⊢
      have hl1 := hW1.l
      rw [hN0] at hl1
      have hBW : B ≤ W.heap.size := by omega
      have HN := Lib.hid hN
      have HG1 := Lib.hid hG1
      have HW1 := Lib.hid hW1
      have HFl := Lib.hid hFl
      have HAt := Lib.hid hAt
      have HIH := Lib.hid ih
      have HW0 := Lib.hid hW
      have H3 := Lib.hid h3
      have HSW := Lib.hid hsW
      simp only [Nv.v]
      obtain ⟨n0, n1, n2, n3, n4, n5⟩ := hN.cells
      clear hN hW1 hG1 hFl hAt ih hW h3 hsW
      go_enter Tryz.func19, Tryz.ntmps19
      go_wp2_with (at_builtin; refine wpListS_append_own rfl _ _ 25 rfl B 27 iN _ 6 88 Tryz.underlying25 hni hnz0 hnz1 hnz2 rfl (by decide) _ N0 (nl L0) rfl (World.ownsRow.alloc hl1 _) ⟨W.heap.size, 0, none⟩ 1 1 (Nv.c ⟨xk, xa, xs, xn, .slice ma mn mc, .slice ka n kc⟩) rfl rfl (newR6 _ ⟨xk, xa, xs, xn, .slice ma mn mc, .slice ka n kc⟩ _) (nc_one _ rfl rfl) (by unfold maxLen; omega) (by omega) (by simp; omega) ?_)
      intro v5 w5 hown5 hgrow5 hat5
      have hG5 : Gr (W.alloc (.cells #[.int .i64 xk, .int .i64 xa, .string xs, .bool xn, .slice ma mn mc, .slice ka n kc] 27)) w5 (.slice la N0 lc) (.slice aa N0 ac) v5 (.slice aa N0 ac) := Gr.ofL hgrow5 (by rw [World.size_alloc]; exact hat5)
      have hW2 := HW1.out.alloc (.cells #[.int .i64 xk, .int .i64 xa, .string xs, .bool xn, .slice ma mn mc, .slice ka n kc] 27)
      have ha5 : w5.ownsRow B 3 1 (.slice aa N0 ac) N0 (dl L0) := by
        have h1 := hW2.a
        rw [hN0] at h1
        exact owns_keep h1 (fun q hq => hgrow5.block q (owns_type h1 hq).2.1 (fun e => hW2.apart q e.symm hq))
      have hGW5 : Gr W w5 (.slice la N0 lc) (.slice aa N0 ac) v5 (.slice aa N0 ac) := (Gr.alloc W _ _ _).trans hG5
      obtain ⟨g5, c5, rfl, hg5, _, _⟩ := ownsS_some hown5 (by omega)
      have hB5 : B ≤ w5.heap.size := by have := hGW5.size; omega
      have HO5 := Lib.hid hown5
      have HG5 := Lib.hid hGW5
      have HA5 := Lib.hid ha5
      clear hown5 hgrow5 hat5 hG5 hW2 hGW5 n0 n1 n2 n3 n4 n5 hl1
      go_wp2_with (at_builtin; refine wpListS_append_own rfl _ _ 37 rfl B 3 iI (.int .i64 0) 1 8 Tryz.underlying37 hii hiz0 hiz1 hiz2 rfl (by decide) _ N0 (dl L0) rfl (World.ownsRow.alloc ha5 _) ⟨w5.heap.size, 0, none⟩ 1 1 [.int .i64 (d : Int)] rfl rfl (newR_one _ _ _) (fun u hu => by simp at hu; subst hu; rfl) (by unfold maxLen; omega) (by omega) (by simp; omega) ?_)
      intro v7 w7 hown7 hgrow7 hat7
      have hG7 : Gr (w5.alloc (.cells #[.int .i64 (d : Int)] 3)) w7 (.slice (some ⟨g5, 0, none⟩) (N0 + 1) c5) (.slice aa N0 ac) (.slice (some ⟨g5, 0, none⟩) (N0 + 1) c5) v7 := Gr.ofA hgrow7 (by rw [World.size_alloc]; exact hat7)
      have hGW7 : Gr W w7 (.slice la N0 lc) (.slice aa N0 ac) (.slice (some ⟨g5, 0, none⟩) (N0 + 1) c5) v7 := HG5.out.trans ((Gr.alloc w5 _ _ _).trans hG7)
      have hl7 : w7.ownsRow B 27 6 (.slice (some ⟨g5, 0, none⟩) (N0 + 1) c5) (N0 + 1) (nl L0 ++ Nv.c ⟨xk, xa, xs, xn, .slice ma mn mc, .slice ka n kc⟩) := by
        have h1 := World.ownsRow.alloc HO5.out (.cells #[.int .i64 (d : Int)] 3)
        have h2 := World.ownsRow.alloc HA5.out (.cells #[.int .i64 (d : Int)] 3)
        refine owns_keep h1 (fun q hq => hgrow7.block q (owns_type h1 hq).2.1 (fun e => ?_))
        obtain ⟨_, _, c1, hc1⟩ := owns_type h1 hq
        obtain ⟨_, _, c2, hc2⟩ := owns_type h2 e.symm
        rw [hc1] at hc2
        simp at hc2
      have hF7 : Fw w7 B (.slice (some ⟨g5, 0, none⟩) (N0 + 1) c5) v7 (L0 ++ [(d, ⟨xk, xa, xs, xn, .slice ma mn mc, .slice ka n kc⟩)]) := by
        have e1 : (L0 ++ [(d, (⟨xk, xa, xs, xn, .slice ma mn mc, .slice ka n kc⟩ : Nv))]).length = N0 + 1 := by rw [List.length_append, hN0]; rfl
        exact ⟨by rw [e1, nl_one]; exact hl7, by rw [e1, dl_one]; exact hown7⟩
      obtain ⟨g7, c7, rfl, hg7, _, _⟩ := ownsS_some hown7 (by omega)
      have HF7 := Lib.hid hF7
      have HG7 := Lib.hid hGW7
      clear hown7 hgrow7 hat7 hG7 hGW7 hl7 hF7 ha5
      have HL0 : Hid ((Value.slice la N0 lc).ownBlock ≠ some w.heap.size ∧ (Value.slice aa N0 ac).ownBlock ≠ some w.heap.size ∧ ∀ q, q < B → (Value.slice la N0 lc).ownBlock ≠ some q ∧ (Value.slice aa N0 ac).ownBlock ≠ some q) := by
        have h1 := HW0.out.l
        have h2 := HW0.out.a
        rw [hN0] at h1 h2
        exact ⟨fun e => by have := (owns_type h1 e).2.1; omega, fun e => by have := (owns_type h2 e).2.1; omega, fun q hq => ⟨fun e => by have := (owns_type h1 e).1; omega, fun e => by have := (owns_type h2 e).1; omega⟩⟩
      have HIN : Hid (n ≤ 1000) := by have := cat_ge Ls n (fun i hi => (HFl.out i hi).pos); show n ≤ 1000; omega
      go_wp2_with fail
      go_loopg [2, 3, 10] n (fun gk v2 v3 v10 wr => ∃ i : Nat, i + gk = n ∧ v10 = .int .i64 (i : Int) ∧ Fw wr B v2 v3 (L0 ++ (d, ⟨xk, xa, xs, xn, .slice ma mn mc, .slice ka n kc⟩) :: cat i Ls) ∧ Gr W wr (.slice la N0 lc) (.slice aa N0 ac) v2 v3)
      case atStart => exact ⟨0, by omega, rfl, HF7.out, HG7.out⟩
      case round =>
        obtain ⟨i, hi, rfl, hfw, hgr⟩ := hrel
        have hsz := HSW.out
        have hN := HN.out.same (hgr.blk w.heap.size (by omega) HL0.out.1 HL0.out.2.1)
        obtain ⟨n0, n1, n2, n3, n4, n5⟩ := hN.cells
        obtain ⟨M, hM⟩ : ∃ M, (L0 ++ (d, (⟨xk, xa, xs, xn, .slice ma mn mc, .slice ka n kc⟩ : Nv)) :: cat i Ls).length = M := ⟨_, rfl⟩
        have hl2 := hfw.l
        have ha2 := hfw.a
        rw [hM] at hl2 ha2
        obtain ⟨la2, lc2, rfl⟩ := ownsS_shape hl2
        obtain ⟨aa2, ac2, rfl⟩ := ownsS_shape ha2
        clear hl2 ha2
        by_cases hin : i < n
        · have k3 : (i : Int) < (n : Int) := by omega
          obtain ⟨e1, hokb⟩ := H3.out (by omega)
          subst e1
          have hkeep : ∀ q, q < B → wr.heap[q]? = w.heap[q]? := fun q hq => by
            have h1 := hgr.blk q (by omega) (HL0.out.2.2 q hq).1 (HL0.out.2.2 q hq).2
            have h2 := HG1.out.blk q (by omega) (HL0.out.2.2 q hq).1 (HL0.out.2.2 q hq).2
            exact h1.trans h2
          have hA := (HAt.out i hin).same (hkeep b (hok b hokb))
          have hFi := Fl.same (fun q hq => hkeep q (hok q hq)) (HFl.out i hin)
          have hc1 := cat_le Ls hin
          have hML : M = N0 + 1 + (cat i Ls).length := by rw [← hM, List.length_append, hN0, List.length_cons]; omega
          have C := HIH.out i (ys i) (d + 1) (Ls i) _ _ _ wr hFi (by have := hgr.size; omega) hfw (by rw [hM]; omega) (by omega)
          obtain ⟨⟨sa, sn, sc, hsm⟩, ⟨ta, tn, tc, htk⟩⟩ := hFi.shape
          obtain ⟨y, hy⟩ : ∃ y, ys i = y := ⟨_, rfl⟩
          rw [hy] at hA C hsm htk
          obtain ⟨yk, ya, ysx, yn, ym, yv⟩ := y
          simp only at hsm htk
          subst hsm
          subst htk
          simp only [Nv.v] at C
          obtain ⟨y0, y1, y2, y3, y4, y5⟩ := hA
          simp only at y0 y1 y2 y3 y4 y5
          have e2 : IntKind.i64.wrap ((d : Int) + 1) = ((d + 1 : Nat) : Int) := by rw [i64_small (by omega) (by omega)]; omega
          have e3 : IntKind.i64.wrap ((i : Int) + 1) = ((i + 1 : Nat) : Int) := by have := HIN.out; rw [i64_small (by omega) (by omega)]; omega
          have k0 : (0 : Int) ≤ (i : Int) := by omega
          have HGR := Lib.hid hgr
          have hcat : (L0 ++ (d, (⟨xk, xa, xs, xn, .slice ma mn mc, .slice (some ⟨b, off, none⟩) n kc⟩ : Nv)) :: cat i Ls) ++ Ls i = L0 ++ (d, (⟨xk, xa, xs, xn, .slice ma mn mc, .slice (some ⟨b, off, none⟩) n kc⟩ : Nv)) :: cat (i + 1) Ls := by simp [cat]
          have HCAT := Lib.hid hcat
          clear hgr hfw hkeep hFi hN hcat hM hc1 hML hL hd hBW hB hB5 hsz hok hg5 hg7 hWW hN0 n0 n1 n2 n3 n4
          go_wp2_with fail
          refine C.mono ?_
          rintro e w3 ⟨lv3, av3, rfl, hf3, hg3⟩
          obtain ⟨M3, hM3⟩ : ∃ M, ((L0 ++ (d, (⟨xk, xa, xs, xn, .slice ma mn mc, .slice (some ⟨b, off, none⟩) n kc⟩ : Nv)) :: cat i Ls) ++ Ls i).length = M := ⟨_, rfl⟩
          have hl3 := hf3.l
          have ha3 := hf3.a
          rw [hM3] at hl3 ha3
          obtain ⟨la3, lc3, rfl⟩ := ownsS_shape hl3
          obtain ⟨aa3, ac3, rfl⟩ := ownsS_shape ha3
          rw [HCAT.out] at hf3
          have HF3 := Lib.hid hf3
          have HG3 := Lib.hid hg3
          clear C hf3 hg3 hl3 ha3 hM3
          go_wp2_with fail
          go_roundg (gk - 1)
          case measure => omega
          case rel => exact ⟨i + 1, by omega, rfl, HF3.out, HGR.out.trans HG3.out⟩
        · have k3 : ¬ (i : Int) < (n : Int) := by omega
          have hin' : i = n := by omega
          have HFW := Lib.hid hfw
          have HGR := Lib.hid hgr
          clear hfw hgr
          go_wp2_with fail
          go_ret2
          refine ⟨_, _, rfl, ?_, HG1.out.trans HGR.out⟩
          have := HFW.out
          rwa [hin'] at this
end Nd
end Go.Proofs.YtfcgogpnbmikmaaGreatDoor
