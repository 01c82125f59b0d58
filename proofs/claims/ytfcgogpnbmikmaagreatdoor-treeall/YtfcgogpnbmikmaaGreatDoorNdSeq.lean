/-
  visit, nodes: going through a tree, a node ahead of its kids.
-/
import Derived.Test.YtfcgogpnbmikmaaGreatDoorNdSame
import Derived.Test.YtfcgogpnbmikmaaGreatDoorNdRg
import Derived.OwnWalkIn
import Derived.TacticsInMore
import Derived.LoopNIn
import Derived.LoopIn
namespace Go.Proofs.YtfcgogpnbmikmaaGreatDoor
open Go.RowKit Go.WideShapes
namespace Nd
open Lx
attribute [local go_sem] Oper.semAt_some

def cat {α : Type} : Nat → (Nat → List α) → List α
  | 0, _ => []
  | n + 1, Ls => cat n Ls ++ Ls n
/-- The nodes of a tree in their order, each with how many it stands within. -/
inductive Fl (w : World) (ok : Nat → Prop) : Tr → Nv → Nat → List (Nat × Nv) → Prop
  | mk {k a : Int} {s : ByteArray} {neg : Bool} {mg : List Nat} {n : Nat} {kid : Nat → Tr} {x : Nv} {d : Nat} {ka : Option Addr} {kc b off : Nat} {ys : Nat → Nv} {Ls : Nat → List (Nat × Nv)} :
      x.kv = .slice ka n kc → (∃ a n c, x.mv = .slice a n c) → (0 < n → ka = some ⟨b, off, none⟩ ∧ ok b) → (∀ i, i < n → At w b (off + i * 6) (ys i)) → (∀ i, i < n → Fl w ok (kid i) (ys i) (d + 1) (Ls i)) → Fl w ok (.mk k a s neg mg n kid) x d ((d, x) :: cat n Ls)
theorem Fl.pos {w : World} {ok : Nat → Prop} {t : Tr} {x : Nv} {d : Nat} {L : List (Nat × Nv)} (h : Fl w ok t x d L) : 1 ≤ L.length := by
  cases h with
  | mk _ _ _ _ _ => simp
theorem Fl.shape {w : World} {ok : Nat → Prop} {t : Tr} {x : Nv} {d : Nat} {L : List (Nat × Nv)} (h : Fl w ok t x d L) : (∃ a n c, x.mv = .slice a n c) ∧ (∃ a n c, x.kv = .slice a n c) := by
  cases h with
  | mk h1 h2 _ _ _ => exact ⟨h2, ⟨_, _, _, h1⟩⟩
theorem cat_ge {α : Type} (Ls : Nat → List α) : ∀ n, (∀ i, i < n → 1 ≤ (Ls i).length) → n ≤ (cat n Ls).length
  | 0, _ => Nat.zero_le _
  | n + 1, h => by
    have h1 := cat_ge Ls n (fun i hi => h i (by omega))
    have h2 := h n (by omega)
    simp only [cat, List.length_append]
    omega
theorem cat_le {α : Type} (Ls : Nat → List α) : ∀ {n i : Nat}, i < n → (cat i Ls).length + (Ls i).length ≤ (cat n Ls).length
  | 0, i, h => by omega
  | n + 1, i, h => by
    simp only [cat, List.length_append]
    rcases Nat.lt_or_ge i n with z | z
    · have := cat_le Ls (n := n) (i := i) z
      omega
    · rw [show i = n by omega]
      exact Nat.le_refl _
theorem cat_get {α : Type} (Ls : Nat → List α) : ∀ {n i j : Nat}, i < n → j < (Ls i).length → (cat n Ls)[(cat i Ls).length + j]? = (Ls i)[j]?
  | 0, i, j, h, _ => by omega
  | n + 1, i, j, h, hj => by
    simp only [cat]
    rcases Nat.lt_or_ge i n with z | z
    · have := cat_le Ls (n := n) (i := i) z
      rw [List.getElem?_append_left (by omega)]
      exact cat_get Ls z hj
    · rw [show i = n by omega] at hj ⊢
      rw [List.getElem?_append_right (by omega)]
      congr 1
      omega
theorem Rd.fl {w : World} {ok : Nat → Prop} : ∀ (t : Tr) (x : Nv) (d : Nat), Rd w ok t x → ∃ L, Fl w ok t x d L := by
  intro t
  induction t with
  | no => exact fun _ _ h => h.elim
  | mk k a s neg mg n kid ih =>
    rintro x d ⟨h1, h2, h3, h4, ⟨ma, mc, h5, _⟩, ka, kc, h6, h7, b, off, h8, ys, h9⟩
    have hL : ∀ i, ∃ L, i < n → Fl w ok (kid i) (ys i) (d + 1) L := fun i => by
      by_cases hi : i < n
      · obtain ⟨L, h⟩ := ih i (ys i) (d + 1) (h9 i hi).2
        exact ⟨L, fun _ => h⟩
      · exact ⟨[], fun h => absurd h hi⟩
    refine ⟨_, Fl.mk (Ls := fun i => Classical.choose (hL i)) h6 ⟨_, _, _, h5⟩ h8 (fun i hi => (h9 i hi).1) (fun i hi => Classical.choose_spec (hL i) hi)⟩
def enc (p : Nat × Nv) : Array Value := #[.int .i64 (p.1 : Int), p.2.v]
set_option maxRecDepth 100000 in
set_option maxHeartbeats 8000000 in
theorem visit_in {w : World} {ok : Nat → Prop} (l : Nat) (A : Nat → Nat × Nv) (N B : Nat) (J Jx : Nat → World → Prop) (_ : w.heap.size ≤ B) (hok : ∀ b, ok b → b < w.heap.size) (hJ : St B J) (hK : ∀ i W, J i W → ∀ b, ok b → W.heap[b]? = w.heap[b]?)
    (hY : ∀ i W1, i < N → J i W1 → YieldAt Fence.wide 0 Tryz.prog l (enc (A i)) W1 fun e W' => (e = .returned (.bool true) ∧ J (i + 1) W' ∧ Since B W1 W') ∨ (e = .returned (.bool false) ∧ Jx i W')) :
    ∀ (t : Tr) (x : Nv) (d : Nat) (L : List (Nat × Nv)) (i : Nat) (W : World), Fl w ok t x d L → (∀ j, j < L.length → L[j]? = some (A (i + j))) → i + L.length ≤ N → d + L.length ≤ 200000 → B ≤ W.heap.size → J i W →
      CallsIn Fence.wide 0 Tryz.prog 38 #[x.v, .int .i64 (d : Int), .func (.yield l) #[] #[]] W fun e W' => (e = .returned (.bool true) ∧ J (i + L.length) W' ∧ Since B W W') ∨ (e = .returned (.bool false) ∧ ∃ j, j < N ∧ Jx j W') := by
  intro t
  induction t with
  | no => exact fun _ _ _ _ _ h => nomatch h
  | mk k a s neg mg n kid ih =>
    intro x d L i W hF hA hN hd hBW hJi
    cases hF with
    | mk f1 f2 f3 f4 f5 =>
      rename_i ka kc b off ys Ls
      obtain ⟨ma, mn, mc, f2⟩ := f2
      obtain ⟨xk, xa, xs, xn, xm, xkv⟩ := x
      simp only at f1 f2
      subst f1
      subst f2
      simp only [List.length_cons] at hN hd hA
      have hn : n ≤ (cat n Ls).length := cat_ge Ls n (fun i hi => (f5 i hi).pos)
      have hA0 : A i = (d, ⟨xk, xa, xs, xn, .slice ma mn mc, .slice ka n kc⟩) := by
        have := hA 0 (by omega)
        rw [Nat.add_zero] at this
        injection this with this
        exact this.symm
      simp only [Nv.v]
      have HIH := Lib.hid ih
      have F3 := Lib.hid f3
      have F4 := Lib.hid f4
      have F5 := Lib.hid f5
      have HA := Lib.hid hA
      have HN := Lib.hid hN
      have HD := Lib.hid hd
      have HY := Lib.hid hY
      have HK := Lib.hid hK
      have HJ := Lib.hid hJ
      have HOK := Lib.hid hok
      obtain ⟨W0, hW0⟩ : ∃ W0, W.alloc (.cells #[.int .i64 xk, .int .i64 xa, .string xs, .bool xn, .slice ma mn mc, .slice ka n kc] 27) = W0 := ⟨_, rfl⟩
      have hb0 : Below W.heap.size W W0 := by rw [← hW0]; exact (Below.refl _ W).alloc (Nat.le_refl _) _
      have hJ0 : J i W0 := hJ i W W0 hJi (hb0.mono hBW)
      have hx0 : At W0 W.heap.size 0 ⟨xk, xa, xs, xn, .slice ma mn mc, .slice ka n kc⟩ := by rw [← hW0]; exact ⟨World.cell?_alloc_at _ _ _ _ rfl, World.cell?_alloc_at _ _ _ _ rfl, World.cell?_alloc_at _ _ _ _ rfl, World.cell?_alloc_at _ _ _ _ rfl, World.cell?_alloc_at _ _ _ _ rfl, World.cell?_alloc_at _ _ _ _ rfl⟩
      obtain ⟨fn, tmps, assign, body, hy, hR⟩ := hY i W0 (by omega) hJ0
      rw [hA0] at hy
      simp only [enc, Nv.v] at hy
      have HB0 := Lib.hid hb0
      have HX0 := Lib.hid hx0
      obtain ⟨p0, p1, p2, p3, p4, p5⟩ := hx0
      simp only [Nat.zero_add] at p1 p2 p3 p4 p5
      clear ih f3 f4 f5 hA hN hd hY hK hJ hok hb0 hJ0 hA0 hJi
      refine callsIn_of_wp Tryz.func38 rfl trivial ?_ rfl
      simp only [Tryz.ntmps38, List.size_toArray, List.length_cons, List.length_nil, Nat.reduceAdd, Nat.reduceSub, Array.replicate_succ, Array.replicate_zero, List.push_toArray, List.append_toArray, List.nil_append, List.cons_append]
      gi_wp2_with fail
      refine ⟨rfl, hR.mono ?_⟩
      clear hR hy p0 p1 p2 p3 p4 p5
      rintro e w5 (⟨rfl, hJ5, hS5⟩ | ⟨rfl, hX5⟩)
      · have hs0 : W.heap.size < W0.heap.size := HX0.out.lt
        have hx5 := HX0.out.same (hS5.same W.heap.size hBW hs0)
        have c5 := hx5.c5
        simp only [Nat.zero_add] at c5
        have HJ5 := Lib.hid hJ5
        have HS5 := Lib.hid hS5
        have HS0 := Lib.hid hs0
        clear hJ5 hS5 hs0 hx5
        gi_wp2_with fail
        gi_loopw [17] (fun iv wr => ∃ j : Nat, j ≤ n ∧ iv = .int .i64 (j : Int) ∧ J (i + 1 + (cat j Ls).length) wr ∧ Since B W0 wr) (fun iv _ => n - (intOf iv).toNat)
        case atStart => exact ⟨0, Nat.zero_le _, rfl, by simpa [cat] using HJ5.out, HS5.out⟩
        case round =>
          obtain ⟨j, hjn, rfl, hJj, hSj⟩ := hrel
          have HJJ := Lib.hid hJj
          have HSJ := Lib.hid hSj
          have k0 : (0 : Int) ≤ (j : Int) := by omega
          by_cases hlt : j < n
          · have k1 : (j : Int) < (n : Int) := by omega
            obtain ⟨rfl, hokb⟩ := F3.out (by omega)
            have hat := (F4.out j hlt).same (HK.out _ wr hJj b hokb)
            obtain ⟨⟨sa, sn, sc, hsv⟩, ⟨ta, tn, tc, htv⟩⟩ := (F5.out j hlt).shape
            have hL5 := F5.out j hlt
            have hcl := cat_le Ls hlt
            have e2 : IntKind.i64.wrap ((d : Int) + 1) = ((d + 1 : Nat) : Int) := by have := HD.out; rw [i64_small (by omega) (by omega)]; omega
            have e3 : IntKind.i64.wrap ((j : Int) + 1) = ((j + 1 : Nat) : Int) := by have := HD.out; rw [i64_small (by omega) (by omega)]; omega
            obtain ⟨y, hy⟩ : ∃ y, ys j = y := ⟨_, rfl⟩
            rw [hy] at hat hsv htv hL5
            obtain ⟨yk, ya, yx, yn, ym, yv⟩ := y
            simp only at hsv htv
            subst hsv
            subst htv
            obtain ⟨p0, p1, p2, p3, p4, p5⟩ := hat
            simp only at p0 p1 p2 p3 p4 p5
            obtain ⟨W2, hW2⟩ : ∃ W2, wr.alloc (.cells #[.int .i64 yk, .int .i64 ya, .string yx, .bool yn, .slice sa sn sc, .slice ta tn tc] 27) = W2 := ⟨_, rfl⟩
            have hb2 : Below wr.heap.size wr W2 := by rw [← hW2]; exact (Below.refl _ wr).alloc (Nat.le_refl _) _
            have hBr : B ≤ wr.heap.size := by have := hSj.size; have := HS0.out; omega
            have hJ2 := HJ.out _ wr W2 hJj (hb2.mono hBr)
            have hx2 : At W2 wr.heap.size 0 ⟨yk, ya, yx, yn, .slice sa sn sc, .slice ta tn tc⟩ := by rw [← hW2]; exact ⟨World.cell?_alloc_at _ _ _ _ rfl, World.cell?_alloc_at _ _ _ _ rfl, World.cell?_alloc_at _ _ _ _ rfl, World.cell?_alloc_at _ _ _ _ rfl, World.cell?_alloc_at _ _ _ _ rfl, World.cell?_alloc_at _ _ _ _ rfl⟩
            have C := HIH.out j ⟨yk, ya, yx, yn, .slice sa sn sc, .slice ta tn tc⟩ (d + 1) (Ls j) (i + 1 + (cat j Ls).length) W2 hL5 (fun q hq => by
              have h1 := HA.out (1 + (cat j Ls).length + q) (by omega)
              rw [show 1 + (cat j Ls).length + q = ((cat j Ls).length + q) + 1 by omega, List.getElem?_cons_succ, cat_get Ls hlt hq] at h1
              rw [h1]
              congr 2
              omega) (by have := HN.out; omega) (by have := HD.out; omega) (by have := hb2.size; omega) hJ2
            simp only [Nv.v] at C
            have HB2 := Lib.hid hb2
            have HX2 := Lib.hid hx2
            have HW2 := Lib.hid hW2
            have HCL := Lib.hid hcl
            clear hL5 hcl hb2 hJ2 hx2 hBr hy hJj hSj hW2
            gi_wp2_with fail
            rw [HW2.out]
            obtain ⟨x0, x1, x2, x3, x4, x5⟩ := HX2.out
            simp only [Nat.zero_add] at x1 x2 x3 x4 x5
            clear p0 p1 p2 p3 p4 p5
            rw [show ((d + 1 : Nat) : Int) = (d : Int) + 1 by omega] at C
            clear e2
            have e2 : IntKind.i64.wrap ((d : Int) + 1) = (d : Int) + 1 := by have := HD.out; exact i64_small (by omega) (by omega)
            gi_wp2_with fail
            refine ⟨trivial, rfl, C.mono ?_⟩
            clear C
            rintro e w6 (⟨rfl, hJ6, hS6⟩ | ⟨rfl, q, hq, hX6⟩)
            · have HJ6 := Lib.hid hJ6
              have HS6 := Lib.hid hS6
              clear hJ6 hS6 x0 x1 x2 x3 x4 x5
              gi_wp2_with fail
              go_roundw
              case rel =>
                refine ⟨j + 1, by omega, by first | go_num | (rw [e3]), ?_, (HSJ.out.trans (Since.below HB2.out)).trans HS6.out⟩
                have h := HJ6.out
                simp only [cat, List.length_append]
                rw [show i + 1 + ((cat j Ls).length + (Ls j).length) = i + 1 + (cat j Ls).length + (Ls j).length by omega]
                exact h
              case measure => simp [intOf]; omega
            · gi_wp2
              refine bodyPost_ret (v := .bool false) (by simp [results, Tryz.results38, go_sem]) rfl ?_
              exact Or.inr ⟨rfl, q, hq, hX6⟩
          · obtain rfl : n = j := by omega
            have k1 : ¬ (n : Int) < (n : Int) := by omega
            clear hJj hSj
            gi_wp2
            refine bodyPost_ret (v := .bool true) (by simp [results, Tryz.results38, go_sem]) rfl ?_
            refine Or.inl ⟨rfl, ?_, (Since.below HB0.out).trans HSJ.out⟩
            have h := HJJ.out
            show J (i + ((cat n Ls).length + 1)) wr
            rw [show i + ((cat n Ls).length + 1) = i + 1 + (cat n Ls).length by omega]
            exact h
      · gi_wp2
        refine bodyPost_ret (v := .bool false) (by simp [results, Tryz.results38, go_sem]) rfl ?_
        exact Or.inr ⟨rfl, i, by have := HN.out; omega, hX5⟩
set_option maxRecDepth 100000 in
/-- nodes: an iterator. -/
theorem nodes_any (x : Nv) (w : World) : Calls Tryz.prog 25 #[x.v] w fun e w' => e = .returned (.func (.func 37) #[] #[.pointer (some ⟨w.heap.size, 0, none⟩)]) ∧ w' = w.alloc (.cells #[.int .i64 x.k, .int .i64 x.a, .string x.s, .bool x.neg, x.mv, x.kv] 27) := by
  simp only [Nv.v]
  go_enter Tryz.func25, Tryz.ntmps25
  go_wp2_with fail
  go_ret
  exact ⟨rfl, rfl⟩
set_option maxRecDepth 100000 in
set_option maxHeartbeats 2000000 in
theorem nodes_seq {w : World} {ok : Nat → Prop} {t : Tr} {x : Nv} {L : List (Nat × Nv)} (p : Nat) (A : Nat → Nat × Nv) (hF : Fl w ok t x 0 L) (hok : ∀ b, ok b → b < w.heap.size) (hL : L.length ≤ 200000) (hA : ∀ j, j < L.length → L[j]? = some (A j)) (hp : At w p 0 x) :
    SeqAt Tryz.prog 37 (fun l => #[.func (.yield l) #[] #[], .pointer (some ⟨p, 0, none⟩)]) (fun i => enc (A i)) L.length (fun V => At V p 0 x ∧ ∀ b, ok b → V.heap[b]? = w.heap[b]?) w := by
  intro l J Jx W hB HJ0 HJX0 HK0 hY0 J0
  have C := visit_in l A L.length W.heap.size J Jx hB.size hok HJ0 (fun i W h => (HK0 i W h).2) hY0 t x 0 L 0 W hF (fun j hj => by rw [Nat.zero_add]; exact hA j hj) (by omega) (by omega) (Nat.le_refl _) J0
  obtain ⟨⟨ma, mn, mc, hm⟩, ⟨ka, kn, kc, hk⟩⟩ := hF.shape
  obtain ⟨xk, xa, xs, xn, xm, xkv⟩ := x
  simp only at hm hk
  subst hm
  subst hk
  obtain ⟨p0, p1, p2, p3, p4, p5⟩ := (HK0 0 W J0).1
  simp only [Nat.zero_add] at p1 p2 p3 p4 p5
  simp only [Nv.v] at C
  clear HJ0 HJX0 HK0 hY0 J0 hF hA hp
  refine callsIn_of_wp Tryz.func37 rfl trivial ?_ rfl
  simp only [Tryz.ntmps37, List.size_toArray, List.length_cons, List.length_nil, Nat.reduceAdd, Nat.reduceSub, Array.replicate_succ, Array.replicate_zero, List.push_toArray, List.append_toArray, List.nil_append, List.cons_append]
  gi_wp2_with fail
  refine ⟨trivial, rfl, C.mono ?_⟩
  clear C
  rintro e w6 (⟨rfl, hJ6, hS6⟩ | ⟨rfl, q, hq, hX6⟩)
  · rw [Nat.zero_add] at hJ6
    gi_wp2
    go_end0
    exact ⟨⟨_, rfl⟩, .inl hJ6⟩
  · gi_wp2
    go_end0
    exact ⟨⟨_, rfl⟩, .inr ⟨q, hq, hX6⟩⟩
end Nd
end Go.Proofs.YtfcgogpnbmikmaaGreatDoor
