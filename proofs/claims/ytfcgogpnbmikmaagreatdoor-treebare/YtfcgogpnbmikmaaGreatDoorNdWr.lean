/-
  The writer of a tree's text: what its Builder does where it lies within the writer.
-/
import Derived.Test.YtfcgogpnbmikmaaGreatDoorNdAw3
import Derived.Shelf.Strings.BuilderK
namespace Go.Proofs.YtfcgogpnbmikmaaGreatDoor
open Go.RowKit Go.WideShapes
namespace Nd
open Lx

theorem Tryz.infoB : (Tryz.prog.info? 5).map (fun i => (i.zero, i.size, i.bytes)) = some (some (.int .u8 0), 1, 1) := by kernel_rfl
/-- A writer at block g, which holds the text t and has k blanks ahead of a line; all that it writes lies behind B. -/
structure Wr (w : World) (B g : Nat) (k : Int) (t : List UInt8) (p v : Value) : Prop where
  b : B ≤ g
  h : w.heap[g]? = some (.cells #[p, v, .int .i64 k] 54)
  p : p = .pointer none ∨ p = .pointer (some ⟨g, 0, none⟩)
  o : w.ownsRow B 5 1 v t.length (Lib.byteCells t)
  a : v.ownBlock ≠ some g
theorem Wr.c0 {w : World} {B g : Nat} {k : Int} {t : List UInt8} {p v : Value} (h : Wr w B g k t p v) : w.cell? ⟨g, 0, none⟩ = some p := by simp [World.cell?, h.h]
theorem Wr.c1 {w : World} {B g : Nat} {k : Int} {t : List UInt8} {p v : Value} (h : Wr w B g k t p v) : w.cell? ⟨g, 1, none⟩ = some v := by simp [World.cell?, h.h]
theorem Wr.c2 {w : World} {B g : Nat} {k : Int} {t : List UInt8} {p v : Value} (h : Wr w B g k t p v) : w.cell? ⟨g, 2, none⟩ = some (.int .i64 k) := by simp [World.cell?, h.h]
theorem Wr.z {w : World} {B g : Nat} {k : Int} {t : List UInt8} {p v : Value} (h : Wr w B g k t p v) (j : Nat) : w.frozen? ⟨g, j, none⟩ = false := by simp [World.frozen?, h.h]
theorem Wr.setp {w : World} {B g : Nat} {k : Int} {t : List UInt8} {p v : Value} (h : Wr w B g k t p v) : Wr (w.setCell ⟨g, 0, none⟩ (.pointer (some ⟨g, 0, none⟩))) B g k t (.pointer (some ⟨g, 0, none⟩)) v := by
  refine ⟨h.b, ?_, Or.inr rfl, ?_, h.a⟩
  · simp [World.setCell, Array.getElem?_modify, h.h]
  · obtain ⟨h1, h2⟩ := h.o
    refine ⟨h1, ?_⟩
    rcases h2 with h2 | ⟨q, c, cur, e, h3, h4, h5⟩
    · exact Or.inl h2
    · refine Or.inr ⟨q, c, cur, e, h3, ?_, h5⟩
      have hne : g ≠ q := fun hh => h.a (by rw [e, hh]; rfl)
      simp [World.setCell, Array.getElem?_modify, hne, h4]
theorem bld_convert (w : World) (g : Nat) {p : Value} (c0 : w.cell? ⟨g, 0, none⟩ = some p) : (Go.convert 49 109 (.pointer (some ⟨g, 0, none⟩))).run Tryz.prog w = .ok (.pointer (some ⟨g, 0, none⟩)) w :=
  run_convert_to_unsafe Tryz.underlying49 Tryz.underlying109 (by kernel_rfl) c0
theorem bld_back (w : World) (g : Nat) (c0 : w.shape? g = some (54, 3)) : (Go.convert 109 49 (.pointer (some ⟨g, 0, none⟩))).run Tryz.prog w = .ok (.pointer (some ⟨g, 0, none⟩)) w := by
  obtain ⟨j, hj⟩ : ∃ j, Tryz.prog.info? 52 = some j := Option.isSome_iff_exists.1 (by kernel_rfl)
  exact Lib.run_from_unsafe w ⟨g, 0, none⟩ Tryz.underlying109 Tryz.underlying49 hj c0 (by kernel_rfl)
theorem bld_esc (w : World) (v : Value) : (callFunc 155 #[v]).run Tryz.prog w = .ok (.value v) w := by
  rw [run_callFunc_extern Tryz.func155 (by kernel_rfl) (by kernel_rfl) (by kernel_rfl) (e := Extern.AbiNoEscape.same) (by kernel_rfl), Lib.run_noEscape]
  rfl
theorem bld_same (w : World) (g : Nat) : (binOp BinOp.neq 49 (.pointer (some ⟨g, 0, none⟩)) (.pointer (some ⟨g, 0, none⟩))).run Tryz.prog w = .ok (.bool false) w := by
  obtain ⟨j, hj⟩ : ∃ j, Tryz.prog.info? 52 = some j := Option.isSome_iff_exists.1 (by kernel_rfl)
  exact Lib.run_neq_ptr_same w _ Tryz.underlying49 hj
/-- All blocks but the writer's and rows of bytes as they were. -/
def Kp (g : Nat) (w w' : World) : Prop := ∀ q, q < w.heap.size → q ≠ g → (∀ c z, w.heap[q]? ≠ some (.cells c 5 z)) → w'.heap[q]? = w.heap[q]?
theorem Kp.refl (g : Nat) (w : World) : Kp g w w := fun _ _ _ _ => rfl
theorem Kp.trans {g : Nat} {w w1 w2 : World} (h : Kp g w w1) (hs : w.heap.size ≤ w1.heap.size) (h' : Kp g w1 w2) : Kp g w w2 := fun q hq hn ht => by
  have e := h q hq hn ht
  rw [h' q (by omega) hn (fun c z => by rw [e]; exact ht c z), e]
set_option maxRecDepth 100000 in
theorem check_wr {w : World} {B g : Nat} {k : Int} {t : List UInt8} {p v : Value} (h : Wr w B g k t p v) :
    Calls Tryz.prog 138 #[.pointer (some ⟨g, 0, none⟩)] w fun e w' => e = .returned (.tuple #[]) ∧ Wr w' B g k t (.pointer (some ⟨g, 0, none⟩)) v ∧ Below B w w' ∧ Kp g w w' := by
  have c0 := h.c0
  have z0 := h.z 0
  have e1 := bld_convert w g c0
  have e2 := bld_back w g (by simp [World.shape?, h.h])
  have e3 := fun (w : World) (v : Value) => bld_esc w v
  have e4 := fun (w : World) => bld_same w g
  rcases h.p with hp | hp
  · rw [hp] at c0
    have hs := h.setp.c0
    have H := Lib.hid h
    clear h
    go_enter Tryz.func138, Tryz.ntmps138
    go_wp2_with fail
    go_end0
    exact ⟨rfl, H.out.setp, (Below.refl _ w).setCell (p := ⟨g, 0, none⟩) H.out.b _, fun q _ hn _ => by simp [World.setCell, Array.getElem?_modify, Ne.symm hn]⟩
  · rw [hp] at c0
    have H := Lib.hid h
    clear h
    go_enter Tryz.func138, Tryz.ntmps138
    go_wp2_with fail
    go_end0
    subst hp
    exact ⟨rfl, H.out, Below.refl _ w, Kp.refl _ w⟩
theorem Wr.wrote {w w' : World} {B g : Nat} {k : Int} {t : List UInt8} {p v v' : Value} (h : Wr w B g k t p v) (s : ByteArray) (ho : w'.ownsRow B 5 1 v' (t.length + s.size) (Lib.byteCells t ++ Lib.strCells s)) (hg : w.grownBy w' v.ownBlock) :
    w'.heap[g]? = w.heap[g]? ∧ Wr (w'.setCell ⟨g, 1, none⟩ v') B g k (t ++ s.data.toList) p v' ∧ Below B w (w'.setCell ⟨g, 1, none⟩ v') ∧ Kp g w (w'.setCell ⟨g, 1, none⟩ v') := by
  have hlt : g < w.heap.size := (Array.getElem?_eq_some_iff.1 h.h).1
  have hb : w'.heap[g]? = w.heap[g]? := hg.block g hlt (fun e => h.a e.symm)
  have hbw := hb.trans h.h
  have hoB : ∀ q, v.ownBlock = some q → B ≤ q ∧ ∃ c, w.heap[q]? = some (.cells c 5) := by
    intro q hq
    obtain ⟨_, h2 | ⟨q', c, cur, e, h3, h4, _⟩⟩ := h.o
    · rw [h2.1] at hq; cases hq
    · rw [e] at hq
      injection hq with hq
      subst hq
      exact ⟨h3, _, h4⟩
  have hset : ∀ q, q ≠ g → (w'.setCell ⟨g, 1, none⟩ v').heap[q]? = w'.heap[q]? := fun q hq => by simp [World.setCell, Array.getElem?_modify, Ne.symm hq]
  have hl : (t ++ s.data.toList).length = t.length + s.size := by rw [List.length_append, Array.length_toList]; rfl
  have hcs : Lib.byteCells (t ++ s.data.toList) = Lib.byteCells t ++ Lib.strCells s := by simp [Lib.byteCells, Lib.strCells]
  refine ⟨hb, ⟨h.b, by simp [World.setCell, Array.getElem?_modify, hbw], h.p, ?_, ?_⟩, ⟨hg.os, hg.tape, hg.output, by simp [World.setCell]; exact hg.size, fun q hq => ?_⟩, fun q hq hn ht => ?_⟩
  · rw [hl, hcs]
    obtain ⟨h1, h2⟩ := ho
    refine ⟨h1, ?_⟩
    rcases h2 with h2 | ⟨q, c, cur, e, h3, h4, h5⟩
    · exact Or.inl h2
    · refine Or.inr ⟨q, c, cur, e, h3, ?_, h5⟩
      rw [hset q (fun hh => by rw [hh, hbw] at h4; simp at h4)]
      exact h4
  · obtain ⟨_, h2 | ⟨q, c, cur, e, h3, h4, _⟩⟩ := ho
    · rw [h2.1]; simp [Value.ownBlock]
    · rw [e]
      intro hh
      injection hh with hh
      simp only at hh
      rw [hh, hbw] at h4
      simp at h4
  · rw [hset q (by have := h.b; omega)]
    exact hg.block q (by have := h.b; omega) (fun e => by have := (hoB q e.symm).1; omega)
  · rw [hset q hn]
    exact hg.block q hq (fun e => by obtain ⟨_, c, hc⟩ := hoB q e.symm; exact ht _ _ hc)
theorem wpList_append_run2 {P : Program} {ops : Array Oper} {rest : List Oper} {o : Oper} {a : Act} {w : World} {Q : Exit → Act → World → Prop} (hgd : o.guard = none) (s x : Operand) (t u0 : TypeId)
    (ho : o.op = .call { callee := .builtin .append, args := #[s, x], argTypes := #[t, u0] }) (v u v' : Value) (w' : World) (hs : a.eval s = v) (hx : a.eval x = u) (hr : (Builtin.append_ #[t, u0] o.type #[v, u]).run P w = .ok v' w')
    (h : wpList P ops Q rest (a.put o.dst v') w') : wpList P ops Q (o :: rest) a w := by
  refine wpList_plain hgd fun K hK => ?_
  unfold Oper.wp execOp
  simp only [ho, resolve, invoke, builtin, Sem.run_bind, Sem.run_pure, Result.andThen_ok, List.map_toArray, List.map_cons, List.map_nil, hs, hx, hr]
  exact hK _ _ h
set_option maxRecDepth 100000 in
theorem write_wr {w : World} {B g : Nat} {k : Int} {t : List UInt8} {p v : Value} (h : Wr w B g k t p v) (s : ByteArray) (hn : t.length + s.size ≤ 140737488355328) (hB : B ≤ w.heap.size) :
    Calls Tryz.prog 106 #[.pointer (some ⟨g, 0, none⟩), .string s] w fun e w' => e = .returned (.tuple #[.int .i64 s.size, .nilIface]) ∧ (∃ p' v', Wr w' B g k (t ++ s.data.toList) p' v') ∧ Below B w w' ∧ Kp g w w' := by
  have C := check_wr h
  have HB := Lib.hid hB
  have HN := Lib.hid hn
  clear hB hn
  go_enter Tryz.func106, Tryz.ntmps106
  go_wp2_with fail
  refine C.mono ?_
  rintro e w2 ⟨rfl, h2, hb2, hk2⟩
  obtain ⟨i0, hi, hz0, hz1, hz2⟩ := info_parts Tryz.infoB
  obtain ⟨v', w3, hr, ho, hg, _⟩ := Lib.run_append_own_string (P := Tryz.prog) w2 B 50 9 50 5 i0 Tryz.underlying50 Tryz.underlying9 hi hz0 hz1 hz2 v t.length (Lib.byteCells t) h2.o s (by have := HN.out; unfold maxLen; omega) HN.out (by have := HB.out; have := hb2.size; omega)
  obtain ⟨a', c', rfl⟩ := ownsS_shape ho
  obtain ⟨hb3, hW, hBl, hKp⟩ := h2.wrote s ho hg
  have c1 := h2.c1
  have d1 : w3.cell? ⟨g, 1, none⟩ = some v := (World.cell?_of_block (a := ⟨g, 1, none⟩) hb3).trans c1
  have z1 : w3.frozen? ⟨g, 1, none⟩ = false := (World.frozen?_of_block (a := ⟨g, 1, none⟩) hb3).trans (h2.z 1)
  have HR := Lib.hid hr
  have HW := Lib.hid hW
  have HBl := Lib.hid hBl
  have HKp := Lib.hid hKp
  have HB2 := Lib.hid hb2
  have HK2 := Lib.hid hk2
  clear C h h2 hr ho hg hb3 hW hBl hKp hb2 hk2
  go_wp2_with (at_builtin; refine wpList_append_run2 rfl _ _ 50 9 rfl _ _ (.slice a' (t.length + s.size) c') w3 rfl rfl HR.out ?_)
  go_ret2
  exact ⟨rfl, ⟨_, _, HW.out⟩, HB2.out.trans HBl.out, HK2.out.trans HB2.out.size HKp.out⟩
def catL (ss : List ByteArray) : List UInt8 := (ss.map (·.data.toList)).flatten
theorem catL_append (a b : List ByteArray) : catL (a ++ b) = catL a ++ catL b := by simp [catL]
/-- A row of texts. -/
structure Tx (w : World) (b : Nat) (ss : List ByteArray) : Prop where
  h : ∃ c z, w.heap[b]? = some (.cells c 9 z)
  c : ∀ i s, ss[i]? = some s → w.cell? ⟨b, i, none⟩ = some (.string s)
theorem Tx.kp {w w' : World} {g b : Nat} {ss : List ByteArray} (h : Tx w b ss) (hb : b ≠ g) (hk : Kp g w w') : Tx w' b ss := by
  obtain ⟨⟨c, z, hc⟩, h2⟩ := h
  have e := hk b (Array.getElem?_eq_some_iff.1 hc).1 hb (fun c' z' => by rw [hc]; simp)
  exact ⟨⟨c, z, e.trans hc⟩, fun i s hs => (World.cell?_of_block (a := ⟨b, i, none⟩) e).trans (h2 i s hs)⟩
set_option maxRecDepth 100000 in
theorem put_wr {w : World} {B g b : Nat} {k : Int} {t : List UInt8} {p v : Value} (h : Wr w B g k t p v) (ss : List ByteArray) (hT : Tx w b ss) (hbg : b ≠ g) (hn : t.length + (catL ss).length ≤ 140737488355328) (hm : ss.length ≤ 1000) (hB : B ≤ w.heap.size) :
    Calls Tryz.prog 72 #[.pointer (some ⟨g, 0, none⟩), .slice (some ⟨b, 0, none⟩) ss.length ss.length] w fun e w' => e = .returned (.tuple #[]) ∧ (∃ p' v', Wr w' B g k (t ++ catL ss) p' v') ∧ Below B w w' ∧ Kp g w w' := by
  obtain ⟨n, hnn⟩ : ∃ n, ss.length = n := ⟨_, rfl⟩
  rw [hnn]
  rw [hnn] at hm
  have HN := Lib.hid hn
  have HB := Lib.hid hB
  have HT := Lib.hid hT
  have HNN := Lib.hid hnn
  have H := Lib.hid h
  clear hn hB hT hnn h
  go_enter Tryz.func72, Tryz.ntmps72
  go_wp2_with fail
  go_loopg [8] n (fun gk v8 wr => ∃ i : Nat, i + gk = n ∧ v8 = .int .i64 (i : Int) ∧ (∃ p' v', Wr wr B g k (t ++ catL (ss.take i)) p' v') ∧ Below B w wr ∧ Kp g w wr)
  case atStart => exact ⟨0, by omega, rfl, ⟨_, _, by simpa [catL] using H.out⟩, Below.refl _ w, Kp.refl _ w⟩
  case round =>
    obtain ⟨i, hi, rfl, ⟨p', v', hw⟩, hb, hk⟩ := hrel
    by_cases hin : i < n
    · have k3 : (i : Int) < (n : Int) := by omega
      obtain ⟨s, hs⟩ : ∃ s, ss[i]? = some s := ⟨_, List.getElem?_eq_getElem (by rw [HNN.out]; exact hin)⟩
      have ht : ss.take (i + 1) = ss.take i ++ [s] := by rw [List.take_add_one, hs]; rfl
      have hc : catL (ss.take (i + 1)) = catL (ss.take i) ++ s.data.toList := by rw [ht]; simp [catL]
      have hle : (catL (ss.take (i + 1))).length ≤ (catL ss).length := by
        have : catL ss = catL (ss.take (i + 1)) ++ catL (ss.drop (i + 1)) := by rw [← catL_append, List.take_append_drop]
        rw [this, List.length_append]; omega
      have hcell := (HT.out.kp hbg hk).c i s hs
      have C := write_wr hw s (by have hsz : s.data.toList.length = s.data.size := Array.length_toList; rw [hc, List.length_append, hsz] at hle; have := HN.out; rw [List.length_append]; show _ + s.data.size ≤ _; omega) (by have := HB.out; have := hb.size; omega)
      have HBb := Lib.hid hb
      have HKk := Lib.hid hk
      have HC := Lib.hid hc
      clear hb hk hw hs ht hc hle
      go_wp2_with fail
      refine C.mono ?_
      rintro e w3 ⟨rfl, ⟨p3, v3, h3⟩, hb3, hk3⟩
      have H3 := Lib.hid h3
      have HB3 := Lib.hid hb3
      have HK3 := Lib.hid hk3
      clear C h3 hb3 hk3
      go_wp2_with fail
      go_roundg (gk - 1)
      case measure => omega
      case rel => exact ⟨i + 1, by omega, rfl, ⟨_, _, by rw [HC.out, ← List.append_assoc]; exact H3.out⟩, HBb.out.trans HB3.out, HKk.out.trans HBb.out.size HK3.out⟩
    · have k3 : ¬ (i : Int) < (n : Int) := by omega
      have hin' : i = n := by omega
      have HW := Lib.hid hw
      have HBb := Lib.hid hb
      have HKk := Lib.hid hk
      clear hw hb hk
      go_wp2_with fail
      go_end0
      refine ⟨rfl, ⟨p', v', ?_⟩, HBb.out, HKk.out⟩
      have := HW.out
      rwa [hin', ← HNN.out, List.take_length] at this
end Nd
end Go.Proofs.YtfcgogpnbmikmaaGreatDoor
