/-
  The law's does: Set.
  The law's does: Get.
  The law's does: Del.
  A namespace more.
  The document's Sight of a namespace.
  The document's Names.
  A row of texts that was handed in, laid open; pairs told, and compared by the law.
  The document's Pairs of a namespace.
  The law's more.
  The law's does: a namespace more, and nothing.
-/
import Derived.Test.YtcbhpjpkjmlcnaaGreatGxap
import Derived.Test.YtcbhpjpkjmlcnaaGreatGxai
import Derived.Test.YtcbhpjpkjmlcnaaGreatGxag
import Derived.ChangeArms
import Derived.Deep.Slices
import Derived.ChangeSame
namespace Go.Proofs.YtcbhpjpkjmlcnaaGreat
open Go.RowKit Go.WideShapes

set_option maxRecDepth 100000 in
set_option maxHeartbeats 8000000 in
theorem does10_set {w : World} {X : Nat} {S : S10} {pm pr : Option Addr} {N : Int → Int → Int → Int → World → Prop} {a b c d : Int} {c0 : Nat} (hP : P10 w X S (.pointer pm) (.pointer pr) N a b c d c0) (hM4 : M4 (.pointer pm) N) (hn : 0 < S.n) (hc0 : c0 ≤ 400) (s : Int) {nm : ByteArray} (hs : nm.size ≤ 3000) (x : Int) :
    Calls Tryz.prog 10 #[.pointer (some ⟨X, 0, none⟩), .agg #[.int .i64 1, .int .i64 s, .string nm, .int .i64 x]] w fun e w' => e = .returned (.bool true) ∧ ∃ S' a' b' c' d', D10 w X S (.pointer pm) (.pointer pr) N (c0 + 1) S' a' b' c' d' w' := by
  obtain ⟨w0, hw0⟩ : ∃ V, w.alloc (.cells #[.int .i64 1, .int .i64 s, .string nm, .int .i64 x] 53) = V := ⟨_, rfl⟩
  have hb0 : Below w.heap.size w w0 := by rw [← hw0]; exact (Below.refl _ w).alloc (Nat.le_refl _) _
  have hB0 : Blk w0 w.heap.size 4 (stF 1 s nm x) := by rw [← hw0]; exact st_new w 1 s nm x
  have hP0 := hP.below hM4 hb0
  have hlS := hB0.lt (by omega)
  have CA := at10_any hP0.rw hn hP.nn s
  obtain ⟨hk, _⟩ := pix_lt s hn
  have hPD : P10 w0.drew X S (.pointer pm) (.pointer pr) N a b c d c0 := hP0.keep hM4 (Nat.le_refl _) fun _ _ => rfl
  obtain ⟨gs, cs, es, hgs⟩ := row_has hP.rs hn
  obtain ⟨gk, ck, ek, hgk⟩ := row_has hP.rk hn
  obtain ⟨Pw, C1, _, H2⟩ := set_both hPD hM4 hc0 hk hs x
  generalize pix s S.n = k at *
  have t1 : (k : Int) < (S.n : Int) := by omega
  have HK : Hid (∀ V, Rw10 V X S → Blk V w.heap.size 4 (stF 1 s nm x) → ((V.cell? ⟨X, 2, none⟩ = some (.slice (some ⟨gs, 0, none⟩) S.n cs) ∧ V.cell? ⟨X, 3, none⟩ = some (.slice (some ⟨gk, 0, none⟩) S.n ck)) ∧ V.cell? ⟨gs, k, none⟩ = some (.pointer (some ⟨(S.sp k).s, 0, none⟩)) ∧ V.cell? ⟨gk, k, none⟩ = some (.pointer (some ⟨(S.sp k).s2, 0, none⟩))) ∧ V.cell? ⟨w.heap.size, 2, none⟩ = some (.string nm) ∧ V.cell? ⟨w.heap.size, 3, none⟩ = some (.int .i64 x)) := fun V h1 h2 => ⟨h1.at es ek hk, h2.c 2 (by omega), h2.c 3 (by omega)⟩
  have s0 := HK.out w0.drew hPD.rw (hB0.same rfl)
  have b0 : w0.cell? ⟨w.heap.size, 0, none⟩ = some (.int .i64 1) := hB0.c 0 (by omega)
  have b1 : w0.cell? ⟨w.heap.size, 1, none⟩ = some (.int .i64 s) := hB0.c 1 (by omega)
  have HB0 := Lib.hid hB0
  have HBW : Hid (Below w.heap.size w w0.drew) := hb0.drew
  have HL : Hid (∀ i, S.all X i ∨ mB (.pointer pm) i ∨ mB (.pointer pr) i → i < w.heap.size) := hP.lt
  have HW0 := Lib.hid hw0
  have H2' := Lib.hid H2
  have HKN := Lib.hid hk
  clear hP hP0 hPD hB0 hb0 hM4 hw0 H2 es ek hgs hgk hk
  go_enter Tryz.func10, Tryz.ntmps10
  go_upto_region 1 with fail
  rw [HW0.out]
  go_wp2_with fail
  refine CA.mono ?_
  rintro e w1 ⟨rfl, rfl⟩
  clear CA
  go_upto_region 4 with fail
  go_region_held3 (fun V => ((V.cell? ⟨X, 2, none⟩ = some (.slice (some ⟨gs, 0, none⟩) S.n cs) ∧ V.cell? ⟨X, 3, none⟩ = some (.slice (some ⟨gk, 0, none⟩) S.n ck)) ∧ V.cell? ⟨gs, k, none⟩ = some (.pointer (some ⟨(S.sp k).s, 0, none⟩)) ∧ V.cell? ⟨gk, k, none⟩ = some (.pointer (some ⟨(S.sp k).s2, 0, none⟩))) ∧ V.cell? ⟨w.heap.size, 2, none⟩ = some (.string nm) ∧ V.cell? ⟨w.heap.size, 3, none⟩ = some (.int .i64 x))
    (first | with_reducible exact s0 | with_reducible exact s1 | with_reducible exact s2 | fail)
    (first
      | (go_at_call 21; refine C1.mono ?_; rintro e v1 ⟨er, rfl, hp1⟩; obtain ⟨x1, r1, C2⟩ := H2'.out er v1 hp1; have bb1 := HB0.out.same (w' := v1) (x1.block w.heap.size hlS (fun y => y.elim (fun y => Nat.lt_irrefl _ (HL.out _ (.inl (.inr (.inr (.inr (.inl y))))))) (fun y => y.elim (fun y => Nat.lt_irrefl _ (HL.out _ (.inl (.inr (.inr (.inr (.inr (.inr ⟨k, HKN.out, .inl y⟩)))))))) (fun y => Nat.lt_irrefl _ (HL.out _ (.inr (.inl y))))))); have s1 := HK.out v1 r1 bb1; clear bb1 r1 x1 hp1)
      | (go_at_call 30; refine C2.mono ?_; rintro e v2 ⟨rfl, r2, S', a', b', c', d', hD⟩; have bb2 := HB0.out.same (w' := v2) (hD.ex.block w.heap.size hlS (fun y => Nat.lt_irrefl _ (HL.out _ y))); have s2 := HK.out v2 r2 bb2; have HD := Lib.hid hD; clear bb2 r2 hD)
      | fail)
  go_wp2_with fail
  go_ret
  exact ⟨rfl, S', a', b', c', d', HD.out.up HBW.out⟩
end Go.Proofs.YtcbhpjpkjmlcnaaGreat
namespace Go.Proofs.YtcbhpjpkjmlcnaaGreat
open Go.RowKit Go.WideShapes

set_option maxRecDepth 100000 in
set_option maxHeartbeats 8000000 in
theorem does10_get {w : World} {X : Nat} {S : S10} {pm pr : Option Addr} {N : Int → Int → Int → Int → World → Prop} {a b c d : Int} {c0 : Nat} (hP : P10 w X S (.pointer pm) (.pointer pr) N a b c d c0) (hM4 : M4 (.pointer pm) N) (hn : 0 < S.n) (hc0 : c0 ≤ 400) (s : Int) {nm : ByteArray} (hs : nm.size ≤ 3000) (x : Int) :
    Calls Tryz.prog 10 #[.pointer (some ⟨X, 0, none⟩), .agg #[.int .i64 2, .int .i64 s, .string nm, .int .i64 x]] w fun e w' => e = .returned (.bool true) ∧ ∃ S' a' b' c' d', D10 w X S (.pointer pm) (.pointer pr) N (c0 + 1) S' a' b' c' d' w' := by
  obtain ⟨w0, hw0⟩ : ∃ V, w.alloc (.cells #[.int .i64 2, .int .i64 s, .string nm, .int .i64 x] 53) = V := ⟨_, rfl⟩
  have hb0 : Below w.heap.size w w0 := by rw [← hw0]; exact (Below.refl _ w).alloc (Nat.le_refl _) _
  have hB0 : Blk w0 w.heap.size 4 (stF 2 s nm x) := by rw [← hw0]; exact st_new w 2 s nm x
  have hP0 := hP.below hM4 hb0
  have hlS := hB0.lt (by omega)
  have CA := at10_any hP0.rw hn hP.nn s
  obtain ⟨hk, _⟩ := pix_lt s hn
  have hPD : P10 w0.drew X S (.pointer pm) (.pointer pr) N a b c d c0 := hP0.keep hM4 (Nat.le_refl _) fun _ _ => rfl
  obtain ⟨gs, cs, es, hgs⟩ := row_has hP.rs hn
  obtain ⟨gk, ck, ek, hgk⟩ := row_has hP.rk hn
  obtain ⟨Pw, C1, HPW, H2⟩ := get_both hPD hM4 hc0 hk hs
  generalize pix s S.n = k at *
  have t1 : (k : Int) < (S.n : Int) := by omega
  have HK : Hid (∀ V, Rw10 V X S → Blk V w.heap.size 4 (stF 2 s nm x) → ((V.cell? ⟨X, 2, none⟩ = some (.slice (some ⟨gs, 0, none⟩) S.n cs) ∧ V.cell? ⟨X, 3, none⟩ = some (.slice (some ⟨gk, 0, none⟩) S.n ck)) ∧ V.cell? ⟨gs, k, none⟩ = some (.pointer (some ⟨(S.sp k).s, 0, none⟩)) ∧ V.cell? ⟨gk, k, none⟩ = some (.pointer (some ⟨(S.sp k).s2, 0, none⟩))) ∧ V.cell? ⟨w.heap.size, 2, none⟩ = some (.string nm)) := fun V h1 h2 => ⟨h1.at es ek hk, h2.c 2 (by omega)⟩
  have s0 := HK.out w0.drew hPD.rw (hB0.same rfl)
  have b0 : w0.cell? ⟨w.heap.size, 0, none⟩ = some (.int .i64 2) := hB0.c 0 (by omega)
  have b1 : w0.cell? ⟨w.heap.size, 1, none⟩ = some (.int .i64 s) := hB0.c 1 (by omega)
  have HB0 := Lib.hid hB0
  have HBW : Hid (Below w.heap.size w w0.drew) := hb0.drew
  have HL : Hid (∀ i, S.all X i ∨ mB (.pointer pm) i ∨ mB (.pointer pr) i → i < w.heap.size) := hP.lt
  have HW0 := Lib.hid hw0
  have H2' := Lib.hid H2
  have HPW' := Lib.hid HPW
  have HKN := Lib.hid hk
  clear hP hP0 hPD hB0 hb0 hM4 hw0 H2 es ek hgs hgk hk HPW
  go_enter Tryz.func10, Tryz.ntmps10
  go_upto_region 1 with fail
  rw [HW0.out]
  go_wp2_with fail
  refine CA.mono ?_
  rintro e w1 ⟨rfl, rfl⟩
  clear CA
  go_upto_region 6 with fail
  go_region_held3 (fun V => ((V.cell? ⟨X, 2, none⟩ = some (.slice (some ⟨gs, 0, none⟩) S.n cs) ∧ V.cell? ⟨X, 3, none⟩ = some (.slice (some ⟨gk, 0, none⟩) S.n ck)) ∧ V.cell? ⟨gs, k, none⟩ = some (.pointer (some ⟨(S.sp k).s, 0, none⟩)) ∧ V.cell? ⟨gk, k, none⟩ = some (.pointer (some ⟨(S.sp k).s2, 0, none⟩))) ∧ V.cell? ⟨w.heap.size, 2, none⟩ = some (.string nm))
    (first | with_reducible exact s0 | with_reducible exact s1 | fail)
    (first
      | (go_at_call 22; refine C1.mono ?_; rintro e v1 ⟨xx, ok, rfl, hp1⟩; obtain ⟨x1, r1, _⟩ := H2'.out xx ok v1 hp1; have bb1 := HB0.out.same (w' := v1) (x1.block w.heap.size hlS (fun y => y.elim (fun y => Nat.lt_irrefl _ (HL.out _ (.inl (.inr (.inr (.inr (.inl y))))))) (fun y => y.elim (fun y => Nat.lt_irrefl _ (HL.out _ (.inl (.inr (.inr (.inr (.inr (.inr ⟨k, HKN.out, .inl y⟩)))))))) (fun y => Nat.lt_irrefl _ (HL.out _ (.inr (.inl y))))))); have s1 := HK.out v1 r1 bb1; have HP1 := Lib.hid hp1; clear bb1 r1 x1 hp1)
      | fail)
  have hpD := HPW'.out xx ok v1 v1.drew HP1.out (Below.refl _ _).drew
  obtain ⟨x1, r1, C2⟩ := H2'.out xx ok v1.drew hpD
  have bb1 := HB0.out.same (w' := v1.drew) (x1.block w.heap.size hlS (fun y => y.elim (fun y => Nat.lt_irrefl _ (HL.out _ (.inl (.inr (.inr (.inr (.inl y))))))) (fun y => y.elim (fun y => Nat.lt_irrefl _ (HL.out _ (.inl (.inr (.inr (.inr (.inr (.inr ⟨k, HKN.out, .inl y⟩)))))))) (fun y => Nat.lt_irrefl _ (HL.out _ (.inr (.inl y)))))))
  have s2 := HK.out v1.drew r1 bb1
  clear bb1 r1 x1 hpD s0 s1 C1
  go_upto_region 7 with fail
  go_region_held3 (fun V => ((V.cell? ⟨X, 2, none⟩ = some (.slice (some ⟨gs, 0, none⟩) S.n cs) ∧ V.cell? ⟨X, 3, none⟩ = some (.slice (some ⟨gk, 0, none⟩) S.n ck)) ∧ V.cell? ⟨gs, k, none⟩ = some (.pointer (some ⟨(S.sp k).s, 0, none⟩)) ∧ V.cell? ⟨gk, k, none⟩ = some (.pointer (some ⟨(S.sp k).s2, 0, none⟩))) ∧ V.cell? ⟨w.heap.size, 2, none⟩ = some (.string nm))
    (first | with_reducible exact s2 | with_reducible exact s3 | fail)
    (first
      | (go_at_call 31; refine C2.mono ?_; rintro e v2 ⟨rfl, r2, S', a', b', c', d', hD⟩; have bb2 := HB0.out.same (w' := v2) (hD.ex.block w.heap.size hlS (fun y => Nat.lt_irrefl _ (HL.out _ y))); have s3 := HK.out v2 r2 bb2; have HD := Lib.hid hD; clear bb2 r2 hD)
      | fail)
  have e1 : (xx == xx) = true := by simp
  have e2 : (ok == ok) = true := by simp
  go_wp2_with fail
  go_ret
  exact ⟨rfl, S', a', b', c', d', HD.out.up HBW.out⟩
end Go.Proofs.YtcbhpjpkjmlcnaaGreat
namespace Go.Proofs.YtcbhpjpkjmlcnaaGreat
open Go.RowKit Go.WideShapes

set_option maxRecDepth 100000 in
set_option maxHeartbeats 8000000 in
theorem does10_del {w : World} {X : Nat} {S : S10} {pm pr : Option Addr} {N : Int → Int → Int → Int → World → Prop} {a b c d : Int} {c0 : Nat} (hP : P10 w X S (.pointer pm) (.pointer pr) N a b c d c0) (hM4 : M4 (.pointer pm) N) (hn : 0 < S.n) (hc0 : c0 ≤ 400) (s : Int) {nm : ByteArray} (hs : nm.size ≤ 3000) (x : Int) :
    Calls Tryz.prog 10 #[.pointer (some ⟨X, 0, none⟩), .agg #[.int .i64 3, .int .i64 s, .string nm, .int .i64 x]] w fun e w' => e = .returned (.bool true) ∧ ∃ S' a' b' c' d', D10 w X S (.pointer pm) (.pointer pr) N (c0 + 1) S' a' b' c' d' w' := by
  obtain ⟨w0, hw0⟩ : ∃ V, w.alloc (.cells #[.int .i64 3, .int .i64 s, .string nm, .int .i64 x] 53) = V := ⟨_, rfl⟩
  have hb0 : Below w.heap.size w w0 := by rw [← hw0]; exact (Below.refl _ w).alloc (Nat.le_refl _) _
  have hB0 : Blk w0 w.heap.size 4 (stF 3 s nm x) := by rw [← hw0]; exact st_new w 3 s nm x
  have hP0 := hP.below hM4 hb0
  have hlS := hB0.lt (by omega)
  have CA := at10_any hP0.rw hn hP.nn s
  obtain ⟨hk, _⟩ := pix_lt s hn
  have hPD : P10 w0.drew X S (.pointer pm) (.pointer pr) N a b c d c0 := hP0.keep hM4 (Nat.le_refl _) fun _ _ => rfl
  obtain ⟨gs, cs, es, hgs⟩ := row_has hP.rs hn
  obtain ⟨gk, ck, ek, hgk⟩ := row_has hP.rk hn
  obtain ⟨Pw, C1, _, H2⟩ := del_both hPD hM4 hc0 hk hs
  generalize pix s S.n = k at *
  have t1 : (k : Int) < (S.n : Int) := by omega
  have HK : Hid (∀ V, Rw10 V X S → Blk V w.heap.size 4 (stF 3 s nm x) → ((V.cell? ⟨X, 2, none⟩ = some (.slice (some ⟨gs, 0, none⟩) S.n cs) ∧ V.cell? ⟨X, 3, none⟩ = some (.slice (some ⟨gk, 0, none⟩) S.n ck)) ∧ V.cell? ⟨gs, k, none⟩ = some (.pointer (some ⟨(S.sp k).s, 0, none⟩)) ∧ V.cell? ⟨gk, k, none⟩ = some (.pointer (some ⟨(S.sp k).s2, 0, none⟩))) ∧ V.cell? ⟨w.heap.size, 2, none⟩ = some (.string nm)) := fun V h1 h2 => ⟨h1.at es ek hk, h2.c 2 (by omega)⟩
  have s0 := HK.out w0.drew hPD.rw (hB0.same rfl)
  have b0 : w0.cell? ⟨w.heap.size, 0, none⟩ = some (.int .i64 3) := hB0.c 0 (by omega)
  have b1 : w0.cell? ⟨w.heap.size, 1, none⟩ = some (.int .i64 s) := hB0.c 1 (by omega)
  have HB0 := Lib.hid hB0
  have HBW : Hid (Below w.heap.size w w0.drew) := hb0.drew
  have HL : Hid (∀ i, S.all X i ∨ mB (.pointer pm) i ∨ mB (.pointer pr) i → i < w.heap.size) := hP.lt
  have HW0 := Lib.hid hw0
  have H2' := Lib.hid H2
  have HKN := Lib.hid hk
  clear hP hP0 hPD hB0 hb0 hM4 hw0 H2 es ek hgs hgk hk
  go_enter Tryz.func10, Tryz.ntmps10
  go_upto_region 1 with fail
  rw [HW0.out]
  go_wp2_with fail
  refine CA.mono ?_
  rintro e w1 ⟨rfl, rfl⟩
  clear CA
  go_upto_region 10 with fail
  go_region_held3 (fun V => ((V.cell? ⟨X, 2, none⟩ = some (.slice (some ⟨gs, 0, none⟩) S.n cs) ∧ V.cell? ⟨X, 3, none⟩ = some (.slice (some ⟨gk, 0, none⟩) S.n ck)) ∧ V.cell? ⟨gs, k, none⟩ = some (.pointer (some ⟨(S.sp k).s, 0, none⟩)) ∧ V.cell? ⟨gk, k, none⟩ = some (.pointer (some ⟨(S.sp k).s2, 0, none⟩))) ∧ V.cell? ⟨w.heap.size, 2, none⟩ = some (.string nm))
    (first | with_reducible exact s0 | with_reducible exact s1 | with_reducible exact s2 | fail)
    (first
      | (go_at_call 32; refine C1.mono ?_; rintro e v1 ⟨er, rfl, hp1⟩; obtain ⟨x1, r1, C2⟩ := H2'.out er v1 hp1; have bb1 := HB0.out.same (w' := v1) (x1.block w.heap.size hlS (fun y => y.elim (fun y => Nat.lt_irrefl _ (HL.out _ (.inl (.inr (.inr (.inr (.inl y))))))) (fun y => y.elim (fun y => Nat.lt_irrefl _ (HL.out _ (.inl (.inr (.inr (.inr (.inr (.inr ⟨k, HKN.out, .inl y⟩)))))))) (fun y => Nat.lt_irrefl _ (HL.out _ (.inr (.inl y))))))); have s1 := HK.out v1 r1 bb1; clear bb1 r1 x1 hp1)
      | (go_at_call 33; refine C2.mono ?_; rintro e v2 ⟨rfl, r2, S', a', b', c', d', hD⟩; have bb2 := HB0.out.same (w' := v2) (hD.ex.block w.heap.size hlS (fun y => Nat.lt_irrefl _ (HL.out _ y))); have s2 := HK.out v2 r2 bb2; have HD := Lib.hid hD; clear bb2 r2 hD)
      | fail)
  go_wp2_with fail
  go_ret
  exact ⟨rfl, S', a', b', c', d', HD.out.up HBW.out⟩
end Go.Proofs.YtcbhpjpkjmlcnaaGreat
namespace Go.Proofs.YtcbhpjpkjmlcnaaGreat
open Go.RowKit Go.WideShapes

theorem Tryz.infoXs : (Tryz.prog.info? 81).map (fun i => (i.zero, i.size, i.bytes)) = some (some (.pointer none), 1, 8) := by kernel_rfl
theorem Tryz.infoXk : (Tryz.prog.info? 91).map (fun i => (i.zero, i.size, i.bytes)) = some (some (.pointer none), 1, 8) := by kernel_rfl
theorem neSp (s : Nat) (w : World) : (binOp .neq 81 (.pointer (some ⟨s, 0, none⟩)) (.pointer none)).run Tryz.prog w = .ok (.bool true) w := by kernel_rfl
def S10.more (S : S10) (p : Sx10) (vs vk : Value) : S10 := ⟨S.f, S.f2, S.F, S.XF, S.XG, S.n + 1, updA S.sp S.n p, vs, vk⟩
theorem more_fin10 {w w' : World} {X : Nat} {S : S10} {mv mr : Value} {N : Int → Int → Int → Int → World → Prop} {a b c d : Int} {c0 : Nat} (hP : P10 w X S mv mr N a b c d c0) (hM4 : M4 mv N) (hn : S.n < 12) {s s2 n1 n2 n3 : Nat} {XS XR : Nat → Prop} {vs vk : Value}
    (hx : Ex (fun i => i = X ∨ S.rs.ownBlock = some i ∨ S.rk.ownBlock = some i) w w') (hs : Sm w' s S.f mv 0 XS (.row [])) (hq : Qs w' s2 S.f2 mr 0 XR (.row [])) (hXS : ∀ i, XS i → w.heap.size ≤ i ∧ i < n1) (hXR : ∀ i, XR i → n2 ≤ i ∧ i < n3) (n12 : n1 ≤ n2) (n23 : n2 ≤ n3) (n3w : n3 ≤ w'.heap.size) (n01 : w.heap.size ≤ n1)
    (hvs : w'.ownsRow 0 81 1 vs (S.n + 1) (ptrs (fun i => (S.sp i).s) S.n ++ [.pointer (some ⟨s, 0, none⟩)])) (hvk : w'.ownsRow 0 91 1 vk (S.n + 1) (ptrs (fun i => (S.sp i).s2) S.n ++ [.pointer (some ⟨s2, 0, none⟩)]))
    (hbs : ∀ i, vs.ownBlock = some i → S.rs.ownBlock = some i ∨ (n1 ≤ i ∧ i < n2)) (hbk : ∀ i, vk.ownBlock = some i → S.rk.ownBlock = some i ∨ (n3 ≤ i ∧ i < w'.heap.size))
    (hX : Blk w' X 4 (x10F (S.more ⟨s, s2, 0, .row [], XS, XR⟩ vs vk))) :
    D10 w X S mv mr N c0 (S.more ⟨s, s2, 0, .row [], XS, XR⟩ vs vk) a b c d w' := by
  obtain ⟨lab, sp⟩ := hP.sep
  have old : ∀ i, i < w.heap.size → lab i ≠ 0 → lab i ≠ 3 → lab i ≠ 4 → w'.heap[i]? = w.heap[i]? := fun i hi h0 h1 h2 => hx.block i hi (fun h => by
    rcases h with h | h | h
    · exact h0 (by rw [h]; exact sp.x.1)
    · exact h1 (sp.rs i h).1
    · exact h2 (sp.rk i h).1)
  refine ⟨⟨hX, ?_, ?_, hn, ?_, ?_, ?_, hP.fok, ?_, ?_, hP.ab, ?_⟩, rfl, rfl, Nat.le_succ _, ⟨rfl, rfl⟩, ?_, ?_⟩
  · have e : ptrs (fun j => (updA S.sp S.n (⟨s, s2, 0, .row [], XS, XR⟩ : Sx10) j).s) (S.n + 1) = ptrs (fun j => (S.sp j).s) S.n ++ [.pointer (some ⟨s, 0, none⟩)] := by
      rw [ptrs, updA_at, ptrs_congr (g := fun j => (S.sp j).s) S.n (fun i hi => by rw [updA_ne _ _ (by omega)])]
    show w'.ownsRow 0 _ 1 vs (S.n + 1) (ptrs (fun j => (updA S.sp S.n _ j).s) (S.n + 1))
    rw [e]
    exact hvs
  · have e : ptrs (fun j => (updA S.sp S.n (⟨s, s2, 0, .row [], XS, XR⟩ : Sx10) j).s2) (S.n + 1) = ptrs (fun j => (S.sp j).s2) S.n ++ [.pointer (some ⟨s2, 0, none⟩)] := by
      rw [ptrs, updA_at, ptrs_congr (g := fun j => (S.sp j).s2) S.n (fun i hi => by rw [updA_ne _ _ (by omega)])]
    show w'.ownsRow 0 _ 1 vk (S.n + 1) (ptrs (fun j => (updA S.sp S.n _ j).s2) (S.n + 1))
    rw [e]
    exact hvk
  · exact hP.fm.same fun i hi => by have := sp.f i hi; exact old i this.2 (by omega) (by omega) (by omega)
  · exact hP.qf.same fun i hi => by have := sp.g i hi; exact old i this.2 (by omega) (by omega) (by omega)
  · intro i hi
    show Ns10 w' _ mv mr c0 (updA S.sp S.n _ i)
    by_cases e : i = S.n
    · rw [e, updA_at]
      exact ⟨hs, hq, Nat.zero_le _, Nat.zero_le _⟩
    · rw [updA_ne _ _ e]
      have hi' : i < S.n := by have : i < S.n + 1 := hi; omega
      have h := hP.sp i hi'
      exact ⟨h.sm.same fun b hb => (by have := sp.s i hi' b hb; exact old b this.2 (by omega) (by omega) (by omega)), h.qs.same fun b hb => (by have := sp.k i hi' b hb; exact old b this.2 (by omega) (by omega) (by omega)), h.ok, h.ver⟩
  · exact (hM4.mt c d).same _ _ _ _ hP.m fun i hi => by have := sp.m i hi; exact old i this.2 (by omega) (by omega) (by omega)
  · exact hP.ms.same fun i hi => by have := sp.r i hi; exact old i this.2 (by omega) (by omega) (by omega)
  · refine ⟨fun i => if i < w.heap.size then lab i else if i < n1 then 7 + 2 * S.n else if i < n2 then 3 else if i < n3 then 8 + 2 * S.n else 4, ⟨?_, by have := sp.x.2; omega⟩, fun b hb => ?_, fun b hb => ?_, fun b hb => ?_, fun b hb => ?_, fun b hb => ?_, fun b hb => ?_, fun i hi b hb => ?_, fun i hi b hb => ?_⟩
    · show (if X < w.heap.size then lab X else _) = 0
      rw [if_pos sp.x.2]; exact sp.x.1
    · show (if b < w.heap.size then lab b else _) = 1 ∧ _
      have := sp.m b hb; rw [if_pos this.2]; exact ⟨this.1, by omega⟩
    · show (if b < w.heap.size then lab b else _) = 2 ∧ _
      have := sp.r b hb; rw [if_pos this.2]; exact ⟨this.1, by omega⟩
    · show (if b < w.heap.size then lab b else if b < n1 then 7 + 2 * S.n else if b < n2 then 3 else if b < n3 then 8 + 2 * S.n else 4) = 3 ∧ _
      rcases hbs b hb with z | z
      · have := sp.rs b z; rw [if_pos this.2]; exact ⟨this.1, by omega⟩
      · rw [if_neg (by omega), if_neg (by omega), if_pos z.2]; exact ⟨rfl, by omega⟩
    · show (if b < w.heap.size then lab b else if b < n1 then 7 + 2 * S.n else if b < n2 then 3 else if b < n3 then 8 + 2 * S.n else 4) = 4 ∧ _
      rcases hbk b hb with z | z
      · have := sp.rk b z; rw [if_pos this.2]; exact ⟨this.1, by omega⟩
      · rw [if_neg (by omega), if_neg (by omega), if_neg (by omega), if_neg (by omega)]; exact ⟨rfl, z.2⟩
    · show (if b < w.heap.size then lab b else _) = 5 ∧ _
      have := sp.f b hb; rw [if_pos this.2]; exact ⟨this.1, by omega⟩
    · show (if b < w.heap.size then lab b else _) = 6 ∧ _
      have := sp.g b hb; rw [if_pos this.2]; exact ⟨this.1, by omega⟩
    · show (if b < w.heap.size then lab b else if b < n1 then 7 + 2 * S.n else if b < n2 then 3 else if b < n3 then 8 + 2 * S.n else 4) = 7 + 2 * i ∧ _
      have hb' : (updA S.sp S.n (⟨s, s2, 0, .row [], XS, XR⟩ : Sx10) i).XS b := hb
      by_cases e : i = S.n
      · rw [e, updA_at] at hb'
        have := hXS b hb'
        rw [if_neg (by omega), if_pos this.2, e]; exact ⟨rfl, by omega⟩
      · rw [updA_ne _ _ e] at hb'
        have := sp.s i (by have : i < S.n + 1 := hi; omega) b hb'
        rw [if_pos this.2]; exact ⟨this.1, by omega⟩
    · show (if b < w.heap.size then lab b else if b < n1 then 7 + 2 * S.n else if b < n2 then 3 else if b < n3 then 8 + 2 * S.n else 4) = 8 + 2 * i ∧ _
      have hb' : (updA S.sp S.n (⟨s, s2, 0, .row [], XS, XR⟩ : Sx10) i).XR b := hb
      by_cases e : i = S.n
      · rw [e, updA_at] at hb'
        have := hXR b hb'
        rw [if_neg (by omega), if_neg (by omega), if_neg (by omega), if_pos this.2, e]; exact ⟨rfl, by omega⟩
      · rw [updA_ne _ _ e] at hb'
        have := sp.k i (by have : i < S.n + 1 := hi; omega) b hb'
        rw [if_pos this.2]; exact ⟨this.1, by omega⟩
  · rintro b (rfl | z | z | z | z | ⟨i, hi, z⟩)
    · exact .inl (.inl rfl)
    · exact (hbs b z).elim (fun z => .inl (.inr (.inl z))) (fun z => .inr (by omega))
    · exact (hbk b z).elim (fun z => .inl (.inr (.inr (.inl z)))) (fun z => .inr (by omega))
    · exact .inl (.inr (.inr (.inr (.inl z))))
    · exact .inl (.inr (.inr (.inr (.inr (.inl z)))))
    · have z' : (updA S.sp S.n (⟨s, s2, 0, .row [], XS, XR⟩ : Sx10) i).XS b ∨ (updA S.sp S.n (⟨s, s2, 0, .row [], XS, XR⟩ : Sx10) i).XR b := z
      by_cases e : i = S.n
      · rw [e, updA_at] at z'
        rcases z' with z | z
        · have := hXS b z; exact .inr (by omega)
        · have := hXR b z; exact .inr (by omega)
      · rw [updA_ne _ _ e] at z'
        exact .inl (.inr (.inr (.inr (.inr (.inr ⟨i, by have : i < S.n + 1 := hi; omega, z'⟩)))))
  · exact hx.mono fun i _ h => by
      rcases h with h | h | h
      · exact .inl (.inl h)
      · exact .inl (.inr (.inl h))
      · exact .inl (.inr (.inr (.inl h)))
def xa10 (S : S10) (vs : Value) (x : Nat) : Value := if x = 2 then vs else x10F S x
/-- Behind the program's append. -/
structure Ma10 (w W w4 : World) (X : Nat) (S : S10) (mv mr : Value) (s : Nat) (XS : Nat → Prop) (vs : Value) : Prop where
  ex : Ex (fun i => i = X ∨ S.rs.ownBlock = some i) w w4
  n1 : w.heap.size ≤ W.heap.size
  n2 : W.heap.size ≤ w4.heap.size
  hs : Sm w4 s S.f mv 0 XS (.row [])
  xs : ∀ i, XS i → w.heap.size ≤ i ∧ i < W.heap.size
  row : w4.ownsRow 0 81 1 vs (S.n + 1) (ptrs (fun i => (S.sp i).s) S.n ++ [.pointer (some ⟨s, 0, none⟩)])
  bs : ∀ i, vs.ownBlock = some i → S.rs.ownBlock = some i ∨ (W.heap.size ≤ i ∧ i < w4.heap.size)
  hx : Blk w4 X 4 (xa10 S vs)
theorem more10a {w W : World} {X : Nat} {S : S10} {mv mr : Value} {N : Int → Int → Int → Int → World → Prop} {a b c d : Int} {c0 : Nat} (hP : P10 w X S mv mr N a b c d c0) (hM4 : M4 mv N) (hb : Below w.heap.size w W) {s : Nat} {XS : Nat → Prop} (hs : Sm W s S.f mv 0 XS (.row [])) (hXS : ∀ i, XS i → w.heap.size ≤ i) {vs0 : Value} (es : S.rs = vs0) :
    W.ownsRow 0 81 1 vs0 S.n (ptrs (fun i => (S.sp i).s) S.n) ∧ ∀ (o : Obj) vs w3, w3.ownsRow 0 81 1 vs (S.n + 1) (ptrs (fun i => (S.sp i).s) S.n ++ [.pointer (some ⟨s, 0, none⟩)]) → (W.alloc o).grownBy w3 vs0.ownBlock → (vs.ownBlock = vs0.ownBlock ∨ vs.ownBlock = some (W.alloc o).heap.size) →
      (w3.cell? ⟨X, 2, none⟩ = some vs0 ∧ w3.frozen? ⟨X, 2, none⟩ = false) ∧ ∀ w4, w3.setCell ⟨X, 2, none⟩ vs = w4 → Ma10 w W w4 X S mv mr s XS vs ∧ QfX w4 S.f2 S.F mr S.XG ∧ (∀ k, mB mr k → k < w4.heap.size) := by
  subst es
  obtain ⟨lab, sp⟩ := hP.sep
  have hPW := hP.below hM4 hb
  have hsz := hb.size
  have lXS := hs.lt
  refine ⟨hPW.rs, fun o vs w3 h1 h2 h3 => ?_⟩
  obtain ⟨q1, q2⟩ := push_row hPW.hx (fi := 2) (fun i hi e => by have h1 := sp.rs i hi; have h2 := sp.x; rw [e] at h1; omega) h1 h2 h3
  refine ⟨⟨q1.c 2 (by omega), q1.z 2⟩, fun w4 hw4 => ?_⟩
  obtain ⟨m1, r1, e1, b1⟩ := q2 w4 hw4
  have ns : ∀ i, (i = X ∨ S.rs.ownBlock = some i) → i < w.heap.size := fun i hi => hi.elim (fun e => by rw [e]; exact sp.x.2) (fun e => (sp.rs i e).2)
  refine ⟨⟨(ex_of hb).next e1 (fun _ _ h => h), hsz, e1.size, hs.same fun i hi => e1.block i (lXS i hi) (fun h => by have := ns i h; have := hXS i hi; omega), fun i hi => ⟨hXS i hi, lXS i hi⟩, r1, b1, m1.congr fun i _ => rfl⟩, hPW.qf.same fun i hi => e1.block i (hPW.qf.lt i hi) (fun h => ?_), fun i hi => Nat.lt_of_lt_of_le (sp.r i hi).2 (Nat.le_trans hsz e1.size)⟩
  have g := sp.g i hi
  rcases h with h | h
  · have := sp.x; rw [h] at g; omega
  · have := sp.rs i h; omega
theorem more10b {w W w4 w5 : World} {X : Nat} {S : S10} {mv mr : Value} {N : Int → Int → Int → Int → World → Prop} {a b c d : Int} {c0 : Nat} (hP : P10 w X S mv mr N a b c d c0) (hM4 : M4 mv N) (hn : S.n < 12) {s : Nat} {XS : Nat → Prop} {vs : Value} (hM : Ma10 w W w4 X S mv mr s XS vs) (hb : Below w4.heap.size w4 w5) {s2 : Nat} {XR : Nat → Prop} (hq : Qs w5 s2 S.f2 mr 0 XR (.row [])) (hXR : ∀ i, XR i → w4.heap.size ≤ i) {vk0 : Value} (ek : S.rk = vk0) :
    Blk w5 X 4 (xa10 S vs) ∧ w5.ownsRow 0 91 1 vk0 S.n (ptrs (fun i => (S.sp i).s2) S.n) ∧ ∀ (o : Obj) vk w6, w6.ownsRow 0 91 1 vk (S.n + 1) (ptrs (fun i => (S.sp i).s2) S.n ++ [.pointer (some ⟨s2, 0, none⟩)]) → (w5.alloc o).grownBy w6 vk0.ownBlock → (vk.ownBlock = vk0.ownBlock ∨ vk.ownBlock = some (w5.alloc o).heap.size) →
      Blk w6 X 4 (xa10 S vs) ∧ ∀ w7, w6.setCell ⟨X, 3, none⟩ vk = w7 → w7.cell? ⟨X, 1, none⟩ = some (.pointer (some ⟨S.f2, 0, none⟩)) ∧ D10 w X S mv mr N c0 (S.more ⟨s, s2, 0, .row [], XS, XR⟩ vs vk) a b c d w7 := by
  subst ek
  obtain ⟨lab, sp⟩ := hP.sep
  have hsz := hb.size
  have n1 := hM.n1
  have n2 := hM.n2
  have lXR := hq.lt
  have ns : ∀ i, (i = X ∨ S.rk.ownBlock = some i) → i < w.heap.size ∧ (lab i = 0 ∨ lab i = 4) := fun i hi => hi.elim (fun e => by rw [e]; exact ⟨sp.x.2, .inl sp.x.1⟩) (fun e => ⟨(sp.rk i e).2, .inr (sp.rk i e).1⟩)
  have hX5 := hM.hx.of hb (by have := sp.x.2; omega)
  have hrk5 : w5.ownsRow 0 91 1 S.rk S.n (ptrs (fun i => (S.sp i).s2) S.n) := owns_same hP.rk fun i hi => (hb.block i (by have := (sp.rk i hi).2; omega)).trans (hM.ex.block i (sp.rk i hi).2 (fun h => by
    have g := sp.rk i hi
    rcases h with h | h
    · have := sp.x; rw [h] at g; omega
    · have := sp.rs i h; omega))
  refine ⟨hX5, hrk5, fun o vk w6 h1 h2 h3 => ?_⟩
  obtain ⟨q1, q2⟩ := push_row hX5 (fi := 3) (fun i hi e => by have h1 := sp.rk i hi; have h2 := sp.x; rw [e] at h1; omega) h1 h2 h3
  refine ⟨q1, fun w7 hw7 => ?_⟩
  obtain ⟨m1, r1, e1, b1⟩ := q2 w7 hw7
  have hs1 := e1.size
  refine ⟨m1.c 1 (by omega), more_fin10 hP hM4 hn (n1 := W.heap.size) (n2 := w4.heap.size) (n3 := w5.heap.size) ?_ ?_ ?_ hM.xs (fun i hi => ⟨hXR i hi, lXR i hi⟩) n2 hsz hs1 n1 ?_ r1 hM.bs b1 (m1.congr fun i hi => ?_)⟩
  · exact ((hM.ex.mono (fun _ _ h => h.elim .inl (fun y => .inr (.inl y)))).next (ex_of (X := fun _ => False) hb) (fun _ _ y => y.elim)).next e1 (fun _ _ h => h.elim .inl (fun y => .inr (.inr y)))
  · exact hM.hs.same fun i hi => (e1.block i (by have := hM.hs.lt i hi; omega) (fun h => by have := (ns i h).1; have := (hM.xs i hi).1; omega)).trans (hb.block i (hM.hs.lt i hi))
  · exact hq.same fun i hi => e1.block i (lXR i hi) (fun h => by have := (ns i h).1; have := hXR i hi; omega)
  · refine owns_same hM.row fun i hi => ?_
    have li := (World.ownsRow.lt hM.row i hi).2
    refine (e1.block i (by omega) (fun h => ?_)).trans (hb.block i li)
    have g := ns i h
    rcases hM.bs i hi with z | z
    · have := sp.rs i z; omega
    · omega
  · have : i = 0 ∨ i = 1 ∨ i = 2 ∨ i = 3 := by omega
    rcases this with rfl | rfl | rfl | rfl <;> rfl
end Go.Proofs.YtcbhpjpkjmlcnaaGreat
namespace Go.Proofs.YtcbhpjpkjmlcnaaGreat
open Go.RowKit Go.WideShapes

theorem sln_put7 {w : World} {R cn cc : Nat} {ca : Option Addr} {f : Nat → Int} (h : SlN w ca cn cc f) (hR : Blk w R 7 zS) (hn : 2 < cn) (v0 v1 v2 v3 v4 v5 v6 : Value) : SlN (put7 w R v0 v1 v2 v3 v4 v5 v6) ca cn cc f := by
  obtain ⟨h1, b, h2, h3⟩ := h
  have hb : b ≠ R := fun e => by
    have q := h3 2 hn
    rw [e] at q
    have r : w.cell? ⟨R, 2, none⟩ = some (.slice none 0 0) := hR.c 2 (by omega)
    rw [r] at q
    cases q
  have o := put7_other w R v0 v1 v2 v3 v4 v5 v6 b hb
  have hx := put7_below (Below.refl 0 w) R (Nat.zero_le _) v0 v1 v2 v3 v4 v5 v6
  exact ⟨h1, b, fun h0 => ⟨(h2 h0).1, Nat.lt_of_lt_of_le (h2 h0).2 hx.size⟩, fun j hj => (World.cell?_of_block (a := ⟨b, j, none⟩) o).trans (h3 j hj)⟩
theorem sle_put7 {w : World} {R n cap : Nat} {a : Option Addr} {es : List En} (h : SlE w a n cap es) (hR : Blk w R 7 zS) (v0 v1 v2 v3 v4 v5 v6 : Value) : SlE (put7 w R v0 v1 v2 v3 v4 v5 v6) a n cap es := by
  obtain ⟨h1, h2, ge, h3, h4⟩ := h
  have hx := put7_below (Below.refl 0 w) R (Nat.zero_le _) v0 v1 v2 v3 v4 v5 v6
  have o : ∀ i, i < n → ∀ m, (put7 w R v0 v1 v2 v3 v4 v5 v6).cell? ⟨ge, m, none⟩ = w.cell? ⟨ge, m, none⟩ := fun i hi m => by
    have hb : ge ≠ R := fun e => by
      have q := h4.c0 0 (by omega)
      rw [e] at q
      have r : w.cell? ⟨R, 0, none⟩ = some (.int .i64 0) := hR.c 0 (by omega)
      rw [show 0 * 5 = 0 from rfl, r] at q
      cases q
    exact World.cell?_of_block (a := ⟨ge, m, none⟩) (put7_other w R v0 v1 v2 v3 v4 v5 v6 ge hb)
  exact ⟨h1, h2, ge, fun h0 => ⟨(h3 h0).1, Nat.lt_of_lt_of_le (h3 h0).2 hx.size⟩, ⟨h4.le, fun i hi => (o i hi _).trans (h4.c0 i hi), fun i hi => (o i hi _).trans (h4.c1 i hi), fun i hi => (o i hi _).trans (h4.c2 i hi), fun i hi => (o i hi _).trans (h4.c3 i hi), fun i hi => (o i hi _).trans (h4.c4 i hi)⟩⟩
/-- What a sight tells: of a table, or of none. -/
def SiQ (B : Nat) (st : Stn) (e : Ending) (w' : World) : Prop := match st with
  | .row _ => e = .returned (siV 0 0 none 0 0 none 0 0 0 0 0)
  | .own t => ∃ ca cc ea ec, e = .returned (siV (t.L : Int) (wd t.L : Int) ca (2 ^ t.L) cc ea t.es.length ec (t.live : Int) (t.births : Int) (t.made : Int)) ∧ SlN w' ca (2 ^ t.L) cc t.c ∧ SlE w' ea t.es.length ec (shw t.es) ∧ B ≤ w'.heap.size
set_option maxRecDepth 100000 in
set_option maxHeartbeats 4000000 in
theorem rssight_any {w : World} {s f : Nat} {mr : Value} {X : Nat → Prop} {st : Stn} {v : Nat} (h : Qs w s f mr v X st) (hlen : ∀ t, st = .own t → t.es.length ≤ 100000) :
    Calls Tryz.prog 41 #[.pointer (some ⟨s, 0, none⟩)] w fun e w' => SiQ w.heap.size st e w' ∧ Below w.heap.size w w' := by
  obtain ⟨w1, hw1⟩ : ∃ x, w.alloc (.cells #[.int .i64 0, .int .i64 0, .slice none 0 0, .slice none 0 0, .int .i64 0, .int .i64 0, .int .i64 0] 73) = x := ⟨_, rfl⟩
  have hB1 : Below w.heap.size w w1 := by rw [← hw1]; exact (Below.refl _ w).alloc (Nat.le_refl _) _
  have hR1 : Blk w1 w.heap.size 7 zS := by
    rw [← hw1]
    refine (Blk.new w _ _).congr fun j hj => ?_
    have : j = 0 ∨ j = 1 ∨ j = 2 ∨ j = 3 ∨ j = 4 ∨ j = 5 ∨ j = 6 := by simp at hj; omega
    rcases this with rfl | rfl | rfl | rfl | rfl | rfl | rfl <;> rfl
  have hl1 := hR1.lt (by omega)
  have hq : Qs w1 s f mr v X st := h.same fun k hk => hB1.block k (h.lt k hk)
  cases st with
  | row vs =>
    obtain ⟨vv, h1, _, _, _⟩ := hq
    have k2 : w1.cell? ⟨s, 2, none⟩ = some (.pointer none) := h1.c 2 (by omega)
    have e1 := eqQ7n
    have HB9 := Lib.hid (put7_below hB1 w.heap.size (Nat.le_refl _) (.int .i64 0) (.int .i64 0) (.slice none 0 0) (.slice none 0 0) (.int .i64 0) (.int .i64 0) (.int .i64 0))
    have HA9 := Lib.hid (put7_blk hR1 (.int .i64 0) (.int .i64 0) (.slice none 0 0) (.slice none 0 0) (.int .i64 0) (.int .i64 0) (.int .i64 0))
    have q0 : w1.cell? ⟨w.heap.size, 0, none⟩ = some (.int .i64 0) := hR1.c 0 (by omega)
    have q1 : w1.cell? ⟨w.heap.size, 1, none⟩ = some (.int .i64 0) := hR1.c 1 (by omega)
    have q2 : w1.cell? ⟨w.heap.size, 2, none⟩ = some (.slice none 0 0) := hR1.c 2 (by omega)
    have q3 : w1.cell? ⟨w.heap.size, 3, none⟩ = some (.slice none 0 0) := hR1.c 3 (by omega)
    have q4 : w1.cell? ⟨w.heap.size, 4, none⟩ = some (.int .i64 0) := hR1.c 4 (by omega)
    have q5 : w1.cell? ⟨w.heap.size, 5, none⟩ = some (.int .i64 0) := hR1.c 5 (by omega)
    have q6 : w1.cell? ⟨w.heap.size, 6, none⟩ = some (.int .i64 0) := hR1.c 6 (by omega)
    have z0 := hR1.z 0
    have z1 := hR1.z 1
    have z2 := hR1.z 2
    have z3 := hR1.z 3
    have z4 := hR1.z 4
    have z5 := hR1.z 5
    have z6 := hR1.z 6
    have HW1 := Lib.hid hw1
    clear h h1 hw1 hB1 hR1
    unfold put7 at HA9 HB9
    go_enter Tryz.func41, Tryz.ntmps41
    go_upto_region 1 with fail
    rw [HW1.out]
    go_wp2_with fail
    generalize World.setCell (World.setCell (World.setCell (World.setCell (World.setCell (World.setCell (World.setCell w1 _ _) _ _) _ _) _ _) _ _) _ _) _ _ = w9 at *
    have p0 := HA9.out.c 0 (by omega)
    have p1 := HA9.out.c 1 (by omega)
    have p2 := HA9.out.c 2 (by omega)
    have p3 := HA9.out.c 3 (by omega)
    have p4 := HA9.out.c 4 (by omega)
    have p5 := HA9.out.c 5 (by omega)
    have p6 := HA9.out.c 6 (by omega)
    simp at p0 p1 p2 p3 p4 p5 p6
    refine bodyPost_ret (v := siV 0 0 none 0 0 none 0 0 0 0 0) ?_ rfl ⟨rfl, HB9.out⟩
    simp [results, Tryz.results41, go_sem, siV, p0, p1, p2, p3, p4, p5, p6]
  | own t =>
    obtain ⟨g, ev, q, h1, h2, _, _⟩ := hq
    have k2 : w1.cell? ⟨s, 2, none⟩ = some (.pointer (some ⟨g, 0, none⟩)) := h1.c 2 (by omega)
    have e1 := eqQ7 g
    have C2 := rsight_s h2 (hlen t rfl)
    have HB1 := Lib.hid hB1
    have HR1 := Lib.hid hR1
    have HW1 := Lib.hid hw1
    have h3L : 3 ≤ t.L := h2.sz.1
    clear h h1 h2 hB1 hR1 hw1 hlen
    generalize hS : 2 ^ t.L = S at C2
    unfold siV at C2
    go_enter Tryz.func41, Tryz.ntmps41
    go_upto_region 1 with fail
    rw [HW1.out]
    go_wp2_with fail
    refine C2.mono ?_
    rintro e w3 ⟨ca, cc, ea, ec, rfl, hc1, hc2, hB3⟩
    clear C2
    have hR3 := HR1.out.of hB3 (by omega)
    have q0 : w3.cell? ⟨w.heap.size, 0, none⟩ = some (.int .i64 0) := hR3.c 0 (by omega)
    have q1 : w3.cell? ⟨w.heap.size, 1, none⟩ = some (.int .i64 0) := hR3.c 1 (by omega)
    have q2 : w3.cell? ⟨w.heap.size, 2, none⟩ = some (.slice none 0 0) := hR3.c 2 (by omega)
    have q3 : w3.cell? ⟨w.heap.size, 3, none⟩ = some (.slice none 0 0) := hR3.c 3 (by omega)
    have q4 : w3.cell? ⟨w.heap.size, 4, none⟩ = some (.int .i64 0) := hR3.c 4 (by omega)
    have q5 : w3.cell? ⟨w.heap.size, 5, none⟩ = some (.int .i64 0) := hR3.c 5 (by omega)
    have q6 : w3.cell? ⟨w.heap.size, 6, none⟩ = some (.int .i64 0) := hR3.c 6 (by omega)
    have z0 := hR3.z 0
    have z1 := hR3.z 1
    have z2 := hR3.z 2
    have z3 := hR3.z 3
    have z4 := hR3.z 4
    have z5 := hR3.z 5
    have z6 := hR3.z 6
    have h8 : 2 < 2 ^ t.L := Nat.lt_of_lt_of_le (by decide : 2 < 2 ^ 3) (Nat.pow_le_pow_right (by decide) h3L)
    rw [hS] at h8
    have HA9 := Lib.hid (put7_blk hR3 (.int .i64 (t.L : Int)) (.int .i64 (wd t.L : Int)) (.slice ca S cc) (.slice ea t.es.length ec) (.int .i64 (t.live : Int)) (.int .i64 (t.births : Int)) (.int .i64 (t.made : Int)))
    have HB9 := Lib.hid (put7_below (HB1.out.trans (hB3.mono HB1.out.size)) w.heap.size (Nat.le_refl _) (.int .i64 (t.L : Int)) (.int .i64 (wd t.L : Int)) (.slice ca S cc) (.slice ea t.es.length ec) (.int .i64 (t.live : Int)) (.int .i64 (t.births : Int)) (.int .i64 (t.made : Int)))
    have HC9 := Lib.hid (sln_put7 hc1 hR3 h8 (.int .i64 (t.L : Int)) (.int .i64 (wd t.L : Int)) (.slice ca S cc) (.slice ea t.es.length ec) (.int .i64 (t.live : Int)) (.int .i64 (t.births : Int)) (.int .i64 (t.made : Int)))
    have HE9 := Lib.hid (sle_put7 hc2 hR3 (.int .i64 (t.L : Int)) (.int .i64 (wd t.L : Int)) (.slice ca S cc) (.slice ea t.es.length ec) (.int .i64 (t.live : Int)) (.int .i64 (t.births : Int)) (.int .i64 (t.made : Int)))
    clear hR3 hc1 hc2 hB3
    unfold put7 at HA9 HB9 HC9 HE9
    go_wp2_with fail
    generalize World.setCell (World.setCell (World.setCell (World.setCell (World.setCell (World.setCell (World.setCell w3 _ _) _ _) _ _) _ _) _ _) _ _) _ _ = w9 at *
    have p0 := HA9.out.c 0 (by omega)
    have p1 := HA9.out.c 1 (by omega)
    have p2 := HA9.out.c 2 (by omega)
    have p3 := HA9.out.c 3 (by omega)
    have p4 := HA9.out.c 4 (by omega)
    have p5 := HA9.out.c 5 (by omega)
    have p6 := HA9.out.c 6 (by omega)
    simp at p0 p1 p2 p3 p4 p5 p6
    have HF : SiQ w.heap.size (.own t) (Ending.returned (siV (t.L : Int) (wd t.L : Int) ca S cc ea t.es.length ec (t.live : Int) (t.births : Int) (t.made : Int))) w9 := by
      subst hS
      exact ⟨ca, cc, ea, ec, rfl, HC9.out, HE9.out, HB9.out.size⟩
    refine bodyPost_ret (v := siV (t.L : Int) (wd t.L : Int) ca S cc ea t.es.length ec (t.live : Int) (t.births : Int) (t.made : Int)) ?_ rfl ⟨HF, HB9.out⟩
    simp [results, Tryz.results41, go_sem, siV, p0, p1, p2, p3, p4, p5, p6]
end Go.Proofs.YtcbhpjpkjmlcnaaGreat
namespace Go.Proofs.YtcbhpjpkjmlcnaaGreat
open Go.RowKit Go.WideShapes

theorem below_grownN {B n z : Nat} {w wr w1 : World} {v : Value} {xs : List Value} {o : Obj} {t : TypeId} (hb : Below B w wr) (hB : B ≤ w.heap.size) (hown : wr.ownsRow B t z v n xs) (hg : (wr.alloc o).grownBy w1 v.ownBlock) : Below B w w1 := by
  refine (hb.alloc (Nat.le_trans hB hb.size) o).grown hg (by simp; have := hb.size; omega) (fun k e => ?_)
  exact (hown.lt k e).1
/-- Behind k rounds. -/
def NaR (w2 : World) (all : List ByteArray) (es : List En) (k : Nat) (wr : World) (v : Value) : Prop := NsB w2.heap.size wr v (nmsOf all (es.take k)) ∧ Below w2.heap.size w2 wr
set_option maxRecDepth 100000 in
set_option maxHeartbeats 8000000 in
theorem rnames_any {w : World} {f : Nat} {F : Fa} {mr : Value} {XF : Nat → Prop} {c0 : Nat} (hF : QfX w f F mr XF) (hO : F.Ok hsT c0) (hc0 : c0 ≤ 49000) :
    Calls Tryz.prog 15 #[.pointer (some ⟨f, 0, none⟩)] w fun e w' => ∃ v, e = .returned v ∧ NsB w.heap.size w' v (nmsOf F.all F.kt.es) ∧ Below w.heap.size w w' := by
  obtain ⟨i0, hi0, hz0, hz1, hz2⟩ := info_parts Tryz.infoStr
  obtain ⟨g, ev, q, nv, hQ, _⟩ := hF
  have h256 : F.kt.es.length ≤ 256 := Nat.le_trans hO.len hO.room
  have hnames : F.all.length ≤ 100000 := hO.ktf (by omega)
  have f2 : w.cell? ⟨f, 2, none⟩ = some (.pointer (some ⟨g, 0, none⟩)) := hQ.hd.c 2 (by omega)
  have f3 : w.cell? ⟨f, 3, none⟩ = some nv := hQ.hd.c 3 (by omega)
  obtain ⟨an, capn, gn, rfl, hcapn, hgn, hcn⟩ := hQ.ns.opn
  have C1 := rlive_any hQ.kt (by rw [Tb.sh_len]; omega)
  rw [show liveL F.kt.sh.es = F.kt.es by show liveL (shw F.kt.es) = _; rw [liveL_sh]; exact live_all hO.dead] at C1
  have HNL := Lib.hid hO.nl
  have HCN : Hid (∀ i, i < F.all.length → an = some ⟨gn, 0, none⟩) := fun i hi => (hgn (by omega)).1
  have HCA := Lib.hid hcn
  clear hQ hO hcn hgn
  go_enter Tryz.func15, Tryz.ntmps15
  go_wp2_with fail
  refine C1.mono ?_
  rintro e w2 ⟨lv, rfl, hE, hB2⟩
  clear C1
  obtain ⟨ae, cape, ge, rfl, hpe, hro⟩ := hE.es.open
  have HPE : Hid (0 < F.kt.es.length → ae = some ⟨ge, 0, none⟩ ∧ ge < w2.heap.size) := fun h0 => ⟨(hpe h0).1, hE.es.lt ge (hpe h0).2.1⟩
  have HRO := Lib.hid hro
  have HB2 := Lib.hid hB2
  have hsz2 := hB2.size
  clear hE hpe hro hB2
  go_wp2_with fail
  go_loopw [4, 5] (fun lv iv wr => ∃ k : Nat, k ≤ F.kt.es.length ∧ iv = .int .i64 (k : Int) ∧ NaR w2 F.all F.kt.es k wr lv) (fun _ iv _ => F.kt.es.length - (intOf iv).toNat)
  case atStart => exact ⟨0, Nat.zero_le _, rfl, ⟨rfl, Or.inl ⟨rfl, rfl⟩⟩, Below.refl _ _⟩
  case round =>
    obtain ⟨k, hk, rfl, hN, hB⟩ := hrel
    by_cases hlt : k < F.kt.es.length
    · have t1 : (k : Int) < (F.kt.es.length : Int) := by omega
      obtain ⟨kk, nmk, hnk, hkey, _⟩ := HNL.out.nm _ (nth_mem hlt)
      have hkk := (List.getElem?_eq_some_iff.1 hnk).1
      obtain rfl := HCN.out kk hkk
      obtain ⟨rfl, lge⟩ := HPE.out (by omega)
      have hBw : Below w.heap.size w wr := HB2.out.trans (hB.mono hsz2)
      have x3 : wr.cell? ⟨f, 3, none⟩ = some (.slice (some ⟨gn, 0, none⟩) F.all.length capn) := (hBw.cell (p := ⟨f, 3, none⟩) (lt_of_cell f3)).trans f3
      have xn0 := HCA.out kk nmk hnk
      have xn : wr.cell? ⟨gn, kk, none⟩ = some (.string nmk) := (hBw.cell (p := ⟨gn, kk, none⟩) (lt_of_cell xn0)).trans xn0
      have xk0 := HRO.out.c2 k hlt
      have xk : wr.cell? ⟨ge, k * 5 + 2, none⟩ = some (.int .i64 (kk : Int)) := by rw [hkey] at xk0; exact (hB.cell (p := ⟨ge, k * 5 + 2, none⟩) (lt_of_cell xk0)).trans xk0
      have t2 : (kk : Int) < (F.all.length : Int) := by omega
      have al := fun (j o : Nat) (u : Value) (h : wr.cell? ⟨j, o, none⟩ = some u) => (((Below.refl _ wr).alloc (Nat.le_refl _) (.cells #[.string nmk] 9)).cell (p := ⟨j, o, none⟩) (lt_of_cell h)).trans h
      have a3 := al _ _ _ x3
      have an' := al _ _ _ xn
      have ak := al _ _ _ xk
      have hown : wr.drew.ownsRow w2.heap.size 9 1 u4 k ((nmsOf F.all (F.kt.es.take k)).map Value.string) := by
        have h := hN
        unfold NsB at h
        rw [show (nmsOf F.all (F.kt.es.take k)).length = k by unfold nmsOf; rw [List.length_map, List.length_take]; omega] at h
        exact h
      have FIN : Hid (∀ (v' : Value) (w5 : World), w5.ownsRow w2.heap.size 9 1 v' (k + 1) ((nmsOf F.all (F.kt.es.take k)).map Value.string ++ [.string nmk]) → (wr.drew.alloc (.cells #[.string nmk] 9)).grownBy w5 u4.ownBlock → NaR w2 F.all F.kt.es (k + 1) w5 v') := fun v' w5 g1 g2 => by
        refine ⟨?_, below_grownN (hB.drew) (Nat.le_refl _) hown g2⟩
        have e1 : nmsOf F.all (F.kt.es.take (k + 1)) = nmsOf F.all (F.kt.es.take k) ++ [nmk] := by
          rw [take_succ_nth hlt]
          unfold nmsOf
          rw [List.map_append]
          show _ ++ [nmOf F.all (nth F.kt.es k).key] = _
          rw [hkey, nmOf_at hnk]
        unfold NsB
        rw [e1, List.length_append, List.map_append]
        rw [show (nmsOf F.all (F.kt.es.take k)).length = k by unfold nmsOf; rw [List.length_map, List.length_take]; omega]
        exact g1
      obtain ⟨a0, cap0, hv0⟩ := ownsRow_shape hown
      subst hv0
      have hszr := hB.size
      have e5 : IntKind.i64.wrap ((k : Int) + 1) = ((k + 1 : Nat) : Int) := by rw [i64_small (by omega) (by omega)]; omega
      clear hN hB hBw hnk hkey xn0 xk0 al
      generalize (nmsOf F.all (F.kt.es.take k)).map Value.string = R at *
      generalize F.all.length = L at *
      go_wp2_with fail
      go_region_law (refine step_append_own rfl _ _ 61 rfl w2.heap.size 9 i0 (.string ByteArray.empty) 1 16 Tryz.underlying61 hi0 hz0 hz1 hz2 rfl (by decide) (.slice a0 k cap0) k R (by simp [Act.eval]) (World.ownsRow.alloc hown _) ⟨wr.drew.heap.size, 0, none⟩ 1 1 [.string nmk] (by simp [Act.eval]) rfl (newR_one _ _ _) (by simp [Value.oneCell']) (by unfold maxLen; omega) (by omega) (by simp; omega) ?_; intro v' w5 hown2 hgrow hat; have HN := Lib.hid (FIN.out v' w5 hown2 hgrow); clear hown2 hgrow hat)
      all_goals
        go_wp2_with fail
        go_roundw
        case rel => exact ⟨k + 1, by omega, by go_num, HN.out⟩
        case measure => simp [intOf]; omega
    · have t1 : ¬ (k : Int) < (F.kt.es.length : Int) := by omega
      obtain rfl : k = F.kt.es.length := by omega
      rw [List.take_length] at hN
      have HQ : Hid (NsB w.heap.size wr u4 (nmsOf F.all F.kt.es) ∧ Below w.heap.size w wr) := by
        refine ⟨?_, HB2.out.trans (hB.mono hsz2)⟩
        unfold NsB at hN ⊢
        exact hN.mono hsz2
      clear hN hB
      go_wp2
      go_ret
      exact ⟨_, rfl, HQ.out.1, HQ.out.2⟩
end Go.Proofs.YtcbhpjpkjmlcnaaGreat
namespace Go.Proofs.YtcbhpjpkjmlcnaaGreat
open Go.ChangeShapes Go.WideShapes Go.ChangeAt Go.RowKit Go.Joins

/-- A row of texts. -/
def Strs (W : World) (a : Option Addr) (n c : Nat) (G : Nat → ByteArray) : Prop :=
  n ≤ c ∧ ∃ b off, (0 < n → a = some ⟨b, off, none⟩ ∧ b < W.heap.size) ∧ ∀ i, i < n → W.cell? ⟨b, off + i, none⟩ = some (.string (G i))
theorem Tryz.cellsStr1 : Tryz.prog.cellsOf 9 = 1 := by kernel_rfl
theorem one_add (b off q : Nat) : (⟨b, off, none⟩ : Addr).add q = ⟨b, off + q, none⟩ := by
  unfold Addr.add
  split <;> simp_all
set_option maxRecDepth 100000 in
theorem strs_open {H : Type} {enc : TypeId × Value → H} {W : World} {r : Reach} {base : Nat} {v : Value} {d : DataW H} {p : List MemPlace} (hv : Value.okWide Tryz.prog W r base 61 v) (h : DataW.Trod enc Tryz.prog W 0 (fun _ => true) true 61 v d p) :
    ∃ a n c G, v = .slice a n c ∧ Strs W a n c G := by
  obtain ⟨a0, n0, c0, rfl⟩ := okWide_slice Tryz.underlying61 hv
  obtain ⟨fuel, hf⟩ := h
  rcases Deep.open_slice Tryz.underlying61 hf with ⟨hcs, _⟩ | ⟨a, len, cap, m, n, D, Pl, hcs, hb, hl, hm, hmm, _, hx⟩
  · simp [Value.cells] at hcs
    obtain ⟨rfl, rfl, rfl⟩ := hcs
    exact ⟨none, 0, 0, fun _ => ByteArray.empty, rfl, Nat.le_refl _, 0, 0, fun h => absurd h (by omega), fun i h => absurd h (by omega)⟩
  · simp [Value.cells] at hcs
    obtain ⟨rfl, rfl, rfl⟩ := hcs
    simp only [if_true] at hmm
    have each : ∀ i, i < m → ∃ q : ByteArray, W.cell? (a.add i) = some (.string q) := by
      intro i hi
      obtain ⟨cs', h1, h2⟩ := hx i hi
      rw [Tryz.cellsStr1] at h1
      obtain ⟨_, hlen, hcell⟩ := World.cells?_some h1
      match cs', hlen with
      | [v0], _ =>
        obtain ⟨z0, e0, _⟩ := DataW.trod_string Tryz.underlying9 h2
        simp only [List.cons.injEq, and_true] at e0
        subst e0
        have hc0 := hcell 0 (by omega)
        rw [Deep.add_add] at hc0
        exact ⟨z0, by simpa using hc0⟩
    obtain ⟨q, hq⟩ := Deep.choose_lt each
    obtain ⟨b, off, spot⟩ := a
    have hsp : 0 < n0 → spot = none := fun h0 => by
      have := hq 0 (by omega)
      simpa [Addr.add] using World.cell?_spot this
    refine ⟨_, _, _, q, rfl, hl, b, off, fun h0 => ?_, fun i hi => ?_⟩
    · obtain rfl := hsp h0
      have hc := hq 0 (by omega)
      rw [one_add] at hc
      exact ⟨rfl, lt_of_cell hc⟩
    · obtain rfl := hsp (by omega)
      have hc := hq i (by omega)
      rw [one_add] at hc
      exact hc
/-- A row of pairs that can be read. -/
def RdP (w : World) (a : Option Addr) (l : List (ByteArray × Int)) : Prop := ∃ g, (0 < l.length → a = some ⟨g, 0, none⟩) ∧ ∀ j, j < l.length → w.cell? ⟨g, j * 2, none⟩ = some (.string (l[j]?.getD (ByteArray.empty, 0)).1) ∧ w.cell? ⟨g, j * 2 + 1, none⟩ = some (.int .i64 (l[j]?.getD (ByteArray.empty, 0)).2)
theorem pcl_get : ∀ (l : List (ByteArray × Int)) (j : Nat), j < l.length → (pcl l)[j * 2]? = some (.string (l[j]?.getD (ByteArray.empty, 0)).1) ∧ (pcl l)[j * 2 + 1]? = some (.int .i64 (l[j]?.getD (ByteArray.empty, 0)).2)
  | [], j, h => absurd h (by simp)
  | p :: l, 0, _ => ⟨rfl, rfl⟩
  | p :: l, j + 1, h => by
    have := pcl_get l j (by simpa using h)
    rw [show (j + 1) * 2 = j * 2 + 1 + 1 by omega]
    exact this
theorem PsB.rd {B : Nat} {w : World} {v : Value} {l : List (ByteArray × Int)} (h : PsB B w v l) : ∃ a cap, v = .slice a l.length cap ∧ RdP w a l := by
  rcases h.2 with ⟨h1, h2⟩ | ⟨g, cap, cur, h1, h2⟩
  · refine ⟨none, 0, by rw [h1, h2], 0, fun h => by omega, fun j hj => by omega⟩
  · refine ⟨_, cap, h1, g, fun _ => rfl, fun j hj => ?_⟩
    have h3 : w.ownsRow B 146 2 (.slice (some ⟨g, 0, none⟩) l.length cap) l.length (pcl l) := by rw [← h1]; exact h
    have h4 := World.ownsRow.cellAt h3 (j * 2) (by omega)
    have h5 := World.ownsRow.cellAt h3 (j * 2 + 1) (by omega)
    rw [h4, h5]
    exact pcl_get l j hj
theorem RdP.below {w w' : World} {a : Option Addr} {l : List (ByteArray × Int)} (h : RdP w a l) (hb : Below w.heap.size w w') : RdP w' a l := by
  obtain ⟨g, h1, h2⟩ := h
  exact ⟨g, h1, fun j hj => ⟨(hb.cell (p := ⟨g, j * 2, none⟩) (lt_of_cell (h2 j hj).1)).trans (h2 j hj).1, (hb.cell (p := ⟨g, j * 2 + 1, none⟩) (lt_of_cell (h2 j hj).2)).trans (h2 j hj).2⟩⟩
theorem neP (s : ByteArray) (v : Int) (w : World) : (binOp .neq 146 (.agg #[.string s, .int .i64 v]) (.agg #[.string s, .int .i64 v])).run Tryz.prog w = .ok (.bool false) w := by
  have hu : Tryz.prog.underlying 146 = some (.struct (Tryz.prog.fieldsOf 146)) := by kernel_rfl
  have hp : Tryz.prog.stoodInHeld 146 = false := by kernel_rfl
  rw [run_neq_struct, run_equalIn_agg w 9999 _ _ _ hu hp]
  have hF : (Tryz.prog.fieldsOf 146).toList = [⟨"Name", 9, 0, false, "", "", 0⟩, ⟨"Value", 3, 1, false, "", "", 16⟩] := by kernel_rfl
  rw [hF]
  simp [Op.eqFields, go_sem]
set_option maxRecDepth 100000 in
set_option maxHeartbeats 1600000 in
theorem pairs10_eq {w : World} {a1 a2 : Option Addr} {c1 c2 : Nat} {l : List (ByteArray × Int)} (h1 : RdP w a1 l) (h2 : RdP w a2 l) (hl : l.length ≤ 100000) :
    Calls Tryz.prog 37 #[.slice a1 l.length c1, .slice a2 l.length c2] w fun e w' => e = .returned (.bool true) ∧ Below w.heap.size w w' := by
  obtain ⟨g1, ha1, hc1⟩ := h1
  obtain ⟨g2, ha2, hc2⟩ := h2
  obtain ⟨n, hn⟩ : ∃ n, l.length = n := ⟨_, rfl⟩
  rw [hn] at ha1 ha2 hc1 hc2 hl ⊢
  have HC1 := Lib.hid hc1
  have HC2 := Lib.hid hc2
  have HA1 := Lib.hid ha1
  have HA2 := Lib.hid ha2
  clear hc1 hc2 ha1 ha2 hn
  go_enter Tryz.func37, Tryz.ntmps37
  go_wp2_with fail
  go_loopw [5] (fun iv wr => ∃ i : Nat, i ≤ n ∧ iv = .int .i64 (i : Int) ∧ Below w.heap.size w wr) (fun iv _ => n - (intOf iv).toNat)
  case atStart => exact ⟨0, Nat.zero_le _, rfl, Below.refl _ _⟩
  case round =>
    obtain ⟨i, hi, rfl, hB⟩ := hrel
    by_cases hin : i < n
    · have ti : (i : Int) < (n : Int) := by omega
      have e1 := HA1.out (by omega)
      have e2 := HA2.out (by omega)
      subst e1
      subst e2
      obtain ⟨q1, r1⟩ := HC1.out i hin
      obtain ⟨q2, r2⟩ := HC2.out i hin
      have p1 : wr.drew.cell? ⟨g1, i * 2, none⟩ = some (.string (l[i]?.getD (ByteArray.empty, 0)).1) := (hB.cell (p := ⟨g1, i * 2, none⟩) (lt_of_cell q1)).trans q1
      have p2 : wr.drew.cell? ⟨g2, i * 2, none⟩ = some (.string (l[i]?.getD (ByteArray.empty, 0)).1) := (hB.cell (p := ⟨g2, i * 2, none⟩) (lt_of_cell q2)).trans q2
      have p3 : wr.drew.cell? ⟨g1, i * 2 + 1, none⟩ = some (.int .i64 (l[i]?.getD (ByteArray.empty, 0)).2) := (hB.cell (p := ⟨g1, i * 2 + 1, none⟩) (lt_of_cell r1)).trans r1
      have p4 : wr.drew.cell? ⟨g2, i * 2 + 1, none⟩ = some (.int .i64 (l[i]?.getD (ByteArray.empty, 0)).2) := (hB.cell (p := ⟨g2, i * 2 + 1, none⟩) (lt_of_cell r2)).trans r2
      have e5 : IntKind.i64.wrap ((i : Int) + 1) = ((i + 1 : Nat) : Int) := by rw [i64_small (by omega) (by omega)]; omega
      generalize (l[i]?.getD (ByteArray.empty, 0)).1 = x at *
      generalize (l[i]?.getD (ByteArray.empty, 0)).2 = y at *
      have hne := neP x y
      clear q1 q2 r1 r2
      go_wp2_with fail
      go_region_held3 (fun V => (V.cell? ⟨g1, i * 2, none⟩ = some (.string x) ∧ V.cell? ⟨g2, i * 2, none⟩ = some (.string x)) ∧ V.cell? ⟨g1, i * 2 + 1, none⟩ = some (.int .i64 y) ∧ V.cell? ⟨g2, i * 2 + 1, none⟩ = some (.int .i64 y)) (first | with_reducible exact ⟨⟨p1, p2⟩, p3, p4⟩ | fail) (fail)
      go_wp2_with fail
      go_roundw
      case rel => exact ⟨i + 1, by omega, rfl, hB.drew⟩
      case measure => simp [intOf]; omega
    · have ti : ¬ (i : Int) < (n : Int) := by omega
      go_wp2
      go_ret
      exact ⟨rfl, hB⟩
theorem mR_pairs (a : Option Addr) (w : World) : (method 342 117 (.pointer a) "lexicon/shared.pairs").run Tryz.prog w = .ok (170, .pointer a) w := by kernel_rfl
theorem mO_pairs (a : Option Addr) (w : World) : (method 342 229 (.pointer a) "lexicon/shared.pairs").run Tryz.prog w = .ok (211, .pointer a) w := by kernel_rfl
/-- The pairs of a namespace. -/
def prsS (F : Fa) : Stn → List (ByteArray × Int)
  | .row vs => prsN F.all F.kt.es vs vs.length
  | .own t => prsO F.all (liveL t.es)
set_option maxRecDepth 100000 in
theorem spairs_any {w : World} {f : Nat} {F : Fa} {mv : Value} {XF : Nat → Prop} {s : Nat} {st : Stn} {v : Nat} {XS : Nat → Prop} {c0 : Nat} (h : Fs w f F mv XF s st v XS) (hO : F.Ok hsT c0) (hst : st.Ok hsT F c0) (hr : F.kt.es.length ≤ 256) :
    Calls Tryz.prog 38 #[.pointer (some ⟨s, 0, none⟩)] w fun e w' => ∃ v, e = .returned v ∧ PsB w.heap.size w' v (prsS F st) ∧ Below w.heap.size w w' := by
  obtain ⟨g, gi, r, h', ev, mb, nv, hFa, _⟩ := h.fm
  obtain ⟨q, XQ, h1, h2, _, _⟩ := h.sm
  have CN := isNothing_no (h1.c 1 (by omega))
  cases st with
  | row vs =>
    obtain ⟨vv, hqb, hqv, _, _⟩ := h2
    have x1 : w.cell? ⟨s, 1, none⟩ = some (.iface 117 (.pointer (some ⟨q, 0, none⟩))) := h1.c 1 (by omega)
    have hvl : vs.length ≤ F.kt.es.length := hst
    have CP : Calls Tryz.prog 170 #[.pointer (some ⟨q, 0, none⟩)] w fun e w' => ∃ v, e = .returned v ∧ PsB w.heap.size w' v (prsS F (.row vs)) ∧ Below w.heap.size w w' := rowPairs_any hFa hO.nl hqb hqv hvl (by omega) hO.dead
    have mp := mR_pairs (some ⟨q, 0, none⟩)
    clear h hO hst hFa h1 hqb hqv
    go_enter Tryz.func38, Tryz.ntmps38
    go_wp2_with fail
    refine CN.mono ?_
    rintro e w0 ⟨rfl, rfl⟩
    clear CN
    go_wp2_with fail
    refine CP.mono ?_
    rintro e w1 ⟨v1, rfl, hP, hB⟩
    clear CP
    have HP := Lib.hid hP
    clear hP
    go_wp2
    go_ret
    exact ⟨_, rfl, HP.out, hB⟩
  | own t =>
    obtain ⟨tg, tgi, tr, th, tev, hqb, hqd, _, _⟩ := h2
    have x1 : w.cell? ⟨s, 1, none⟩ = some (.iface 229 (.pointer (some ⟨q, 0, none⟩))) := h1.c 1 (by omega)
    have CP : Calls Tryz.prog 211 #[.pointer (some ⟨q, 0, none⟩)] w fun e w' => ∃ v, e = .returned v ∧ PsB w.heap.size w' v (prsS F (.own t)) ∧ Below w.heap.size w w' := ownPairs_any hFa hqb hqd hst.2.1 (by have := hst.1.few; have := hst.1.all; omega)
    have mp := mO_pairs (some ⟨q, 0, none⟩)
    clear h hO hst hFa h1 hqb hqd
    go_enter Tryz.func38, Tryz.ntmps38
    go_wp2_with fail
    refine CN.mono ?_
    rintro e w0 ⟨rfl, rfl⟩
    clear CN
    go_wp2_with fail
    refine CP.mono ?_
    rintro e w1 ⟨v1, rfl, hP, hB⟩
    clear CP
    have HP := Lib.hid hP
    clear hP
    go_wp2
    go_ret
    exact ⟨_, rfl, HP.out, hB⟩
end Go.Proofs.YtcbhpjpkjmlcnaaGreat
namespace Go.Proofs.YtcbhpjpkjmlcnaaGreat
open Go.RowKit Go.WideShapes

section
variable {P : Program} {ops : Array Oper} {Q : Exit → Act → World → Prop} {md : Region.Mode} {S : World → Prop}
/-- Take number i first, its slot written out. -/
theorem takeQ_at {i : Nat} {oi : Oper} {v : Value} {d : Option Nat} {fuel : Nat} {listed : Array Bool} {a : Act} {w : World} (hi : ops[i]? = some oi) (hd : oi.dst = d)
    (hs : Region.noSelect ops = true) (hf : Region.free md ops listed i = true) (hr : (Region.ready md ops listed).contains i = true)
    (hQ : ∀ c a w, Q (.panic c) (a.put d v) w → Q (.panic c) a w) (hy : YieldsIf P ops S oi v a) (hS : S w)
    (h : wpAnyH P md ops Q S fuel (listed.setIfInBounds i true) (a.put d v) w) : wpAnyH P md ops Q S (fuel + 1) listed a w := by
  subst hd
  exact wpAnyH_take hi hs hf hr hQ hy hS h
end
theorem new_pair (w : World) (s : ByteArray) (x : Int) (t : TypeId) : ∀ j u, [Value.string s, .int .i64 x][j]? = some u → (w.alloc (.cells #[.string s, .int .i64 x] t)).cell? (Addr.add ⟨w.heap.size, 0, none⟩ j) = some u := by
  intro j u hj
  rw [WideShapes.add_plain, World.cell?_alloc_at _ _ _ _ rfl]
  simpa using hj
theorem psB_snoc {B n : Nat} {w : World} {v : Value} {l : List (ByteArray × Int)} {s : ByteArray} {x : Int} (hn : l.length = n) (h : w.ownsRow B 146 2 v (n + 1) (pcl l ++ [.string s, .int .i64 x])) : PsB B w v (l ++ [(s, x)]) := by
  unfold PsB
  rw [List.length_append, pcl_app, hn]
  exact h
theorem psB_at {B n : Nat} {w : World} {v : Value} {l : List (ByteArray × Int)} (hn : l.length = n) (h : PsB B w v l) : w.ownsRow B 146 2 v n (pcl l) := by
  unfold PsB at h
  rw [hn] at h
  exact h
set_option maxRecDepth 100000 in
set_option maxHeartbeats 8000000 in
theorem rpairs_row {w : World} {f s : Nat} {F : Fa} {mr : Value} {XF XS : Nat → Prop} {vs : List Int} {v : Nat} {c0 : Nat} (h : Qp w f F mr XF s (.row vs) v XS) (hO : F.Ok hsT c0) (hvl : vs.length ≤ F.kt.es.length) :
    Calls Tryz.prog 39 #[.pointer (some ⟨s, 0, none⟩)] w fun e w' => ∃ v, e = .returned v ∧ PsB w.heap.size w' v (prsS F (.row vs)) ∧ Below w.heap.size w w' := by
  obtain ⟨i0, hi0, hz0, hz1, hz2⟩ := info_parts Tryz.infoPair
  obtain ⟨gk, ev, q, nv, hQ, _⟩ := h.fm
  obtain ⟨av, cap, gk2, ae, cape, ge, ⟨s0, s1, s2, f0, f2, g0⟩, ken⟩ := row_view h hO
  obtain ⟨vv, h1, h2, _, _⟩ := h.sm
  have h256 : F.kt.es.length ≤ 256 := Nat.le_trans hO.len hO.room
  have f3 : w.cell? ⟨f, 3, none⟩ = some nv := hQ.hd.c 3 (by omega)
  obtain ⟨an, capn, gn, rfl, hcapn, hgn, hcn⟩ := hQ.ns.opn
  obtain ⟨av2, cap2, gv, hvv, hcap, hvo⟩ := h2.open
  have hs1 : vv = .slice av vs.length cap := by
    have h := h1.c 1 (by omega)
    rw [s1] at h
    injection h with h
    exact h.symm
  obtain ⟨rfl, rfl⟩ : av = av2 ∧ cap = cap2 := by rw [hs1] at hvv; injection hvv with e1 e2 e3; exact ⟨e1, e3⟩
  have HVO := Lib.hid hvo
  have HKEN := Lib.hid ken
  have HNL := Lib.hid hO.nl
  have HCN : Hid (∀ i, i < F.all.length → an = some ⟨gn, 0, none⟩) := fun i hi => (hgn (by omega)).1
  have HCA := Lib.hid hcn
  have HS : Hid (prsS F (.row vs) = prsN F.all F.kt.es vs vs.length) := rfl
  have e1 := eqQ7n
  rw [HS.out]
  clear h hQ hO hcn hgn h1 h2 hvo ken hs1 hvv HS
  go_enter Tryz.func39, Tryz.ntmps39
  go_wp2_with fail
  go_loopw [3, 4] (fun lv iv wr => ∃ k : Nat, k ≤ vs.length ∧ iv = .int .i64 (k : Int) ∧ PsB w.heap.size wr lv (prsN F.all F.kt.es vs k) ∧ Below w.heap.size w wr) (fun _ iv _ => vs.length - (intOf iv).toNat)
  case atStart => exact ⟨0, Nat.zero_le _, rfl, ⟨rfl, Or.inl ⟨rfl, rfl⟩⟩, Below.refl _ _⟩
  case round =>
    clear s2
    obtain ⟨k, hk, rfl, hN, hB⟩ := hrel
    have x0 := (hB.cell (p := ⟨s, 0, none⟩) (lt_of_cell s0)).trans s0
    have x1 := (hB.cell (p := ⟨s, 1, none⟩) (lt_of_cell s1)).trans s1
    by_cases hlt : k < vs.length
    · have t1 : (k : Int) < (vs.length : Int) := by omega
      have tm : (k : Int) < (F.kt.es.length : Int) := by omega
      obtain ⟨kk, nmk, hnk, hkey, _⟩ := HNL.out.nm _ (nth_mem (show k < F.kt.es.length by omega))
      have hkk := (List.getElem?_eq_some_iff.1 hnk).1
      obtain rfl := HCN.out kk hkk
      obtain ⟨rfl, xk0⟩ := HKEN.out k (by omega)
      obtain ⟨rfl, _, _, hgb⟩ := HVO.out (by omega)
      have xv0 := hgb.c k hlt
      rw [hkey] at xk0
      have xn0 := HCA.out kk nmk hnk
      have y2 := (hB.cell (p := ⟨f, 2, none⟩) (lt_of_cell f2)).trans f2
      have y3 := (hB.cell (p := ⟨f, 3, none⟩) (lt_of_cell f3)).trans f3
      have yg := (hB.cell (p := ⟨gk2, 0, none⟩) (lt_of_cell g0)).trans g0
      have xn := (hB.cell (p := ⟨gn, kk, none⟩) (lt_of_cell xn0)).trans xn0
      have xk := (hB.cell (p := ⟨ge, k * 5 + 2, none⟩) (lt_of_cell xk0)).trans xk0
      have xv := (hB.cell (p := ⟨gv, k, none⟩) (lt_of_cell xv0)).trans xv0
      have t2 : (kk : Int) < (F.all.length : Int) := by omega
      have hln := prsN_len F.all F.kt.es vs k
      have hown : wr.drew.ownsRow w.heap.size 146 2 u3 k (pcl (prsN F.all F.kt.es vs k)) := psB_at hln hN
      have FIN : Hid (∀ (v' : Value) (w5 : World), w5.ownsRow w.heap.size 146 2 v' (k + 1) (pcl (prsN F.all F.kt.es vs k) ++ [.string nmk, .int .i64 (vs[k]?.getD 0)]) → (wr.drew.alloc (.cells #[.string nmk, .int .i64 (vs[k]?.getD 0)] 146)).grownBy w5 u3.ownBlock → PsB w.heap.size w5 v' (prsN F.all F.kt.es vs (k + 1)) ∧ Below w.heap.size w w5) := fun v' w5 g1 g2 => by
        refine ⟨?_, below_grownN (hB.drew) (Nat.le_refl _) hown g2⟩
        have e1 : prsN F.all F.kt.es vs (k + 1) = prsN F.all F.kt.es vs k ++ [(nmk, vs[k]?.getD 0)] := by
          show prsN F.all F.kt.es vs k ++ [(nmOf F.all (nth F.kt.es k).key, vs[k]?.getD 0)] = _
          rw [hkey, nmOf_at hnk]
        rw [e1]
        exact psB_snoc hln g1
      obtain ⟨a0, cap0, hv0⟩ := ownsRow_shape hown
      subst hv0
      have hszr := hB.size
      have e5 : IntKind.i64.wrap ((k : Int) + 1) = ((k + 1 : Nat) : Int) := by rw [i64_small (by omega) (by omega)]; omega
      have SK : Hid (∀ V, Below w.heap.size w V → V.cell? ⟨s, 0, none⟩ = some (.pointer (some ⟨f, 0, none⟩)) ∧ V.cell? ⟨s, 1, none⟩ = some (.slice (some ⟨gv, 0, none⟩) vs.length cap) ∧ V.cell? ⟨f, 2, none⟩ = some (.pointer (some ⟨gk2, 0, none⟩)) ∧ V.cell? ⟨f, 3, none⟩ = some (.slice (some ⟨gn, 0, none⟩) F.all.length capn) ∧ V.cell? ⟨gk2, 0, none⟩ = some (.slice (some ⟨ge, 0, none⟩) F.kt.es.length cape) ∧ V.cell? ⟨gn, kk, none⟩ = some (.string nmk) ∧ V.cell? ⟨ge, k * 5 + 2, none⟩ = some (.int .i64 (kk : Int)) ∧ V.cell? ⟨gv, k, none⟩ = some (.int .i64 (vs[k]?.getD 0))) := fun V e => ⟨(e.cell (p := ⟨s, 0, none⟩) (lt_of_cell s0)).trans s0, (e.cell (p := ⟨s, 1, none⟩) (lt_of_cell s1)).trans s1, (e.cell (p := ⟨f, 2, none⟩) (lt_of_cell f2)).trans f2, (e.cell (p := ⟨f, 3, none⟩) (lt_of_cell f3)).trans f3, (e.cell (p := ⟨gk2, 0, none⟩) (lt_of_cell g0)).trans g0, (e.cell (p := ⟨gn, kk, none⟩) (lt_of_cell xn0)).trans xn0, (e.cell (p := ⟨ge, k * 5 + 2, none⟩) (lt_of_cell xk0)).trans xk0, (e.cell (p := ⟨gv, k, none⟩) (lt_of_cell xv0)).trans xv0⟩
      have sA := SK.out (wr.drew.alloc (.cells #[.string nmk, .int .i64 (vs[k]?.getD 0)] 146)) ((hB.drew).alloc (by show w.heap.size ≤ wr.heap.size; exact hB.size) _)
      clear hN hB hnk hkey xn0 xk0 xv0 hgb hln
      generalize pcl (prsN F.all F.kt.es vs k) = R at *
      generalize vs[k]?.getD 0 = xx at *
      generalize F.all.length = L at *
      go_upto_region 6 with fail
      refine wp_region_noPanic ?_
      refine wp_region_held_drew (S := fun V => V.cell? ⟨s, 0, none⟩ = some (.pointer (some ⟨f, 0, none⟩)) ∧ V.cell? ⟨s, 1, none⟩ = some (.slice (some ⟨gv, 0, none⟩) vs.length cap) ∧ V.cell? ⟨f, 2, none⟩ = some (.pointer (some ⟨gk2, 0, none⟩)) ∧ V.cell? ⟨f, 3, none⟩ = some (.slice (some ⟨gn, 0, none⟩) L capn) ∧ V.cell? ⟨gk2, 0, none⟩ = some (.slice (some ⟨ge, 0, none⟩) F.kt.es.length cape) ∧ V.cell? ⟨gn, kk, none⟩ = some (.string nmk) ∧ V.cell? ⟨ge, k * 5 + 2, none⟩ = some (.int .i64 (kk : Int)) ∧ V.cell? ⟨gv, k, none⟩ = some (.int .i64 xx)) (by kernel_rfl) ⟨x0, x1, y2, y3, yg, xn, xk, xv⟩ (fun hSc => ?_)
      refine takeQ_at (i := 0) (d := some 21) (v := ?_) rfl rfl (by kernel_rfl) (by kernel_rfl) (by kernel_rfl) (fun _ _ _ h => h) (Or.inl ⟨by rfl, ?hy⟩) hSc ?_
      case hy => (intro w hSw; (try dsimp only at hSw); go_simp; try with_reducible rfl)
      simp only [Act.put, List.setIfInBounds_toArray, List.set_cons_zero, List.set_cons_succ]
      refine takeQ_at (i := 1) (d := some 22) (v := ?_) rfl rfl (by kernel_rfl) (by kernel_rfl) (by kernel_rfl) (fun _ _ _ h => h) (Or.inl ⟨by rfl, ?hy⟩) hSc ?_
      case hy => (intro w hSw; (try dsimp only at hSw); go_simp; try with_reducible rfl)
      simp only [Act.put, List.setIfInBounds_toArray, List.set_cons_zero, List.set_cons_succ]
      refine takeQ_at (i := 2) (d := some 23) (v := ?_) rfl rfl (by kernel_rfl) (by kernel_rfl) (by kernel_rfl) (fun _ _ _ h => h) (Or.inl ⟨by rfl, ?hy⟩) hSc ?_
      case hy => (intro w hSw; (try dsimp only at hSw); go_simp; try with_reducible rfl)
      simp only [Act.put, List.setIfInBounds_toArray, List.set_cons_zero, List.set_cons_succ]
      refine takeQ_at (i := 3) (d := some 24) (v := ?_) rfl rfl (by kernel_rfl) (by kernel_rfl) (by kernel_rfl) (fun _ _ _ h => h) (Or.inl ⟨by rfl, ?hy⟩) hSc ?_
      case hy => (intro w hSw; (try dsimp only at hSw); go_simp; try with_reducible rfl)
      simp only [Act.put, List.setIfInBounds_toArray, List.set_cons_zero, List.set_cons_succ]
      refine takeQ_at (i := 4) (d := some 25) (v := ?_) rfl rfl (by kernel_rfl) (by kernel_rfl) (by kernel_rfl) (fun _ _ _ h => h) (Or.inl ⟨by rfl, ?hy⟩) hSc ?_
      case hy => (intro w hSw; (try dsimp only at hSw); go_simp; try with_reducible rfl)
      simp only [Act.put, List.setIfInBounds_toArray, List.set_cons_zero, List.set_cons_succ]
      refine takeQ_at (i := 5) (d := some 26) (v := ?_) rfl rfl (by kernel_rfl) (by kernel_rfl) (by kernel_rfl) (fun _ _ _ h => h) (Or.inl ⟨by rfl, ?hy⟩) hSc ?_
      case hy => (intro w hSw; (try dsimp only at hSw); go_simp; try with_reducible rfl)
      simp only [Act.put, List.setIfInBounds_toArray, List.set_cons_zero, List.set_cons_succ]
      refine takeQ_at (i := 6) (d := some 27) (v := ?_) rfl rfl (by kernel_rfl) (by kernel_rfl) (by kernel_rfl) (fun _ _ _ h => h) (Or.inl ⟨by rfl, ?hy⟩) hSc ?_
      case hy => (intro w hSw; (try dsimp only at hSw); go_simp; try with_reducible rfl)
      simp only [Act.put, List.setIfInBounds_toArray, List.set_cons_zero, List.set_cons_succ]
      refine takeQ_at (i := 7) (d := some 28) (v := ?_) rfl rfl (by kernel_rfl) (by kernel_rfl) (by kernel_rfl) (fun _ _ _ h => h) (Or.inl ⟨by rfl, ?hy⟩) hSc ?_
      case hy => (intro w hSw; (try dsimp only at hSw); go_simp; try with_reducible rfl)
      simp only [Act.put, List.setIfInBounds_toArray, List.set_cons_zero, List.set_cons_succ]
      refine takeQ_at (i := 8) (d := some 29) (v := ?_) rfl rfl (by kernel_rfl) (by kernel_rfl) (by kernel_rfl) (fun _ _ _ h => h) (Or.inl ⟨by rfl, ?hy⟩) hSc ?_
      case hy => (intro w hSw; (try dsimp only at hSw); go_simp; try with_reducible rfl)
      simp only [Act.put, List.setIfInBounds_toArray, List.set_cons_zero, List.set_cons_succ]
      refine takeQ_at (i := 9) (d := some 30) (v := ?_) rfl rfl (by kernel_rfl) (by kernel_rfl) (by kernel_rfl) (fun _ _ _ h => h) (Or.inl ⟨by rfl, ?hy⟩) hSc ?_
      case hy => (intro w hSw; (try dsimp only at hSw); go_simp; try with_reducible rfl)
      simp only [Act.put, List.setIfInBounds_toArray, List.set_cons_zero, List.set_cons_succ]
      refine takeQ_at (i := 10) (d := some 31) (v := ?_) rfl rfl (by kernel_rfl) (by kernel_rfl) (by kernel_rfl) (fun _ _ _ h => h) (Or.inl ⟨by rfl, ?hy⟩) hSc ?_
      case hy => (intro w hSw; (try dsimp only at hSw); go_simp; try with_reducible rfl)
      simp only [Act.put, List.setIfInBounds_toArray, List.set_cons_zero, List.set_cons_succ]
      refine takeQ_at (i := 11) (d := some 32) (v := ?_) rfl rfl (by kernel_rfl) (by kernel_rfl) (by kernel_rfl) (fun _ _ _ h => h) (Or.inl ⟨by rfl, ?hy⟩) hSc ?_
      case hy => (intro w hSw; (try dsimp only at hSw); go_simp; try with_reducible rfl)
      simp only [Act.put, List.setIfInBounds_toArray, List.set_cons_zero, List.set_cons_succ]
      refine takeQ_at (i := 12) (d := some 33) (v := ?_) rfl rfl (by kernel_rfl) (by kernel_rfl) (by kernel_rfl) (fun _ _ _ h => h) (Or.inl ⟨by rfl, ?hy⟩) hSc ?_
      case hy => (intro w hSw; (try dsimp only at hSw); go_simp; try with_reducible rfl)
      simp only [Act.put, List.setIfInBounds_toArray, List.set_cons_zero, List.set_cons_succ]
      refine takeQ_at (i := 13) (d := some 34) (v := ?_) rfl rfl (by kernel_rfl) (by kernel_rfl) (by kernel_rfl) (fun _ _ _ h => h) (Or.inl ⟨by rfl, ?hy⟩) hSc ?_
      case hy => (intro w hSw; (try dsimp only at hSw); go_simp; try with_reducible rfl)
      simp only [Act.put, List.setIfInBounds_toArray, List.set_cons_zero, List.set_cons_succ]
      refine takeQ_at (i := 14) (d := some 35) (v := ?_) rfl rfl (by kernel_rfl) (by kernel_rfl) (by kernel_rfl) (fun _ _ _ h => h) (Or.inl ⟨by rfl, ?hy⟩) hSc ?_
      case hy => (intro w hSw; (try dsimp only at hSw); go_simp; try with_reducible rfl)
      simp only [Act.put, List.setIfInBounds_toArray, List.set_cons_zero, List.set_cons_succ]
      refine takeQ_at (i := 15) (d := some 36) (v := ?_) rfl rfl (by kernel_rfl) (by kernel_rfl) (by kernel_rfl) (fun _ _ _ h => h) (Or.inl ⟨by rfl, ?hy⟩) hSc ?_
      case hy => (intro w hSw; (try dsimp only at hSw); go_simp; try with_reducible rfl)
      simp only [Act.put, List.setIfInBounds_toArray, List.set_cons_zero, List.set_cons_succ]
      refine takeQ_at (i := 16) (d := some 37) (v := ?_) rfl rfl (by kernel_rfl) (by kernel_rfl) (by kernel_rfl) (fun _ _ _ h => h) (Or.inl ⟨by rfl, ?hy⟩) hSc ?_
      case hy => (intro w hSw; (try dsimp only at hSw); go_simp; try with_reducible rfl)
      simp only [Act.put, List.setIfInBounds_toArray, List.set_cons_zero, List.set_cons_succ]
      refine takeQ_at (i := 17) (d := some 38) (v := ?_) rfl rfl (by kernel_rfl) (by kernel_rfl) (by kernel_rfl) (fun _ _ _ h => h) (Or.inl ⟨by rfl, ?hy⟩) hSc ?_
      case hy => (intro w hSw; (try dsimp only at hSw); go_simp; try with_reducible rfl)
      simp only [Act.put, List.setIfInBounds_toArray, List.set_cons_zero, List.set_cons_succ]
      refine takeQ_at (i := 18) (d := some 39) (v := ?_) rfl rfl (by kernel_rfl) (by kernel_rfl) (by kernel_rfl) (fun _ _ _ h => h) (Or.inl ⟨by rfl, ?hy⟩) hSc ?_
      case hy => (intro w hSw; (try dsimp only at hSw); go_simp; try with_reducible rfl)
      simp only [Act.put, List.setIfInBounds_toArray, List.set_cons_zero, List.set_cons_succ]
      refine takeQ_at (i := 19) (d := some 40) (v := ?_) rfl rfl (by kernel_rfl) (by kernel_rfl) (by kernel_rfl) (fun _ _ _ h => h) (Or.inl ⟨by rfl, ?hy⟩) hSc ?_
      case hy => (intro w hSw; (try dsimp only at hSw); go_simp; try with_reducible rfl)
      simp only [Act.put, List.setIfInBounds_toArray, List.set_cons_zero, List.set_cons_succ]
      refine takeQ_at (i := 20) (d := some 41) (v := ?_) rfl rfl (by kernel_rfl) (by kernel_rfl) (by kernel_rfl) (fun _ _ _ h => h) (Or.inl ⟨by rfl, ?hy⟩) hSc ?_
      case hy => (intro w hSw; (try dsimp only at hSw); go_simp; try with_reducible rfl)
      simp only [Act.put, List.setIfInBounds_toArray, List.set_cons_zero, List.set_cons_succ]
      refine takeQ_at (i := 21) (d := some 42) (v := ?_) rfl rfl (by kernel_rfl) (by kernel_rfl) (by kernel_rfl) (fun _ _ _ h => h) (Or.inl ⟨by rfl, ?hy⟩) hSc ?_
      case hy => (intro w hSw; (try dsimp only at hSw); go_simp; try with_reducible rfl)
      simp only [Act.put, List.setIfInBounds_toArray, List.set_cons_zero, List.set_cons_succ]
      refine takeQ_at (i := 22) (d := some 43) (v := ?_) rfl rfl (by kernel_rfl) (by kernel_rfl) (by kernel_rfl) (fun _ _ _ h => h) (Or.inl ⟨by rfl, ?hy⟩) hSc ?_
      case hy => (intro w hSw; (try dsimp only at hSw); go_simp; try with_reducible rfl)
      simp only [Act.put, List.setIfInBounds_toArray, List.set_cons_zero, List.set_cons_succ]
      refine takeQ_at (i := 23) (d := some 44) (v := ?_) rfl rfl (by kernel_rfl) (by kernel_rfl) (by kernel_rfl) (fun _ _ _ h => h) (Or.inl ⟨by rfl, ?hy⟩) hSc ?_
      case hy => (intro w hSw; (try dsimp only at hSw); go_simp; try with_reducible rfl)
      simp only [Act.put, List.setIfInBounds_toArray, List.set_cons_zero, List.set_cons_succ]
      refine takeQ_at (i := 24) (d := some 45) (v := ?_) rfl rfl (by kernel_rfl) (by kernel_rfl) (by kernel_rfl) (fun _ _ _ h => h) (Or.inl ⟨by rfl, ?hy⟩) hSc ?_
      case hy => (intro w hSw; (try dsimp only at hSw); go_simp; try with_reducible rfl)
      simp only [Act.put, List.setIfInBounds_toArray, List.set_cons_zero, List.set_cons_succ]
      refine takeQ_at (i := 25) (d := some 46) (v := ?_) rfl rfl (by kernel_rfl) (by kernel_rfl) (by kernel_rfl) (fun _ _ _ h => h) (Or.inl ⟨by rfl, ?hy⟩) hSc ?_
      case hy => (intro w hSw; (try dsimp only at hSw); go_simp; try with_reducible rfl)
      simp only [Act.put, List.setIfInBounds_toArray, List.set_cons_zero, List.set_cons_succ]
      refine takeQ_at (i := 26) (d := some 47) (v := ?_) rfl rfl (by kernel_rfl) (by kernel_rfl) (by kernel_rfl) (fun _ _ _ h => h) (Or.inl ⟨by rfl, ?hy⟩) hSc ?_
      case hy => (intro w hSw; (try dsimp only at hSw); go_simp; try with_reducible rfl)
      simp only [Act.put, List.setIfInBounds_toArray, List.set_cons_zero, List.set_cons_succ]
      refine takeQ_at (i := 27) (d := some 48) (v := ?_) rfl rfl (by kernel_rfl) (by kernel_rfl) (by kernel_rfl) (fun _ _ _ h => h) (Or.inl ⟨by rfl, ?hy⟩) hSc ?_
      case hy => (intro w hSw; (try dsimp only at hSw); go_simp; try with_reducible rfl)
      simp only [Act.put, List.setIfInBounds_toArray, List.set_cons_zero, List.set_cons_succ]
      refine takeQ_at (i := 28) (d := some 49) (v := ?_) rfl rfl (by kernel_rfl) (by kernel_rfl) (by kernel_rfl) (fun _ _ _ h => h) (Or.inl ⟨by rfl, ?hy⟩) hSc ?_
      case hy => (intro w hSw; (try dsimp only at hSw); go_simp; try with_reducible rfl)
      simp only [Act.put, List.setIfInBounds_toArray, List.set_cons_zero, List.set_cons_succ]
      refine takeQ_at (i := 29) (d := some 50) (v := ?_) rfl rfl (by kernel_rfl) (by kernel_rfl) (by kernel_rfl) (fun _ _ _ h => h) (Or.inl ⟨by rfl, ?hy⟩) hSc ?_
      case hy => (intro w hSw; (try dsimp only at hSw); go_simp; try with_reducible rfl)
      simp only [Act.put, List.setIfInBounds_toArray, List.set_cons_zero, List.set_cons_succ]
      refine takeQ_at (i := 30) (d := some 51) (v := ?_) rfl rfl (by kernel_rfl) (by kernel_rfl) (by kernel_rfl) (fun _ _ _ h => h) (Or.inl ⟨by rfl, ?hy⟩) hSc ?_
      case hy => (intro w hSw; (try dsimp only at hSw); go_simp; try with_reducible rfl)
      simp only [Act.put, List.setIfInBounds_toArray, List.set_cons_zero, List.set_cons_succ]
      refine takeQ_at (i := 31) (d := some 52) (v := ?_) rfl rfl (by kernel_rfl) (by kernel_rfl) (by kernel_rfl) (fun _ _ _ h => h) (Or.inl ⟨by rfl, ?hy⟩) hSc ?_
      case hy => (intro w hSw; (try dsimp only at hSw); go_simp; try with_reducible rfl)
      simp only [Act.put, List.setIfInBounds_toArray, List.set_cons_zero, List.set_cons_succ]
      refine wpAnyH_ready (rs := [32]) (by kernel_rfl) (by simp) ?_
      refine AllReadyH.cons rfl (fun K hK => ?_) AllReadyH.nil
      go_simp
      refine hK.out _ _ sA (fun hSn => ?_)
      clear hK K
      refine wpAnyH_ready (rs := [33]) (by kernel_rfl) (by simp) ?_
      refine AllReadyH.cons rfl (fun K hK => ?_) AllReadyH.nil
      refine step_append_own rfl _ _ 99 rfl w.heap.size 146 i0 (.agg #[.string ByteArray.empty, .int .i64 0]) 2 24 Tryz.underlying99 hi0 hz0 hz1 hz2 rfl (by decide) (.slice a0 k cap0) k R (by simp [Act.eval]) (World.ownsRow.alloc hown _) ⟨wr.drew.heap.size, 0, none⟩ 1 1 [.string nmk, .int .i64 xx] (by simp [Act.eval]) rfl (new_pair _ _ _ _) (by simp [Value.oneCell']) (by unfold maxLen; omega) (by omega) (by simp; omega) ?_
      intro v' w5 hown2 hgrow hat
      have HN := Lib.hid (FIN.out v' w5 hown2 hgrow)
      have s3 := SK.out w5 HN.out.2
      clear hown2 hgrow hat
      refine hK.out _ _ s3 (fun hSn => ?_)
      clear hK K
      refine wpAnyH_ready (rs := [34]) (by kernel_rfl) (by simp) ?_
      refine AllReadyH.cons rfl (fun K hK => ?_) AllReadyH.nil
      go_simp
      refine hK.out _ _ s3 (fun hSn => ?_)
      clear hK K
      refine wpAnyH_done (by kernel_rfl) ?_ _
      refine NoPanic.normal ?_
      go_wp2_with fail
      go_roundw
      case rel => exact ⟨k + 1, by omega, by go_num, HN.out.1, HN.out.2⟩
      case measure => simp [intOf]; omega
    · have t1 : ¬ (k : Int) < (vs.length : Int) := by omega
      obtain rfl : k = vs.length := by omega
      have HN := Lib.hid hN
      have HB := Lib.hid hB
      clear hN hB
      go_wp2
      go_ret
      exact ⟨_, rfl, HN.out, HB.out⟩
end Go.Proofs.YtcbhpjpkjmlcnaaGreat
namespace Go.Proofs.YtcbhpjpkjmlcnaaGreat
open Go.RowKit Go.WideShapes

theorem below_drew0 {w : World} : Below w.heap.size w w.drew := (Below.refl _ w).drew
set_option maxRecDepth 100000 in
set_option maxHeartbeats 8000000 in
theorem more10_any {w : World} {X : Nat} {S : S10} {pm pr : Option Addr} {N : Int → Int → Int → Int → World → Prop} {a b c d : Int} {c0 : Nat} (hP : P10 w X S (.pointer pm) (.pointer pr) N a b c d c0) (hM4 : M4 (.pointer pm) N) (hn : S.n < 12) :
    Calls Tryz.prog 29 #[.pointer (some ⟨X, 0, none⟩)] w fun e w' => e = .returned (.bool true) ∧ ∃ S', D10 w X S (.pointer pm) (.pointer pr) N c0 S' a b c d w' ∧ 0 < S'.n := by
  have hlm : ∀ k, mB (.pointer pm) k → k < w.heap.size := fun k hk => hP.lt k (.inr (.inl hk))
  have C1 := make_any hP.fm hlm
  have x0 : w.cell? ⟨X, 0, none⟩ = some (.pointer (some ⟨S.f, 0, none⟩)) := hP.hx.c 0 (by omega)
  obtain ⟨sa, cs, es, hcs⟩ := row_len hP.rs
  obtain ⟨ak, ck, ek, hck⟩ := row_len hP.rk
  obtain ⟨i0, hi0, hz0, hz1, hz2⟩ := info_parts Tryz.infoXs
  obtain ⟨i1, hj0, hy0, hy1, hy2⟩ := info_parts Tryz.infoXk
  have HP := Lib.hid hP
  have HM4 := Lib.hid hM4
  clear hP hM4 hlm
  go_enter Tryz.func29, Tryz.ntmps29
  go_wp2_with fail
  refine C1.mono ?_
  rintro e w1 ⟨s, XS, rfl, hs1, hXS, hb1⟩
  clear C1 x0
  obtain ⟨hr1, H1⟩ := more10a HP.out HM4.out hb1 hs1.sm hXS es
  have x2 : w1.cell? ⟨X, 2, none⟩ = some (.slice sa S.n cs) := by rw [← es]; exact (HP.out.below HM4.out hb1).hx.c 2 (by omega)
  have H1' := Lib.hid H1
  have HR1 := Lib.hid hr1
  have hq := neSp s
  clear H1 hs1 hXS hb1 hr1
  go_upto_region 3 with (at_builtin; refine wpList_append_own_at _ rfl _ _ 64 rfl 0 81 i0 (.pointer none) 1 8 Tryz.underlying64 hi0 hz0 hz1 hz2 rfl (by decide) _ _ _ rfl (World.ownsRow.alloc HR1.out _) ⟨w1.heap.size, 0, none⟩ 1 1 [.pointer (some ⟨s, 0, none⟩)] rfl rfl (newR_one _ _ _) (by simp [Value.oneCell']) (by unfold maxLen; omega) (by omega) (by simp) ?_; intro vm w3 hown3 hgrow _ hob; obtain ⟨⟨k2, z2⟩, HN3⟩ := H1'.out _ vm w3 hown3 hgrow hob; have HN4 := Lib.hid HN3; obtain ⟨a3, cap3, hv3⟩ := ownsRow_shape hown3; subst hv3; clear hown3 hgrow hob HN3)
  obtain ⟨w4, hw4⟩ : ∃ V, w3.setCell ⟨X, 2, none⟩ (.slice a3 (S.n + 1) cap3) = V := ⟨_, rfl⟩
  obtain ⟨hMA, hqf, hmr⟩ := HN4.out w4 hw4
  have s0 : w4.drew.cell? ⟨X, 1, none⟩ = some (.pointer (some ⟨S.f2, 0, none⟩)) := hMA.hx.c 1 (by omega)
  have x3 : w4.drew.cell? ⟨X, 3, none⟩ = some (.slice ak S.n ck) := by rw [← ek]; exact hMA.hx.c 3 (by omega)
  have CN := rmake_any (w := w4.drew) (hqf.same fun _ _ => rfl) hmr
  have HMA := Lib.hid hMA
  have HW4 := Lib.hid hw4
  rw [HW4.out]
  clear hMA hqf hmr HN4 hw4 k2 z2 x2 hi0 hz0 hz1 hz2
  refine wp_region_noPanic ?_
  refine wp_region_held_drew (S := fun V => V.cell? ⟨X, 1, none⟩ = some (.pointer (some ⟨S.f2, 0, none⟩))) (by kernel_rfl) s0 (fun hSc => ?_)
  refine takeQ_at (i := 0) (d := some 19) (v := ?_) rfl rfl (by kernel_rfl) (by kernel_rfl) (by kernel_rfl) (fun _ _ _ h => h) (Or.inl ⟨by rfl, ?hy⟩) hSc ?_
  case hy => (intro w hSw; (try dsimp only at hSw); go_simp; try with_reducible rfl)
  simp only [Act.put, List.setIfInBounds_toArray, List.set_cons_zero, List.set_cons_succ]
  refine takeQ_at (i := 1) (d := some 20) (v := ?_) rfl rfl (by kernel_rfl) (by kernel_rfl) (by kernel_rfl) (fun _ _ _ h => h) (Or.inl ⟨by rfl, ?hy⟩) hSc ?_
  case hy => (intro w hSw; (try dsimp only at hSw); go_simp; try with_reducible rfl)
  simp only [Act.put, List.setIfInBounds_toArray, List.set_cons_zero, List.set_cons_succ]
  refine takeQ_at (i := 2) (d := some 21) (v := ?_) rfl rfl (by kernel_rfl) (by kernel_rfl) (by kernel_rfl) (fun _ _ _ h => h) (Or.inl ⟨by rfl, ?hy⟩) hSc ?_
  case hy => (intro w hSw; (try dsimp only at hSw); go_simp; try with_reducible rfl)
  simp only [Act.put, List.setIfInBounds_toArray, List.set_cons_zero, List.set_cons_succ]
  refine takeQ_at (i := 3) (d := some 22) (v := ?_) rfl rfl (by kernel_rfl) (by kernel_rfl) (by kernel_rfl) (fun _ _ _ h => h) (Or.inl ⟨by rfl, ?hy⟩) hSc ?_
  case hy => (intro w hSw; (try dsimp only at hSw); go_simp; try with_reducible rfl)
  simp only [Act.put, List.setIfInBounds_toArray, List.set_cons_zero, List.set_cons_succ]
  refine takeQ_at (i := 5) (d := some 24) (v := ?_) rfl rfl (by kernel_rfl) (by kernel_rfl) (by kernel_rfl) (fun _ _ _ h => h) (Or.inl ⟨by rfl, ?hy⟩) hSc ?_
  case hy => (intro w hSw; (try dsimp only at hSw); go_simp; try with_reducible rfl)
  simp only [Act.put, List.setIfInBounds_toArray, List.set_cons_zero, List.set_cons_succ]
  refine takeQ_at (i := 6) (d := some 25) (v := ?_) rfl rfl (by kernel_rfl) (by kernel_rfl) (by kernel_rfl) (fun _ _ _ h => h) (Or.inl ⟨by rfl, ?hy⟩) hSc ?_
  case hy => (intro w hSw; (try dsimp only at hSw); go_simp; try with_reducible rfl)
  simp only [Act.put, List.setIfInBounds_toArray, List.set_cons_zero, List.set_cons_succ]
  refine takeQ_at (i := 7) (d := some 26) (v := ?_) rfl rfl (by kernel_rfl) (by kernel_rfl) (by kernel_rfl) (fun _ _ _ h => h) (Or.inl ⟨by rfl, ?hy⟩) hSc ?_
  case hy => (intro w hSw; (try dsimp only at hSw); go_simp; try with_reducible rfl)
  simp only [Act.put, List.setIfInBounds_toArray, List.set_cons_zero, List.set_cons_succ]
  refine takeQ_at (i := 8) (d := some 27) (v := ?_) rfl rfl (by kernel_rfl) (by kernel_rfl) (by kernel_rfl) (fun _ _ _ h => h) (Or.inl ⟨by rfl, ?hy⟩) hSc ?_
  case hy => (intro w hSw; (try dsimp only at hSw); go_simp; try with_reducible rfl)
  simp only [Act.put, List.setIfInBounds_toArray, List.set_cons_zero, List.set_cons_succ]
  refine wpAnyH_ready (rs := [4, 9]) (by kernel_rfl) (by simp) ?_
  refine AllReadyH.cons rfl (fun K hK => ?_) (AllReadyH.cons rfl (fun K hK => ?_) AllReadyH.nil)
  · go_simp
    refine hK.out _ _ hSc (fun hSn => ?_)
    clear hK K
    refine wpAnyH_ready (rs := [9]) (by kernel_rfl) (by simp) ?_
    refine AllReadyH.cons rfl (fun K hK => ?_) AllReadyH.nil
    go_simp
    refine CN.mono ?_
    rintro e w5 ⟨s2, XR, rfl, hq5, hXR, hb5⟩; obtain ⟨hX5, hrk5, H5⟩ := more10b HP.out HM4.out hn HMA.out (below_drew0.trans hb5) hq5.sm hXR ek; have s1 : w5.cell? ⟨X, 1, none⟩ = some (.pointer (some ⟨S.f2, 0, none⟩)) := hX5.c 1 (by omega); have k3 : w5.cell? ⟨X, 3, none⟩ = some (.slice ak S.n ck) := by rw [← ek]; exact hX5.c 3 (by omega)
    have hXa : Blk (w5.alloc (.cells #[.pointer (some ⟨s2, 0, none⟩)] 91)) X 4 (xa10 S (.slice a3 (S.n + 1) cap3)) := hX5.of ((Below.refl _ w5).alloc (Nat.le_refl _) _) (by omega); have s2' : (w5.alloc (.cells #[.pointer (some ⟨s2, 0, none⟩)] 91)).cell? ⟨X, 1, none⟩ = some (.pointer (some ⟨S.f2, 0, none⟩)) := hXa.c 1 (by omega); have k3a : (w5.alloc (.cells #[.pointer (some ⟨s2, 0, none⟩)] 91)).cell? ⟨X, 3, none⟩ = some (.slice ak S.n ck) := by rw [← ek]; exact hXa.c 3 (by omega)
    have hown := World.ownsRow.alloc hrk5 (.cells #[.pointer (some ⟨s2, 0, none⟩)] 91); clear hXa hrk5 hX5 hq5
    refine hK.out _ _ s1 (fun hSn => ?_)
    clear hK K
    refine wpAnyH_ready (rs := [10]) (by kernel_rfl) (by simp) ?_
    refine AllReadyH.cons rfl (fun K hK => ?_) AllReadyH.nil
    go_simp
    refine hK.out _ _ s2' (fun hSn => ?_)
    clear hK K
    refine wpAnyH_ready (rs := [11]) (by kernel_rfl) (by simp) ?_
    refine AllReadyH.cons rfl (fun K hK => ?_) AllReadyH.nil
    refine step_append_own rfl _ _ 65 rfl 0 91 i1 (.pointer none) 1 8 Tryz.underlying65 hj0 hy0 hy1 hy2 rfl (by decide) (.slice ak S.n ck) S.n (ptrs (fun j => (S.sp j).s2) S.n) (by simp [Act.eval]) hown ⟨w5.heap.size, 0, none⟩ 1 1 [.pointer (some ⟨s2, 0, none⟩)] (by simp [Act.eval]) rfl (newR_one _ _ _) (by simp [Value.oneCell']) (by unfold maxLen; omega) (by omega) (Nat.zero_le _) ?_
    intro v' w6 hown2 hgrow hat; obtain ⟨hX6, H6⟩ := H5 _ v' w6 hown2 hgrow hat; obtain ⟨s4, hD⟩ := H6 _ rfl; have s3 : w6.cell? ⟨X, 1, none⟩ = some (.pointer (some ⟨S.f2, 0, none⟩)) := hX6.c 1 (by omega); have g2 : w6.cell? ⟨X, 3, none⟩ = some (.slice ak S.n ck) := by rw [← ek]; exact hX6.c 3 (by omega)
    have gz2 : w6.frozen? ⟨X, 3, none⟩ = false := hX6.z 3; have HD := Lib.hid hD; obtain ⟨a2, cap2, hv2⟩ := ownsRow_shape hown2; subst hv2; clear hD H6 hX6 hown2 hgrow hat
    refine hK.out _ _ s3 (fun hSn => ?_)
    clear hK K
    refine takeQ_at (i := 12) (d := some 31) (v := ?_) rfl rfl (by kernel_rfl) (by kernel_rfl) (by kernel_rfl) (fun _ _ _ h => h) (Or.inl ⟨by rfl, ?hy⟩) s3 ?_
    case hy => (intro w hSw; (try dsimp only at hSw); go_simp; try with_reducible rfl)
    simp only [Act.put, List.setIfInBounds_toArray]
    refine takeQ_at (i := 13) (d := some 32) (v := ?_) rfl rfl (by kernel_rfl) (by kernel_rfl) (by kernel_rfl) (fun _ _ _ h => h) (Or.inl ⟨by rfl, ?hy⟩) s3 ?_
    case hy => (intro w hSw; (try dsimp only at hSw); go_simp; try with_reducible rfl)
    simp only [Act.put]
    refine wpAnyH_ready (rs := [14]) (by kernel_rfl) (by simp) ?_
    refine AllReadyH.cons rfl (fun K hK => ?_) AllReadyH.nil
    go_simp
    refine hK.out _ _ s4 (fun hSn => ?_)
    clear hK K
    refine wpAnyH_done (by kernel_rfl) ?_ _
    refine NoPanic.normal ?_
    go_wp2_with fail
    go_ret
    exact ⟨rfl, _, HD.out.after HM4.out (Below.refl _ _), Nat.succ_pos _⟩
  · go_simp
    refine CN.mono ?_
    rintro e w5 ⟨s2, XR, rfl, hq5, hXR, hb5⟩; obtain ⟨hX5, hrk5, H5⟩ := more10b HP.out HM4.out hn HMA.out (below_drew0.trans hb5) hq5.sm hXR ek; have s1 : w5.cell? ⟨X, 1, none⟩ = some (.pointer (some ⟨S.f2, 0, none⟩)) := hX5.c 1 (by omega); have k3 : w5.cell? ⟨X, 3, none⟩ = some (.slice ak S.n ck) := by rw [← ek]; exact hX5.c 3 (by omega)
    have hXa : Blk (w5.alloc (.cells #[.pointer (some ⟨s2, 0, none⟩)] 91)) X 4 (xa10 S (.slice a3 (S.n + 1) cap3)) := hX5.of ((Below.refl _ w5).alloc (Nat.le_refl _) _) (by omega); have s2' : (w5.alloc (.cells #[.pointer (some ⟨s2, 0, none⟩)] 91)).cell? ⟨X, 1, none⟩ = some (.pointer (some ⟨S.f2, 0, none⟩)) := hXa.c 1 (by omega); have k3a : (w5.alloc (.cells #[.pointer (some ⟨s2, 0, none⟩)] 91)).cell? ⟨X, 3, none⟩ = some (.slice ak S.n ck) := by rw [← ek]; exact hXa.c 3 (by omega)
    have hown := World.ownsRow.alloc hrk5 (.cells #[.pointer (some ⟨s2, 0, none⟩)] 91); clear hXa hrk5 hX5 hq5
    refine hK.out _ _ s1 (fun hSn => ?_)
    clear hK K
    refine wpAnyH_ready (rs := [4, 10]) (by kernel_rfl) (by simp) ?_
    refine AllReadyH.cons rfl (fun K hK => ?_) (AllReadyH.cons rfl (fun K hK => ?_) AllReadyH.nil)
    · go_simp
      refine hK.out _ _ s1 (fun hSn => ?_)
      clear hK K
      refine wpAnyH_ready (rs := [10]) (by kernel_rfl) (by simp) ?_
      refine AllReadyH.cons rfl (fun K hK => ?_) AllReadyH.nil
      go_simp
      refine hK.out _ _ s2' (fun hSn => ?_)
      clear hK K
      refine wpAnyH_ready (rs := [11]) (by kernel_rfl) (by simp) ?_
      refine AllReadyH.cons rfl (fun K hK => ?_) AllReadyH.nil
      refine step_append_own rfl _ _ 65 rfl 0 91 i1 (.pointer none) 1 8 Tryz.underlying65 hj0 hy0 hy1 hy2 rfl (by decide) (.slice ak S.n ck) S.n (ptrs (fun j => (S.sp j).s2) S.n) (by simp [Act.eval]) hown ⟨w5.heap.size, 0, none⟩ 1 1 [.pointer (some ⟨s2, 0, none⟩)] (by simp [Act.eval]) rfl (newR_one _ _ _) (by simp [Value.oneCell']) (by unfold maxLen; omega) (by omega) (Nat.zero_le _) ?_
      intro v' w6 hown2 hgrow hat; obtain ⟨hX6, H6⟩ := H5 _ v' w6 hown2 hgrow hat; obtain ⟨s4, hD⟩ := H6 _ rfl; have s3 : w6.cell? ⟨X, 1, none⟩ = some (.pointer (some ⟨S.f2, 0, none⟩)) := hX6.c 1 (by omega); have g2 : w6.cell? ⟨X, 3, none⟩ = some (.slice ak S.n ck) := by rw [← ek]; exact hX6.c 3 (by omega)
      have gz2 : w6.frozen? ⟨X, 3, none⟩ = false := hX6.z 3; have HD := Lib.hid hD; obtain ⟨a2, cap2, hv2⟩ := ownsRow_shape hown2; subst hv2; clear hD H6 hX6 hown2 hgrow hat
      refine hK.out _ _ s3 (fun hSn => ?_)
      clear hK K
      refine takeQ_at (i := 12) (d := some 31) (v := ?_) rfl rfl (by kernel_rfl) (by kernel_rfl) (by kernel_rfl) (fun _ _ _ h => h) (Or.inl ⟨by rfl, ?hy⟩) s3 ?_
      case hy => (intro w hSw; (try dsimp only at hSw); go_simp; try with_reducible rfl)
      simp only [Act.put, List.setIfInBounds_toArray]
      refine takeQ_at (i := 13) (d := some 32) (v := ?_) rfl rfl (by kernel_rfl) (by kernel_rfl) (by kernel_rfl) (fun _ _ _ h => h) (Or.inl ⟨by rfl, ?hy⟩) s3 ?_
      case hy => (intro w hSw; (try dsimp only at hSw); go_simp; try with_reducible rfl)
      simp only [Act.put]
      refine wpAnyH_ready (rs := [14]) (by kernel_rfl) (by simp) ?_
      refine AllReadyH.cons rfl (fun K hK => ?_) AllReadyH.nil
      go_simp
      refine hK.out _ _ s4 (fun hSn => ?_)
      clear hK K
      refine wpAnyH_done (by kernel_rfl) ?_ _
      refine NoPanic.normal ?_
      go_wp2_with fail
      go_ret
      exact ⟨rfl, _, HD.out.after HM4.out (Below.refl _ _), Nat.succ_pos _⟩
    · go_simp
      refine hK.out _ _ s2' (fun hSn => ?_)
      clear hK K
      refine wpAnyH_ready (rs := [4]) (by kernel_rfl) (by simp) ?_
      refine AllReadyH.cons rfl (fun K hK => ?_) AllReadyH.nil
      go_simp
      refine hK.out _ _ s2' (fun hSn => ?_)
      clear hK K
      refine wpAnyH_ready (rs := [11]) (by kernel_rfl) (by simp) ?_
      refine AllReadyH.cons rfl (fun K hK => ?_) AllReadyH.nil
      refine step_append_own rfl _ _ 65 rfl 0 91 i1 (.pointer none) 1 8 Tryz.underlying65 hj0 hy0 hy1 hy2 rfl (by decide) (.slice ak S.n ck) S.n (ptrs (fun j => (S.sp j).s2) S.n) (by simp [Act.eval]) hown ⟨w5.heap.size, 0, none⟩ 1 1 [.pointer (some ⟨s2, 0, none⟩)] (by simp [Act.eval]) rfl (newR_one _ _ _) (by simp [Value.oneCell']) (by unfold maxLen; omega) (by omega) (Nat.zero_le _) ?_
      intro v' w6 hown2 hgrow hat; obtain ⟨hX6, H6⟩ := H5 _ v' w6 hown2 hgrow hat; obtain ⟨s4, hD⟩ := H6 _ rfl; have s3 : w6.cell? ⟨X, 1, none⟩ = some (.pointer (some ⟨S.f2, 0, none⟩)) := hX6.c 1 (by omega); have g2 : w6.cell? ⟨X, 3, none⟩ = some (.slice ak S.n ck) := by rw [← ek]; exact hX6.c 3 (by omega)
      have gz2 : w6.frozen? ⟨X, 3, none⟩ = false := hX6.z 3; have HD := Lib.hid hD; obtain ⟨a2, cap2, hv2⟩ := ownsRow_shape hown2; subst hv2; clear hD H6 hX6 hown2 hgrow hat
      refine hK.out _ _ s3 (fun hSn => ?_)
      clear hK K
      refine takeQ_at (i := 12) (d := some 31) (v := ?_) rfl rfl (by kernel_rfl) (by kernel_rfl) (by kernel_rfl) (fun _ _ _ h => h) (Or.inl ⟨by rfl, ?hy⟩) s3 ?_
      case hy => (intro w hSw; (try dsimp only at hSw); go_simp; try with_reducible rfl)
      simp only [Act.put, List.setIfInBounds_toArray]
      refine takeQ_at (i := 13) (d := some 32) (v := ?_) rfl rfl (by kernel_rfl) (by kernel_rfl) (by kernel_rfl) (fun _ _ _ h => h) (Or.inl ⟨by rfl, ?hy⟩) s3 ?_
      case hy => (intro w hSw; (try dsimp only at hSw); go_simp; try with_reducible rfl)
      simp only [Act.put]
      refine wpAnyH_ready (rs := [14]) (by kernel_rfl) (by simp) ?_
      refine AllReadyH.cons rfl (fun K hK => ?_) AllReadyH.nil
      go_simp
      refine hK.out _ _ s4 (fun hSn => ?_)
      clear hK K
      refine wpAnyH_done (by kernel_rfl) ?_ _
      refine NoPanic.normal ?_
      go_wp2_with fail
      go_ret
      exact ⟨rfl, _, HD.out.after HM4.out (Below.refl _ _), Nat.succ_pos _⟩
end Go.Proofs.YtcbhpjpkjmlcnaaGreat
namespace Go.Proofs.YtcbhpjpkjmlcnaaGreat
open Go.RowKit Go.WideShapes

set_option maxRecDepth 100000 in
set_option maxHeartbeats 8000000 in
theorem does10_more {w : World} {X : Nat} {S : S10} {pm pr : Option Addr} {N : Int → Int → Int → Int → World → Prop} {a b c d : Int} {c0 : Nat} (hP : P10 w X S (.pointer pm) (.pointer pr) N a b c d c0) (hM4 : M4 (.pointer pm) N) (hn : 0 < S.n) (s : Int) {nm : ByteArray} (x : Int) :
    Calls Tryz.prog 10 #[.pointer (some ⟨X, 0, none⟩), .agg #[.int .i64 4, .int .i64 s, .string nm, .int .i64 x]] w fun e w' => e = .returned (.bool true) ∧ ∃ S' a' b' c' d', D10 w X S (.pointer pm) (.pointer pr) N (c0 + 1) S' a' b' c' d' w' := by
  obtain ⟨w0, hw0⟩ : ∃ V, w.alloc (.cells #[.int .i64 4, .int .i64 s, .string nm, .int .i64 x] 53) = V := ⟨_, rfl⟩
  have hb0 : Below w.heap.size w w0 := by rw [← hw0]; exact (Below.refl _ w).alloc (Nat.le_refl _) _
  have hB0 : Blk w0 w.heap.size 4 (stF 4 s nm x) := by rw [← hw0]; exact st_new w 4 s nm x
  have hP0 := hP.below hM4 hb0
  have CA := at10_any hP0.rw hn hP.nn s
  obtain ⟨am, capm, em, hcapm⟩ := row_len hP0.rs
  have x2 : w0.cell? ⟨X, 2, none⟩ = some (.slice am S.n capm) := by rw [← em]; exact hP0.hx.c 2 (by omega)
  have b0 : w0.cell? ⟨w.heap.size, 0, none⟩ = some (.int .i64 4) := hB0.c 0 (by omega)
  have b1 : w0.cell? ⟨w.heap.size, 1, none⟩ = some (.int .i64 s) := hB0.c 1 (by omega)
  have hnn := hP.nn
  have HBW := Lib.hid hb0
  have HW0 := Lib.hid hw0
  have HP := Lib.hid hP
  have HM4 := Lib.hid hM4
  have HP0 := Lib.hid hP0
  clear hP hB0 hb0 hM4 hw0 em hP0
  by_cases h12 : S.n < 12
  · have CM := more10_any HP0.out HM4.out h12
    have t1 : ¬ (12 : Int) ≤ (S.n : Int) := by omega
    go_enter Tryz.func10, Tryz.ntmps10
    go_upto_region 1 with fail
    rw [HW0.out]
    go_wp2_with fail
    refine CA.mono ?_
    rintro e w1 ⟨rfl, rfl⟩
    clear CA
    go_wp2_with fail
    refine CM.mono ?_
    rintro e w2 ⟨rfl, S', hD, _⟩
    have HD := Lib.hid hD
    clear CM hD
    go_wp2_with fail
    go_ret
    have hU := HD.out.up HBW.out
    exact ⟨rfl, S', a, b, c, d, ⟨hU.p.le (Nat.le_succ _), hU.room, hU.most, hU.nn, hU.ff, hU.fx, hU.ex⟩⟩
  · have t1 : (12 : Int) ≤ (S.n : Int) := by omega
    go_enter Tryz.func10, Tryz.ntmps10
    go_upto_region 1 with fail
    rw [HW0.out]
    go_wp2_with fail
    refine CA.mono ?_
    rintro e w1 ⟨rfl, rfl⟩
    clear CA
    go_wp2_with fail
    go_ret
    exact ⟨rfl, S, a, b, c, d, D10.none HP.out HM4.out HBW.out⟩
set_option maxRecDepth 100000 in
set_option maxHeartbeats 8000000 in
theorem does10_none {w : World} {X : Nat} {S : S10} {pm pr : Option Addr} {N : Int → Int → Int → Int → World → Prop} {a b c d : Int} {c0 : Nat} (hP : P10 w X S (.pointer pm) (.pointer pr) N a b c d c0) (hM4 : M4 (.pointer pm) N) (hn : 0 < S.n) (kk s : Int) {nm : ByteArray} (x : Int) (h : ¬ (1 ≤ kk ∧ kk ≤ 4)) :
    Calls Tryz.prog 10 #[.pointer (some ⟨X, 0, none⟩), .agg #[.int .i64 kk, .int .i64 s, .string nm, .int .i64 x]] w fun e w' => e = .returned (.bool true) ∧ ∃ S' a' b' c' d', D10 w X S (.pointer pm) (.pointer pr) N (c0 + 1) S' a' b' c' d' w' := by
  obtain ⟨w0, hw0⟩ : ∃ V, w.alloc (.cells #[.int .i64 kk, .int .i64 s, .string nm, .int .i64 x] 53) = V := ⟨_, rfl⟩
  have hb0 : Below w.heap.size w w0 := by rw [← hw0]; exact (Below.refl _ w).alloc (Nat.le_refl _) _
  have hB0 : Blk w0 w.heap.size 4 (stF kk s nm x) := by rw [← hw0]; exact st_new w kk s nm x
  have hP0 := hP.below hM4 hb0
  have CA := at10_any hP0.rw hn hP.nn s
  have b0 : w0.cell? ⟨w.heap.size, 0, none⟩ = some (.int .i64 kk) := hB0.c 0 (by omega)
  have b1 : w0.cell? ⟨w.heap.size, 1, none⟩ = some (.int .i64 s) := hB0.c 1 (by omega)
  have e1 : (kk == 1) = false := by rw [beq_eq_false_iff_ne]; omega
  have e2 : (kk == 2) = false := by rw [beq_eq_false_iff_ne]; omega
  have e3 : (kk == 3) = false := by rw [beq_eq_false_iff_ne]; omega
  have e4 : (kk == 4) = false := by rw [beq_eq_false_iff_ne]; omega
  have HBW := Lib.hid hb0
  have HW0 := Lib.hid hw0
  have HP := Lib.hid hP
  have HM4 := Lib.hid hM4
  clear hP hB0 hb0 hM4 hw0 hP0
  go_enter Tryz.func10, Tryz.ntmps10
  go_upto_region 1 with fail
  rw [HW0.out]
  go_wp2_with fail
  refine CA.mono ?_
  rintro e w1 ⟨rfl, rfl⟩
  clear CA
  go_wp2_with fail
  go_ret
  exact ⟨rfl, S, a, b, c, d, D10.none HP.out HM4.out HBW.out⟩
end Go.Proofs.YtcbhpjpkjmlcnaaGreat
