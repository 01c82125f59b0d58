/-
  The reference's Copy.
  The document's table beside one whose dead entries keep their births: it is that one as it is told.
  Seek, and a Seeker's visit.
  A Seeker's hasEnded and visit.
  A Seeker's Next; At.
-/
import Derived.Test.YtejfmajbggmghaaGreatTfSeek
import Derived.Test.YtejfmajbggmghaaGreatGd
import Derived.Test.YtejfmajbggmghaaGreatGa
import Derived.Test.YtejfmajbggmghaaGreatTfNext
import Derived.BigQuiet
namespace Go.Proofs.YtejfmajbggmghaaGreat
open Go.RowKit Go.WideShapes

theorem cplog_eq {n l : Nat} (hn : n ≤ 100000) (h3 : 3 ≤ l) (h1 : ¬ rm (2 ^ l) < n) (h2 : ∀ j, 3 ≤ j → j < l → rm (2 ^ j) < n) : cplog n = l := by
  refine logF_eq (by omega) h3 ?_ fun j hj hl => ?_
  · unfold rm at h1
    omega
  · have := h2 j hj hl
    unfold rm at this
    omega
theorem EsB.same' {B : Nat} {w w' : World} {v : Value} {es : List En} (h : EsB B w v es) (e : ∀ k, v.ownBlock = some k → w'.heap[k]? = w.heap[k]?) : EsB B w' v es := by
  refine ⟨h.1, ?_⟩
  rcases h.2 with h0 | ⟨g, cap, cur, rfl, h1, h2, h3⟩
  · exact .inl h0
  · exact .inr ⟨g, cap, cur, rfl, h1, (e g rfl).trans h2, h3⟩
/-- The head of the copy. -/
def ccF (ev : Value) (L q n m : Nat) (mv : Value) : Nat → Value
  | 0 => ev
  | 1 => .int .i64 (L : Int)
  | 2 => .slice (some ⟨q, 0, none⟩) (2 ^ L) (2 ^ L)
  | 3 => .int .i64 (m : Int)
  | 4 => .int .i64 (n : Int)
  | 5 => .int .i64 1
  | 6 => .int .i64 0
  | _ => mv
theorem Rt.exM {w w' : World} {g : Nat} {ev : Value} {q : Nat} {t : Tb} {mv : Value} (hR : Rt w g ev q t mv) (hX : Ex (mB mv) w w') : Rt w' g ev q t mv :=
  hR.same fun k hk => by
    have hlt : k < w.heap.size := by
      rcases hk with rfl | rfl | hk
      · exact hR.hd.lt (by omega)
      · exact hR.rf.lt (pow2_pos _)
      · exact hR.es.lt k hk
    refine hX.block k hlt fun h => ?_
    obtain ⟨x1, x2, x3⟩ := hR.mp k h
    rcases hk with e | e | e
    · exact x1 e
    · exact x2 e
    · exact x3 e
end Go.Proofs.YtejfmajbggmghaaGreat
namespace Go.Proofs.YtejfmajbggmghaaGreat
open Go.RowKit Go.WideShapes

/-- The document's table of t. -/
abbrev RtS (w : World) (g : Nat) (ev : Value) (q : Nat) (t : Tb) (mv : Value) : Prop := Rt w g ev q t.sh mv
theorem Tb.cp_live_all (t : Tb) : ∀ e ∈ t.cp.es, e.live = true := fun e he0 => by
  have he : e ∈ reb (liveL t.es) (liveL t.es).length := he0
  obtain ⟨n, hn, hx⟩ : ∃ n, n < (reb (liveL t.es) (liveL t.es).length).length ∧ nth (reb (liveL t.es) (liveL t.es).length) n = e := by
    obtain ⟨n, hn, he⟩ := List.getElem_of_mem he
    exact ⟨n, hn, by unfold nth; rw [List.getD_eq_getElem?_getD, List.getElem?_eq_getElem hn, Option.getD_some]; exact he⟩
  rw [← hx]
  exact reb_live (fun n hn => liveL_nth _ n hn) _ n (by rwa [reb_len] at hn)
theorem Tb.sh_cp (t : Tb) : t.cp.sh = t.sh.cp := by
  have h1 : t.sh.cp = t.cp := by
    unfold Tb.cp
    show (⟨reb (liveL (shw t.es)) (liveL (shw t.es)).length, cplog (liveL (shw t.es)).length, layN (reb (liveL (shw t.es)) (liveL (shw t.es)).length) (cplog (liveL (shw t.es)).length) (liveL (shw t.es)).length, (liveL (shw t.es)).length, 1, 0⟩ : Tb) = _
    rw [liveL_sh]
  rw [h1]
  have h2 := shw_all t.cp_live_all
  unfold Tb.sh
  rw [h2]
theorem radd_s {w : World} {g : Nat} {ev : Value} {q : Nat} {t : Tb} {mv : Value} {a b c d : Int} (hR : RtS w g ev q t mv) (hO : t.Ok) (hM : Ms w mv a b c d) (hm : t.made ≤ 1000000) (ha : 0 ≤ a ∧ a ≤ 1000000000) (ht : t.turn ≤ 1000000) (hb : t.births < 100000) (u k v : Int) :
    Calls Tryz.prog 85 #[.pointer (some ⟨g, 0, none⟩), .int .i64 u, .int .i64 k, .int .i64 v] w fun e w' => e = .returned (.tuple #[.int .i64 (((t.add u k v).es.length - 1 : Nat) : Int), .int .i64 0]) ∧ ∃ ev' q', (q' = q ∨ w.heap.size ≤ q') ∧ (∀ j, ev'.ownBlock = some j → ev.ownBlock = some j ∨ w.heap.size ≤ j) ∧ RtS w' g ev' q' (t.add u k v) mv ∧ Ms w' mv (a + ((t.add u k v).made - t.made : Nat)) b c d ∧ Ex (tX g ev q mv) w w' := by
  have h := radd_any hR hO.sh hM hm ha ht hb u k v
  rw [← Tb.sh_add, Tb.sh_len] at h
  exact h
theorem rput_no_s {w : World} {g : Nat} {ev : Value} {q : Nat} {t : Tb} {mv : Value} (hR : RtS w g ev q t mv) (n v : Int) (hn : ¬ t.has n) :
    Calls Tryz.prog 82 #[.pointer (some ⟨g, 0, none⟩), .int .i64 n, .int .i64 v] w fun e w' => e = .returned (.int .i64 7) ∧ w' = w := rput_no hR n v (fun h => hn ((t.sh_has n).1 h))
theorem rput_yes_s {w : World} {g : Nat} {ev : Value} {q : Nat} {t : Tb} {mv : Value} (hR : RtS w g ev q t mv) (n : Nat) (v : Int) (hn : n < t.es.length) (hl : (nth t.es n).live = true) :
    Calls Tryz.prog 82 #[.pointer (some ⟨g, 0, none⟩), .int .i64 (n : Int), .int .i64 v] w fun e w' => e = .returned (.int .i64 0) ∧ RtS w' g ev q (t.putv n v) mv ∧ Ex (fun k => ev.ownBlock = some k) w w' := by
  have h := rput_yes hR n v (by rw [Tb.sh_len]; exact hn) (by show (nth (shw t.es) n).live = true; rw [sh_is]; exact hl)
  rw [← Tb.sh_putv t n hl v] at h
  exact h
theorem rkill_no_s {w : World} {g : Nat} {ev : Value} {q : Nat} {t : Tb} {mv : Value} (hR : RtS w g ev q t mv) (n : Int) (hn : ¬ t.has n) :
    Calls Tryz.prog 68 #[.pointer (some ⟨g, 0, none⟩), .int .i64 n] w fun e w' => e = .returned (.int .i64 7) ∧ w' = w := rkill_no hR n (fun h => hn ((t.sh_has n).1 h))
theorem rkill_yes_s {w : World} {g : Nat} {ev : Value} {q : Nat} {t : Tb} {mv : Value} (hR : RtS w g ev q t mv) (n : Nat) (hn : n < t.es.length) (hl : (nth t.es n).live = true) (hlen : t.es.length ≤ 100000) (ht : t.turn ≤ 1000000) :
    Calls Tryz.prog 68 #[.pointer (some ⟨g, 0, none⟩), .int .i64 (n : Int)] w fun e w' => e = .returned (.int .i64 0) ∧ RtS w' g ev q (t.kill n) mv ∧ Ex (fun k => k = g ∨ k = q ∨ ev.ownBlock = some k) w w' := by
  have h := rkill_yes hR n (by rw [Tb.sh_len]; exact hn) (by show (nth (shw t.es) n).live = true; rw [sh_is]; exact hl) (by rw [Tb.sh_len]; exact hlen) ht
  rw [← Tb.sh_kill] at h
  exact h
theorem rclear_s {w : World} {g : Nat} {ev : Value} {q : Nat} {t : Tb} {mv : Value} {a b c d : Int} (hR : RtS w g ev q t mv) (hM : Ms w mv a b c d) (hm : t.made ≤ 1000000) (ha : 0 ≤ a ∧ a ≤ 1000000000) (ht : t.turn ≤ 1000000) :
    Calls Tryz.prog 39 #[.pointer (some ⟨g, 0, none⟩)] w fun e w' => e = .returned (.tuple #[]) ∧ ∃ q', w.heap.size ≤ q' ∧ RtS w' g (.slice none 0 0) q' t.clear mv ∧ Ms w' mv (a + 1) b c d ∧ Ex (fun k => k = g ∨ mB mv k) w w' := rclear_any hR hM hm ha ht
theorem rseek_s {w : World} {g : Nat} {ev : Value} {q : Nat} {t : Tb} {mv : Value} (hR : RtS w g ev q t mv) (u : Int) :
    Calls Tryz.prog 63 #[.pointer (some ⟨g, 0, none⟩), .int .i64 u] w fun e w' => ∃ s, e = .returned (.pointer (some ⟨s, 0, none⟩)) ∧ w.heap.size ≤ s ∧ Blk w' s 8 (sF g u t.turn (trl (uw u) t.L 0) (uw u) false 0 (-1)) ∧ Below w.heap.size w w' := rseek_any hR u
theorem rnext_s {w : World} {g : Nat} {ev : Value} {q : Nat} {t : Tb} {pm : Option Addr} {a b c d : Int} {s i vis f : Nat} {u last : Int} (hR : RtS w g ev q t (.pointer pm)) (hI : Inv t.es t.L t.c) (hM : Ms w (.pointer pm) a b c d) (hs : s ≠ g ∧ s ≠ q ∧ ev.ownBlock ≠ some s) (hsm : ¬ mB (.pointer pm) s)
    (hB : Blk w s 8 (sF g u t.turn (trl (uw u) t.L i) (uw u / 32 ^ i) false vis last)) (hT : Told t.es t.L t.c u i last) (hF : IsF t.c (uw u) t.L f) (hif : i ≤ f) (hf : f < 2 ^ t.L + 13) (hv : vis ≤ 1000000000) (hb : 0 ≤ b ∧ b ≤ 100000000000) (hla : -1 ≤ last) (hlen : t.es.length ≤ 100000) :
    Calls Tryz.prog 65 #[.pointer (some ⟨s, 0, none⟩)] w fun e w' => ∃ j, i ≤ j ∧ j ≤ f ∧
      ((∃ n : Nat, e = .returned (.tuple #[.int .i64 (n : Int), .bool true]) ∧ Of t.es u n ∧ last < (n : Int) ∧ t.c (trl (uw u) t.L j) = (n : Int) ∧ Told t.es t.L t.c u j last ∧ Told t.es t.L t.c u (j + 1) (n : Int) ∧ (∀ m, Of t.es u m → last < (m : Int) → n ≤ m) ∧ Rk w' s g u t (.pointer pm) a b c d w i vis (n : Int) (j + 1) false) ∨
       (e = .returned (.tuple #[.int .i64 (-1), .bool false]) ∧ j = f ∧ (∀ n, Of t.es u n → (n : Int) ≤ last) ∧ Rk w' s g u t (.pointer pm) a b c d w i vis last (j + 1) true)) := by
  refine (rnext_any hR hI.sh hM hs hsm hB (told_sh.2 hT) hF hif hf hv hb hla (by rw [Tb.sh_len]; exact hlen)).mono ?_
  rintro e w' ⟨j, h1, h2, (⟨n, h3, h4, h5, h6, h7, h8, h9, h10⟩ | ⟨h3, h4, h5, h6⟩)⟩
  · exact ⟨j, h1, h2, .inl ⟨n, h3, of_sh.1 h4, h5, h6, told_sh.1 h7, told_sh.1 h8, fun m hm hl => h9 m (of_sh.2 hm) hl, ⟨h10.bk, h10.ms, h10.ex⟩⟩⟩
  · exact ⟨j, h1, h2, .inr ⟨h3, h4, fun n hn => h5 n (of_sh.2 hn), ⟨h6.bk, h6.ms, h6.ex⟩⟩⟩
theorem rtnew_s {w : World} {mv : Value} {a b c d : Int} (hM : Ms w mv a b c d) (ha : 0 ≤ a ∧ a ≤ 1000000000) :
    Calls Tryz.prog 13 #[mv] w fun e w' => ∃ g q, e = .returned (.pointer (some ⟨g, 0, none⟩)) ∧ w.heap.size ≤ g ∧ w.heap.size ≤ q ∧ RtS w' g (.slice none 0 0) q Tb.new mv ∧ Ms w' mv (a + 1) b c d ∧ Ex (mB mv) w w' := rtnew_any hM ha
end Go.Proofs.YtejfmajbggmghaaGreat
namespace Go.Proofs.YtejfmajbggmghaaGreat
open Go.RowKit Go.WideShapes

/-- What a Seeker asks of the meter. -/
def MvOk (mv : Value) (M : Int → Int → World → Prop) : Prop := ∀ a b w, 0 ≤ b → b ≤ 1000000000000 → M a b w → Calls Tryz.prog 96 #[mv, .int .i64 1] w fun e w' => e = .returned (.tuple #[]) ∧ M a (b + 1) w' ∧ Ex (mB mv) w w'
/-- A Seeker's cells: its table, the changes that it knows, its hash, its walk, what it told last, what it visited. -/
def skF (tp : Value) (tu : Nat) (u : Int) (c p S : Nat) (told : Int) (v : Nat) : Nat → Value
  | 0 => tp
  | 1 => .int .i64 (tu : Int)
  | 2 => .int .i64 u
  | 3 => .int .u64 (c : Int)
  | 4 => .int .u64 (p : Int)
  | 5 => .int .u64 ((S : Int) - 1)
  | 6 => .int .i64 told
  | _ => .int .i64 (v : Int)
/-- A Seeker at place i of the trail of u. -/
def Sk (w : World) (s : Nat) (tp : Value) (tu : Nat) (u : Int) (L i : Nat) (told : Int) (v : Nat) : Prop := Blk w s 8 (skF tp tu u (trl (uw u) L i) (uw u / 32 ^ i) (2 ^ L) told v)
set_option maxRecDepth 100000 in
set_option maxHeartbeats 4000000 in
theorem seek_any {w : World} {g gi r h : Nat} {ev : Value} {t : Tb} {mv : Value} (hD : Dt w g gi r h ev t mv) (u : Int) :
    Calls Tryz.prog 74 #[.pointer (some ⟨g, 0, none⟩), .int .i64 u] w fun e w' => ∃ s, e = .returned (.pointer (some ⟨s, 0, none⟩)) ∧ w.heap.size ≤ s ∧ Sk w' s (.pointer (some ⟨g, 0, none⟩)) t.turn u t.L 0 (-1) 0 ∧ Below w.heap.size w w' := by
  have k1 : w.cell? ⟨g, 1, none⟩ = some (.pointer (some ⟨gi, 0, none⟩)) := hD.hd.c 1 (by omega)
  have k6 : w.cell? ⟨g, 6, none⟩ = some (.int .i64 (t.turn : Int)) := hD.hd.c 6 (by omega)
  have hS : Tr.Sz t.L (2 ^ t.L) := ⟨rfl, hD.cl.sz.le⟩
  have CR := ready_yes k1
  have CL : Calls Tryz.prog 92 #[.pointer (some ⟨gi, 0, none⟩)] w.drew fun e w' => e = .returned (.int .i64 (t.L : Int)) ∧ w' = w.drew := log_any (hD.cl.same rfl rfl rfl)
  have CB := Tr.begin_any hS u w.drew
  have hlg := lt_of_cell k1
  have hB0 : Below w.heap.size w w.drew := (Below.refl _ w).drew
  have HT0 : Hid (uw u % 2 ^ t.L = trl (uw u) t.L 0) := by show _ = _; rw [trl]
  rw [HT0.out] at CB
  have d1 : w.drew.cell? ⟨g, 1, none⟩ = some (.pointer (some ⟨gi, 0, none⟩)) := k1
  have d6 : w.drew.cell? ⟨g, 6, none⟩ = some (.int .i64 (t.turn : Int)) := k6
  clear hD hS
  generalize hSS : 2 ^ t.L = S at *
  have HSS := Lib.hid hSS
  clear hSS
  generalize hx0 : trl (uw u) t.L 0 = x0 at *
  generalize hU : uw u = U at *
  have HX0 := Lib.hid hx0
  have HU := Lib.hid hU
  clear hx0 hU HT0
  go_enter Tryz.func74, Tryz.ntmps74
  go_wp2_with fail
  refine CR.mono ?_
  rintro e w1 ⟨rfl, rfl⟩
  clear CR
  go_wp2_with fail
  go_region_held3 (fun V => V.cell? ⟨g, 1, none⟩ = some (.pointer (some ⟨gi, 0, none⟩)) ∧ V.cell? ⟨g, 6, none⟩ = some (.int .i64 (t.turn : Int)))
    (first | with_reducible exact ⟨d1, d6⟩ | with_reducible exact ⟨k1, k6⟩ | with_reducible exact ⟨q1, q6⟩ | with_reducible exact ⟨r1, r6⟩ | fail)
    (first | (go_at_call 92; refine CL.mono ?_; rintro e v2 ⟨rfl, rfl⟩) | (go_at_call 91; refine CB.mono ?_; rintro e w2 ⟨rfl, hb2⟩; have hB2 := hB0.trans hb2; have q1 := (hB2.cell (p := ⟨g, 1, none⟩) hlg).trans k1; have q6 := (hB2.cell (p := ⟨g, 6, none⟩) hlg).trans k6; have r1 := (cell_alloc_old w2 (.cells #[.pointer (some ⟨g, 0, none⟩), .int .i64 (t.turn : Int), .int .i64 u, .int .u64 (x0 : Int), .int .u64 (U : Int), .int .u64 ((S : Int) - 1), .int .i64 (-1), .int .i64 0] 131) g 1 (Nat.lt_of_lt_of_le hlg hB2.size)).trans q1; have r6 := (cell_alloc_old w2 (.cells #[.pointer (some ⟨g, 0, none⟩), .int .i64 (t.turn : Int), .int .i64 u, .int .u64 (x0 : Int), .int .u64 (U : Int), .int .u64 ((S : Int) - 1), .int .i64 (-1), .int .i64 0] 131) g 6 (Nat.lt_of_lt_of_le hlg hB2.size)).trans q6) | fail)
  have HB : Hid (Blk (w2.alloc (.cells #[.pointer (some ⟨g, 0, none⟩), .int .i64 (t.turn : Int), .int .i64 u, .int .u64 (x0 : Int), .int .u64 (U : Int), .int .u64 ((S : Int) - 1), .int .i64 (-1), .int .i64 0] 131)) w2.heap.size 8 (skF (.pointer (some ⟨g, 0, none⟩)) t.turn u x0 U S (-1) 0)) := (Blk.new w2 _ _).congr fun j hj => by
    have : j = 0 ∨ j = 1 ∨ j = 2 ∨ j = 3 ∨ j = 4 ∨ j = 5 ∨ j = 6 ∨ j = 7 := by simp at hj; omega
    rcases this with rfl | rfl | rfl | rfl | rfl | rfl | rfl | rfl <;> rfl
  have HBW : Hid (∀ o, Below w1.heap.size w1 (w2.alloc o)) := fun o => hB2.alloc hB2.size o
  have hs2 := hB2.size
  clear q1 q6 r1 r6 d1 d6 k1 k6 hB2 hb2
  go_wp2
  go_ret
  refine ⟨w2.heap.size, rfl, hs2, ?_, HBW.out _⟩
  unfold Sk
  rw [HSS.out, HU.out, HX0.out]
  simpa using HB.out
end Go.Proofs.YtejfmajbggmghaaGreat
namespace Go.Proofs.YtejfmajbggmghaaGreat
open Go.RowKit Go.WideShapes

set_option maxRecDepth 100000 in
set_option maxHeartbeats 4000000 in
theorem hasEnded_no {w : World} {s g tu : Nat} (x0 : w.cell? ⟨s, 0, none⟩ = some (.pointer (some ⟨g, 0, none⟩))) (x1 : w.cell? ⟨s, 1, none⟩ = some (.int .i64 (tu : Int))) (k6 : w.cell? ⟨g, 6, none⟩ = some (.int .i64 (tu : Int))) :
    Calls Tryz.prog 75 #[.pointer (some ⟨s, 0, none⟩)] w fun e w' => e = .returned (.bool false) ∧ w' = w.drew := by
  go_enter Tryz.func75, Tryz.ntmps75
  go_wp2_with fail
  go_region_held3 (fun V => V.cell? ⟨s, 0, none⟩ = some (.pointer (some ⟨g, 0, none⟩)) ∧ V.cell? ⟨s, 1, none⟩ = some (.int .i64 (tu : Int)) ∧ V.cell? ⟨g, 6, none⟩ = some (.int .i64 (tu : Int)))
    (first | exact ⟨x0, x1, k6⟩ | fail) (fail)
  go_wp2
  go_ret
  exact ⟨rfl, rfl⟩
set_option maxRecDepth 100000 in
set_option maxHeartbeats 4000000 in
theorem visit7_any {w : World} {g gi r h : Nat} {ev : Value} {t : Tb} {mv : Value} {M : Int → Int → World → Prop} {a b : Int} (hD : Dt w g gi r h ev t mv) (hMo : MtOk mv M) (hMv : MvOk mv M) (hM : M a b w) (hb : 0 ≤ b ∧ b ≤ 1000000000000) {s tu i v : Nat} {u told : Int} (hK : Sk w s (.pointer (some ⟨g, 0, none⟩)) tu u t.L i told v) (hs : ¬ dX g gi r h ev s) (hsm : ¬ mB mv s) (hv : v ≤ 1000000000) :
    Calls Tryz.prog 76 #[.pointer (some ⟨s, 0, none⟩)] w fun e w' => e = .returned (.int .i64 (t.c (trl (uw u) t.L i))) ∧ Sk w' s (.pointer (some ⟨g, 0, none⟩)) tu u t.L (i + 1) told (v + 1) ∧ M a (b + 1) w' ∧ Ex (fun k => k = s ∨ mB mv k) w w' := by
  have hS : Tr.Sz t.L (2 ^ t.L) := ⟨rfl, hD.cl.sz.le⟩
  have hx := trl_lt (uw u) t.L i
  have hm := hS.most
  have hp64 : uw u / 32 ^ i < 18446744073709551616 := Nat.lt_of_le_of_lt (Nat.div_le_self _ _) (uw_lt u)
  have x0 : w.cell? ⟨s, 0, none⟩ = some (.pointer (some ⟨g, 0, none⟩)) := hK.c 0 (by omega)
  have k1 : w.cell? ⟨g, 1, none⟩ = some (.pointer (some ⟨gi, 0, none⟩)) := hD.hd.c 1 (by omega)
  have k0 : w.cell? ⟨g, 0, none⟩ = some mv := hD.hd.c 0 (by omega)
  have hsg : s ≠ g := fun e => hs (.inl e)
  have lg := hD.hd.lt (by omega)
  have ls := hK.lt (by omega)
  have CC : Calls Tryz.prog 94 #[.pointer (some ⟨s, 3, none⟩)] w.drew fun e w' => e = .returned (.int .i64 ((trl (uw u) t.L i : Nat) : Int)) ∧ w' = w.drew := Tr.cell_any s 3 _ (by omega) _ (hK.c 3 (by omega))
  have CG : Calls Tryz.prog 93 #[.pointer (some ⟨gi, 0, none⟩), .int .i64 ((trl (uw u) t.L i : Nat) : Int)] w.drew fun e w' => e = .returned (.tuple #[.int .i64 (t.c (trl (uw u) t.L i)), .int .i64 0]) ∧ w' = w.drew := getM_yes (hD.cl.same (w' := w.drew) rfl rfl rfl) _ hx
  have CS : Calls Tryz.prog 95 #[.pointer (some ⟨s, 3, none⟩)] w.drew _ := Tr.step_any hS s 3 _ _ hx hp64 w.drew (hK.c 3 (by omega)) (hK.c 4 (by omega)) (hK.c 5 (by omega)) (hK.z 3) (hK.z 4)
  rw [show (trl (uw u) t.L i * 5 + uw u / 32 ^ i / 32 + 1) % 2 ^ t.L = trl (uw u) t.L (i + 1) by rw [trl, left_step], left_step] at CS
  have hK2 : Blk (Tr.stepW w.drew s 3 (trl (uw u) t.L (i + 1)) (uw u / 32 ^ (i + 1))) s 8 (skF (.pointer (some ⟨g, 0, none⟩)) tu u (trl (uw u) t.L (i + 1)) (uw u / 32 ^ (i + 1)) (2 ^ t.L) told v) := by
    unfold Tr.stepW
    have h1 : Blk w.drew s 8 _ := hK.same rfl
    refine (((h1.put 4 _).put 3 _).same (w' := World.drew _) rfl).congr fun j hj => ?_
    have : j = 0 ∨ j = 1 ∨ j = 2 ∨ j = 3 ∨ j = 4 ∨ j = 5 ∨ j = 6 ∨ j = 7 := by omega
    rcases this with rfl | rfl | rfl | rfl | rfl | rfl | rfl | rfl <;> rfl
  have hX2 : Ex (fun k => k = s ∨ mB mv k) w (Tr.stepW w.drew s 3 (trl (uw u) t.L (i + 1)) (uw u / 32 ^ (i + 1))) := by
    unfold Tr.stepW
    exact (((Ex.refl _ w).drew.setCell (p := ⟨s, 3 + 1, none⟩) (fun _ => .inl rfl) _).setCell (p := ⟨s, 3, none⟩) (fun _ => .inl rfl) _).drew
  have HX2same : Hid (∀ k, mB mv k → k ≠ s → (Tr.stepW w.drew s 3 (trl (uw u) t.L (i + 1)) (uw u / 32 ^ (i + 1))).heap[k]? = w.heap[k]?) := fun k _ hks => by
    unfold Tr.stepW
    show (World.setCell _ _ _).heap[k]? = _
    rw [Below.heap_setCell _ _ _ _ hks, Below.heap_setCell _ _ _ _ hks]
    rfl
  have HD := Lib.hid hD
  have HMO := Lib.hid hMo
  have HMV := Lib.hid hMv
  have HM := Lib.hid hM
  clear hS hx hD hK hMo hMv hM hp64
  generalize t.c (trl (uw u) t.L i) = cv at *
  generalize trl (uw u) t.L i = x at *
  generalize Tr.stepW w.drew s 3 (trl (uw u) t.L (i + 1)) (uw u / 32 ^ (i + 1)) = w2 at *
  have d0 : w.drew.cell? ⟨s, 0, none⟩ = some (.pointer (some ⟨g, 0, none⟩)) := x0
  have d1 : w.drew.cell? ⟨g, 1, none⟩ = some (.pointer (some ⟨gi, 0, none⟩)) := k1
  go_enter Tryz.func76, Tryz.ntmps76
  go_wp2_with fail
  go_region_held3 (fun V => V.cell? ⟨s, 0, none⟩ = some (.pointer (some ⟨g, 0, none⟩)) ∧ V.cell? ⟨g, 1, none⟩ = some (.pointer (some ⟨gi, 0, none⟩)))
    (first | with_reducible exact ⟨d0, d1⟩ | with_reducible exact ⟨x0, k1⟩ | fail)
    (first | (go_at_call 94; refine CC.mono ?_; rintro e v2 ⟨rfl, rfl⟩) | (go_at_call 93; refine CG.mono ?_; rintro e v2 ⟨rfl, rfl⟩) | fail)
  clear CC CG
  have y0 : w2.cell? ⟨s, 0, none⟩ = some (.pointer (some ⟨g, 0, none⟩)) := hK2.c 0 (by omega)
  have y7 : w2.cell? ⟨s, 7, none⟩ = some (.int .i64 (v : Int)) := hK2.c 7 (by omega)
  have yz7 := hK2.z 7
  have e7 : IntKind.i64.wrap ((v : Int) + 1) = (v : Int) + 1 := i64_small (by omega) (by omega)
  have o3 : ∀ k, k ≠ s → (w2.setCell ⟨s, 7, none⟩ (.int .i64 ((v : Int) + 1))).heap[k]? = w2.heap[k]? := fun k hk => Below.heap_setCell _ _ _ _ hk
  have hK3 : Blk (w2.setCell ⟨s, 7, none⟩ (.int .i64 ((v : Int) + 1))) s 8 (skF (.pointer (some ⟨g, 0, none⟩)) tu u (trl (uw u) t.L (i + 1)) (uw u / 32 ^ (i + 1)) (2 ^ t.L) told (v + 1)) := (hK2.put 7 _).congr fun j hj => by
    have : j = 0 ∨ j = 1 ∨ j = 2 ∨ j = 3 ∨ j = 4 ∨ j = 5 ∨ j = 6 ∨ j = 7 := by omega
    rcases this with rfl | rfl | rfl | rfl | rfl | rfl | rfl | rfl
    · rfl
    · rfl
    · rfl
    · rfl
    · rfl
    · rfl
    · rfl
    · show Value.int .i64 ((v + 1 : Nat) : Int) = Value.int .i64 ((v : Int) + 1)
      rw [Int.natCast_add]
      rfl
  have hX3 := hX2.setCell (p := ⟨s, 7, none⟩) (fun _ => .inl rfl) (.int .i64 ((v : Int) + 1))
  have z0 : (w2.setCell ⟨s, 7, none⟩ (.int .i64 ((v : Int) + 1))).cell? ⟨s, 0, none⟩ = some (.pointer (some ⟨g, 0, none⟩)) := hK3.c 0 (by omega)
  have zg : (w2.setCell ⟨s, 7, none⟩ (.int .i64 ((v : Int) + 1))).cell? ⟨g, 0, none⟩ = some mv := (World.cell?_of_block (a := ⟨g, 0, none⟩) (hX3.block g lg (fun hx => hx.elim (fun e => hsg e.symm) (fun e => (HD.out.mp g e).1 rfl)))).trans k0
  have hM3 : M a b (w2.setCell ⟨s, 7, none⟩ (.int .i64 ((v : Int) + 1))) := HMO.out.same a b w _ HM.out fun k hk => by
    have hks : k ≠ s := fun e => hsm (e ▸ hk)
    rw [o3 k hks]
    exact HX2same.out k hk hks
  have CV := HMV.out a b _ hb.1 hb.2 hM3
  have HK3 := Lib.hid hK3
  have HX3 := Lib.hid hX3
  clear hK2 hX2 hK3 hX3 hM3 o3
  go_wp2_with fail
  refine CS.mono ?_
  rintro e w3 ⟨rfl, rfl⟩
  clear CS
  go_wp2_with fail
  refine CV.mono ?_
  rintro e w4 ⟨rfl, hM4, hX4⟩
  clear CV
  go_wp2
  go_ret
  refine ⟨rfl, HK3.out.same (hX4.block s (by have := HX3.out.size; omega) hsm), hM4, HX3.out.next hX4 (fun k _ hk => .inr hk)⟩
end Go.Proofs.YtejfmajbggmghaaGreat
namespace Go.Proofs.YtejfmajbggmghaaGreat
open Go.RowKit Go.WideShapes

theorem Ex.drewN {X : Nat → Prop} {a w : World} (x : Ex X a w) (n : Nat) : Ex X a (w.drewN n) := ⟨x.os, x.tape, x.output, x.size, x.block⟩
/-- What Next leaves: it went on to place j; it told n, or it has ended. -/
structure Nx (w : World) (s g : Nat) (t : Tb) (mv : Value) (M : Int → Int → World → Prop) (a b : Int) (u : Int) (i v j : Nat) (tp : Value) (told : Int) (w' : World) : Prop where
  sk : Sk w' s tp t.turn u t.L (j + 1) told (v + (j + 1 - i))
  m : M a (b + ((j + 1 - i : Nat) : Int)) w'
  ex : Ex (fun k => k = s ∨ mB mv k) w w'
set_option maxRecDepth 100000 in
set_option maxHeartbeats 8000000 in
theorem next7_any {w : World} {g gi r h : Nat} {ev : Value} {t : Tb} {mv : Value} {M : Int → Int → World → Prop} {a b : Int} (hD : Dt w g gi r h ev t mv) (hI : Inv t.es t.L t.c) (hMo : MtOk mv M) (hMv : MvOk mv M) (hM : M a b w) (hb : 0 ≤ b ∧ b ≤ 100000000000) {s i v f : Nat} {u told : Int} (hK : Sk w s (.pointer (some ⟨g, 0, none⟩)) t.turn u t.L i told v) (hs : ¬ dX g gi r h ev s) (hsm : ¬ mB mv s) (hv : v ≤ 100000000)
    (hT : Told t.es t.L t.c u i told) (hF : IsF t.c (uw u) t.L f) (hf : f < 2 ^ t.L + 13) (hif : i ≤ f) (htd : -1 ≤ told) (hlen : t.es.length ≤ 100000) :
    Calls Tryz.prog 59 #[.pointer (some ⟨s, 0, none⟩)] w fun e w' => ∃ j, i ≤ j ∧ j ≤ f ∧ ((∃ n : Nat, e = .returned (.tuple #[.int .i64 (n : Int), .bool true]) ∧ Of t.es u n ∧ told < (n : Int) ∧ t.c (trl (uw u) t.L j) = (n : Int) ∧ Told t.es t.L t.c u j told ∧ Told t.es t.L t.c u (j + 1) (n : Int) ∧ (∀ m, Of t.es u m → told < (m : Int) → n ≤ m) ∧ Nx w s g t mv M a b u i v j (.pointer (some ⟨g, 0, none⟩)) (n : Int) w') ∨
      (e = .returned (.tuple #[.int .i64 (-1), .bool false]) ∧ j = f ∧ (∀ n, Of t.es u n → (n : Int) ≤ told) ∧ Nx w s g t mv M a b u i v j (.pointer none) told w')) := by
  have hm : 2 ^ t.L ≤ 1048576 := Nat.le_trans (Nat.pow_le_pow_right (n := 2) (by decide) hD.cl.sz.le) (by decide)
  have CE := hasEnded_no (hK.c 0 (by omega)) (hK.c 1 (by omega)) (hD.hd.c 6 (by omega))
  have HD := Lib.hid hD
  have HI := Lib.hid hI
  have HMO := Lib.hid hMo
  have HMV := Lib.hid hMv
  have HF := Lib.hid hF
  have HSD := Lib.hid hs
  have HK0 : Hid (Sk w.drew s (.pointer (some ⟨g, 0, none⟩)) t.turn u t.L i told v) := hK.same rfl
  have HM0 : Hid (M a b w.drew) := hMo.same a b w _ hM fun _ _ => rfl
  have HT0 := Lib.hid hT
  have hlg := hD.hd.lt (by omega)
  have hls := hK.lt (by omega)
  have hsg : s ≠ g := fun e => hs (.inl e)
  clear hD hI hMo hMv hF hs hK hM hT
  go_enter Tryz.func59, Tryz.ntmps59
  go_wp2_with fail
  refine CE.mono ?_
  rintro e w1 ⟨rfl, hw1⟩
  clear CE
  have HW1 := Lib.hid hw1
  clear hw1
  go_wp2_with fail
  go_loopg [4] (f + 1 - i) (fun gk _ wr => ∃ j : Nat, j + gk = f + 1 ∧ i ≤ j ∧ j ≤ f ∧ Sk wr s (.pointer (some ⟨g, 0, none⟩)) t.turn u t.L j told (v + (j - i)) ∧ M a (b + ((j - i : Nat) : Int)) wr ∧ Told t.es t.L t.c u j told ∧ Ex (fun k => k = s ∨ mB mv k) w wr)
  case atStart => exact ⟨i, by omega, Nat.le_refl _, hif, by rw [Nat.sub_self, Nat.add_zero, HW1.out]; exact HK0.out, by rw [Nat.sub_self, Int.natCast_zero, Int.add_zero, HW1.out]; exact HM0.out, HT0.out, by rw [HW1.out]; exact (Ex.refl _ w).drew⟩
  case round =>
    clear HK0 HM0 HT0 HW1
    obtain ⟨j, hgj, hij, hjf, hKj, hMj, hTj, hXj⟩ := hrel
    have hDj : Dt wr g gi r h ev t mv := HD.out.same fun k hk => hXj.block k (HD.out.lt k hk) (fun hx => hx.elim (fun e => HSD.out (e ▸ hk)) (fun e => by
      obtain ⟨m1, m2, m3, m4, m5⟩ := HD.out.mp k e
      rcases hk with y | y | y | y | y
      · exact m1 y
      · exact m2 y
      · exact m3 y
      · exact m4 y
      · exact m5 y))
    have CV := visit7_any hDj HMO.out HMV.out hMj (by omega) hKj HSD.out hsm (by omega)
    have HXj := Lib.hid hXj
    have HTj := Lib.hid hTj
    clear hDj hKj hMj hXj hTj
    have hsub : v + (j - i) + 1 = v + (j + 1 - i) := by omega
    have hsub2 : b + ((j - i : Nat) : Int) + 1 = b + ((j + 1 - i : Nat) : Int) := by omega
    rw [hsub, hsub2] at CV
    go_wp2_with fail
    refine CV.mono ?_
    rintro e w2 ⟨rfl, hK2, hM2, hX2⟩
    clear CV
    have hXw : Ex (fun k => k = s ∨ mB mv k) w w2 := HXj.out.trans hX2
    have hDw : Dt w2 g gi r h ev t mv := HD.out.same fun k hk => hXw.block k (HD.out.lt k hk) (fun hx => hx.elim (fun e => HSD.out (e ▸ hk)) (fun e => by
      obtain ⟨m1, m2, m3, m4, m5⟩ := HD.out.mp k e
      rcases hk with y | y | y | y | y
      · exact m1 y
      · exact m2 y
      · exact m3 y
      · exact m4 y
      · exact m5 y))
    have x0 : w2.cell? ⟨s, 0, none⟩ = some (.pointer (some ⟨g, 0, none⟩)) := hK2.c 0 (by omega)
    have x2 : w2.cell? ⟨s, 2, none⟩ = some (.int .i64 u) := hK2.c 2 (by omega)
    have x6 : w2.cell? ⟨s, 6, none⟩ = some (.int .i64 told) := hK2.c 6 (by omega)
    have z0 := hK2.z 0
    have z6 := hK2.z 6
    have HK2 := Lib.hid hK2
    have HM2 := Lib.hid hM2
    have HX2 := Lib.hid hXw
    clear hX2 hK2 hM2
    by_cases hE : t.c (trl (uw u) t.L j) = -1
    · have hjF : j = f := (show IsF t.c (uw u) t.L j from ⟨hE, fun q hq => HF.out.2 q (by omega)⟩).uniq HF.out
      have HEnd := Lib.hid (told_end HI.out HTj.out hE)
      have HN : Hid (Nx w s g t mv M a b u i v j (.pointer none) told (w2.setCell ⟨s, 0, none⟩ (.pointer none))) := by
        refine ⟨(HK2.out.put 0 _).congr (fun q hq => ?_), HMO.out.same _ _ w2 _ HM2.out (fun k hk => Below.heap_setCell _ _ _ _ (fun (e : k = s) => hsm (e ▸ hk))), HX2.out.setCell (p := ⟨s, 0, none⟩) (fun _ => .inl rfl) _⟩
        have : q = 0 ∨ q = 1 ∨ q = 2 ∨ q = 3 ∨ q = 4 ∨ q = 5 ∨ q = 6 ∨ q = 7 := by omega
        rcases this with rfl | rfl | rfl | rfl | rfl | rfl | rfl | rfl <;> rfl
      rw [hE]
      have HJF := Lib.hid hjF
      clear hE hDw hXw hjF
      go_wp2
      go_ret2
      exact ⟨j, hij, hjf, .inr ⟨rfl, HJF.out, HEnd.out, HN.out⟩⟩
    · have hjlt : j < f := by
        rcases Nat.lt_or_ge j f with z | z
        · exact z
        · exact absurd (by rw [show j = f by omega]; exact HF.out.1) hE
      have k2 : w2.cell? ⟨g, 2, none⟩ = some ev := hDw.hd.c 2 (by omega)
      obtain ⟨ae, cape, ge, hev, hae, hro⟩ := hDw.es.open
      rw [hev] at k2
      have hcap := hro.le
      rcases HI.out.cell (uw u) j hE with hc | ⟨n, hn, hc, hl⟩
      · have HT1 := Lib.hid (told_no HTj.out (fun q hq _ => by omega))
        have tc : decide (told < -2) = false := decide_eq_false (by omega)
        rw [hc]
        clear hE hDw hXw hro hae hc hev k2
        go_wp2_with fail
        go_quiet (fail)
        go_wp2_with fail
        go_roundg (f + 1 - (j + 1))
        case measure => omega
        case rel => exact ⟨j + 1, by omega, by omega, by omega, HK2.out.same rfl, HMO.out.same _ _ w2 _ HM2.out (fun _ _ => rfl), HT1.out, HX2.out.drewN _⟩
      · obtain ⟨hae1, _, _⟩ := hae (by omega)
        subst hae1
        have ke := hro.c1 n hn
        have tn : (n : Int) < (t.es.length : Int) := by omega
        have tn1 : ((n : Int) == -1) = false := by rw [beq_eq_false_iff_ne]; omega
        by_cases htn : told < (n : Int)
        · have td : decide (told < (n : Int)) = true := decide_eq_true htn
          by_cases hh : (nth t.es n).hash = u
          · have hOf : Of t.es u n := ⟨hn, hl, hh⟩
            have HC := Lib.hid hc
            have HT1 := Lib.hid (told_yes HI.out HTj.out hc htn hOf)
            have HOF := Lib.hid hOf
            have HN : Hid (Nx w s g t mv M a b u i v j (.pointer (some ⟨g, 0, none⟩)) (n : Int) (w2.drew.setCell ⟨s, 6, none⟩ (.int .i64 (n : Int)))) := by
              refine ⟨((show Blk w2.drew s 8 _ from HK2.out.same rfl).put 6 _).congr (fun q hq => ?_), HMO.out.same _ _ w2 _ HM2.out (fun k hk => Below.heap_setCell _ _ _ _ (fun (e : k = s) => hsm (e ▸ hk))), HX2.out.drew.setCell (p := ⟨s, 6, none⟩) (fun _ => .inl rfl) _⟩
              have : q = 0 ∨ q = 1 ∨ q = 2 ∨ q = 3 ∨ q = 4 ∨ q = 5 ∨ q = 6 ∨ q = 7 := by omega
              rcases this with rfl | rfl | rfl | rfl | rfl | rfl | rfl | rfl <;> rfl
            rw [hh] at ke
            rw [hc]
            clear hE hDw hXw hro hae hc hev hOf hh
            go_wp2_with fail
            go_region_held3 (fun V => V.cell? ⟨s, 6, none⟩ = some (.int .i64 told) ∧ V.cell? ⟨s, 0, none⟩ = some (.pointer (some ⟨g, 0, none⟩)) ∧ V.cell? ⟨s, 2, none⟩ = some (.int .i64 u) ∧ V.cell? ⟨g, 2, none⟩ = some (.slice (some ⟨ge, 0, none⟩) t.es.length cape) ∧ V.cell? ⟨ge, n * 5 + 1, none⟩ = some (.int .i64 u)) (first | exact ⟨x6, x0, x2, k2, ke⟩ | fail) (fail)
            go_wp2
            go_ret2
            exact ⟨j, hij, hjf, .inl ⟨n, rfl, HOF.out, htn, HC.out, HTj.out, HT1.out.1, HT1.out.2, HN.out⟩⟩
          · have HT1 := Lib.hid (told_no HTj.out (fun q hq hO => by
              have : q = n := by omega
              subst this
              exact absurd hO.2.2 hh))
            have th : ((nth t.es n).hash == u) = false := by rw [beq_eq_false_iff_ne]; exact hh
            rw [hc]
            clear hE hDw hXw hro hae hc hev
            generalize (nth t.es n).hash = hv1 at *
            go_wp2_with fail
            go_region_held3 (fun V => V.cell? ⟨s, 6, none⟩ = some (.int .i64 told) ∧ V.cell? ⟨s, 0, none⟩ = some (.pointer (some ⟨g, 0, none⟩)) ∧ V.cell? ⟨s, 2, none⟩ = some (.int .i64 u) ∧ V.cell? ⟨g, 2, none⟩ = some (.slice (some ⟨ge, 0, none⟩) t.es.length cape) ∧ V.cell? ⟨ge, n * 5 + 1, none⟩ = some (.int .i64 hv1)) (first | exact ⟨x6, x0, x2, k2, ke⟩ | fail) (fail)
            go_wp2_with fail
            go_roundg (f + 1 - (j + 1))
            case measure => omega
            case rel => exact ⟨j + 1, by omega, by omega, by omega, HK2.out.same rfl, HMO.out.same _ _ w2 _ HM2.out (fun _ _ => rfl), HT1.out, HX2.out.drew⟩
        · have HT1 := Lib.hid (told_no HTj.out (fun q hq _ => by omega))
          have td : decide (told < (n : Int)) = false := decide_eq_false htn
          rw [hc]
          clear hE hDw hXw hro hae hc hev k2
          go_wp2_with fail
          go_quiet (fail)
          go_wp2_with fail
          go_roundg (f + 1 - (j + 1))
          case measure => omega
          case rel => exact ⟨j + 1, by omega, by omega, by omega, HK2.out.same rfl, HMO.out.same _ _ w2 _ HM2.out (fun _ _ => rfl), HT1.out, HX2.out.drewN _⟩
set_option maxRecDepth 100000 in
set_option maxHeartbeats 4000000 in
theorem at7_yes {w : World} {g gi r h : Nat} {ev : Value} {t : Tb} {mv : Value} (hD : Dt w g gi r h ev t mv) (n : Nat) (hn : n < t.es.length) (hl : (nth t.es n).live = true) :
    Calls Tryz.prog 60 #[.pointer (some ⟨g, 0, none⟩), .int .i64 (n : Int)] w fun e w' => e = .returned (.tuple #[.agg #[.bool (nth t.es n).live, .int .i64 (nth t.es n).hash, .int .i64 (nth t.es n).key, .int .i64 (nth t.es n).value, .int .i64 (nth t.es n).birth], .int .i64 0]) ∧ Below w.heap.size w w' := by
  obtain ⟨w1, hw1⟩ : ∃ y, w.alloc (.cells #[.bool false, .int .i64 0, .int .i64 0, .int .i64 0, .int .i64 0] 48) = y := ⟨_, rfl⟩
  have hB1 : Below w.heap.size w w1 := by rw [← hw1]; exact (Below.refl _ w).alloc (Nat.le_refl _) _
  have hX1 : Blk w1 w.heap.size 5 (fun j => #[Value.bool false, .int .i64 0, .int .i64 0, .int .i64 0, .int .i64 0].getD j .nilFunc) := by rw [← hw1]; exact Blk.new w _ _
  have hs1 : w1.heap.size = w.heap.size + 1 := by rw [← hw1]; simp
  have hD1 := hD.below hB1
  have C1 := trefuse_any (hD1.hd.c 2 (by omega)) hD1.es (n : Int)
  rw [show noE t (n : Int) = 0 from if_pos ⟨by omega, by omega, by rw [Int.toNat_natCast]; exact hl⟩] at C1
  obtain ⟨ae, cape, ge, hev, hae, hro⟩ := hD1.es.open
  obtain ⟨rfl, _, _⟩ := hae (by omega)
  have hcap := hro.le
  have k2 : w1.cell? ⟨g, 2, none⟩ = some (.slice (some ⟨ge, 0, none⟩) t.es.length cape) := by rw [← hev]; exact hD1.hd.c 2 (by omega)
  have e0 := hro.c0 n hn
  have e1 := hro.c1 n hn
  have e2 := hro.c2 n hn
  have e3 := hro.c3 n hn
  have e4 := hro.c4 n hn
  have a0 := hX1.c 0 (by omega)
  have a1 := hX1.c 1 (by omega)
  have a2 := hX1.c 2 (by omega)
  have a3 := hX1.c 3 (by omega)
  have a4 := hX1.c 4 (by omega)
  have z0 := hX1.z 0
  have z1 := hX1.z 1
  have z2 := hX1.z 2
  have z3 := hX1.z 3
  have z4 := hX1.z 4
  have t0 : (n : Int) < (t.es.length : Int) := by omega
  have HW := Lib.hid hw1
  have HX1 := Lib.hid hX1
  have HB1 := Lib.hid hB1
  clear hw1 hX1 hB1 hD hD1 hro hae hev hl
  generalize (nth t.es n).live = x0 at *
  generalize (nth t.es n).hash = x1 at *
  generalize (nth t.es n).key = x2 at *
  generalize (nth t.es n).value = x3 at *
  generalize (nth t.es n).birth = x4 at *
  go_enter Tryz.func60, Tryz.ntmps60
  go_wp2_with fail
  rw [HW.out]
  refine C1.mono ?_
  rintro e w2 ⟨rfl, rfl⟩
  clear C1
  have HR := Lib.hid (((((HX1.out.put 0 (.bool x0)).put 1 (.int .i64 x1)).put 2 (.int .i64 x2)).put 3 (.int .i64 x3)).put 4 (.int .i64 x4))
  have HBB : Hid (Below w.heap.size w (((((w2.setCell ⟨w.heap.size, 0, none⟩ (.bool x0)).setCell ⟨w.heap.size, 1, none⟩ (.int .i64 x1)).setCell ⟨w.heap.size, 2, none⟩ (.int .i64 x2)).setCell ⟨w.heap.size, 3, none⟩ (.int .i64 x3)).setCell ⟨w.heap.size, 4, none⟩ (.int .i64 x4))) := ((((HB1.out.setCell (p := ⟨w.heap.size, 0, none⟩) (Nat.le_refl _) _).setCell (p := ⟨w.heap.size, 1, none⟩) (Nat.le_refl _) _).setCell (p := ⟨w.heap.size, 2, none⟩) (Nat.le_refl _) _).setCell (p := ⟨w.heap.size, 3, none⟩) (Nat.le_refl _) _).setCell (p := ⟨w.heap.size, 4, none⟩) (Nat.le_refl _) _
  go_wp2_with fail
  generalize World.setCell (World.setCell (World.setCell (World.setCell (World.setCell w2 _ _) _ _) _ _) _ _) _ _ = w3 at *
  have p0 : w3.cell? ⟨w.heap.size, 0, none⟩ = some (.bool x0) := HR.out.c 0 (by omega)
  have p1 : w3.cell? ⟨w.heap.size, 1, none⟩ = some (.int .i64 x1) := HR.out.c 1 (by omega)
  have p2 : w3.cell? ⟨w.heap.size, 2, none⟩ = some (.int .i64 x2) := HR.out.c 2 (by omega)
  have p3 : w3.cell? ⟨w.heap.size, 3, none⟩ = some (.int .i64 x3) := HR.out.c 3 (by omega)
  have p4 : w3.cell? ⟨w.heap.size, 4, none⟩ = some (.int .i64 x4) := HR.out.c 4 (by omega)
  refine bodyPost_ret (v := .tuple #[.agg #[.bool x0, .int .i64 x1, .int .i64 x2, .int .i64 x3, .int .i64 x4], .int .i64 0]) ?_ rfl ⟨rfl, HBB.out⟩
  simp [results, Tryz.results60, go_sem, p0, p1, p2, p3, p4]
end Go.Proofs.YtejfmajbggmghaaGreat
