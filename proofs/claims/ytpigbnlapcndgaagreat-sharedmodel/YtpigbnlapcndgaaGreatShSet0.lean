/-
  A row's add, whatever comes of it; a namespace and its family; what Set, Get, Del begin with.
-/
import Derived.Test.YtpigbnlapcndgaaGreatSst
namespace Go.Proofs.YtpigbnlapcndgaaGreat
open Go.RowKit Go.WideShapes

/-- A row's add. -/
theorem rowAdd_any {w : World} {q f : Nat} {F : Fa} {pm : Option Addr} {XF XQ : Nat → Prop} {vs : List Int} {N : Int → Int → Int → Int → World → Prop} {a b c d : Int} {c0 : Nat} (hF : FamX w f F (.pointer pm) XF) (hS : Sq w q f (.pointer pm) XQ (.row vs)) (ap : ∀ k, XF k → ¬ XQ k) (mq : ∀ k, mB (.pointer pm) k → ¬ XQ k) (hM4 : M4 (.pointer pm) N) (hM : N a b c d w) (ha : 0 ≤ a ∧ a ≤ 10000000) (hc : 0 ≤ c ∧ c ≤ 100000000) (hd : 0 ≤ d ∧ d ≤ 100000000) (hO : F.Ok hsT c0) (hc0 : c0 ≤ 49000) (hl : vs.length ≤ F.kt.es.length) (hmo : vs.length < F.most) {nm : ByteArray} (hs : nm.size ≤ 3000) {k : Int} (hk : Num F.all nm k) (res : Int)
    (hres : (∃ n : Nat, res = (n : Int) ∧ Fnd F.kt.es k n ∧ vs.length ≤ n) ∨ (res = -1 ∧ ∀ n, ¬ Fnd F.kt.es k n)) (v : Int) :
    Calls Tryz.prog 99 #[.pointer (some ⟨q, 0, none⟩), .string nm, .int .i64 res, .int .i64 v] w fun e w' => ∃ q' F' st' dc dd, e = .returned (.iface (tyS st') (.pointer (some ⟨q', 0, none⟩))) ∧ SetR hsT F nm v (.row vs) F' st' 0 dc dd ∧ ∃ XF' XQ', SdR w f (.pointer pm) N XF XQ F' st' q' (a + (F'.kt.made : Int) - (F.kt.made : Int) + (mdS st' : Int)) b (c + (dc : Int)) (d + (dd : Int)) w' XF' XQ' := by
  have hlive : F.kt.live = F.kt.es.length := by rw [Tb.live_eq, live_all hO.dead]
  have hfl : liveL F.kt.es = F.kt.es := live_all hO.dead
  have turn : (∀ n, Fnd F.kt.es k n → vs.length < n) → ¬ (F.kt.es.length = vs.length ∧ vs.length < F.room) → (if (vs.length : Int) < (F.kt.live : Int) then decide (res = (vs.length : Int)) else decide ((vs.length : Int) < (F.room : Int))) = false →
      Calls Tryz.prog 99 #[.pointer (some ⟨q, 0, none⟩), .string nm, .int .i64 res, .int .i64 v] w fun e w' => ∃ q' F' st' dc dd, e = .returned (.iface (tyS st') (.pointer (some ⟨q', 0, none⟩))) ∧ SetR hsT F nm v (.row vs) F' st' 0 dc dd ∧ ∃ XF' XQ', SdR w f (.pointer pm) N XF XQ F' st' q' (a + (F'.kt.made : Int) - (F.kt.made : Int) + (mdS st' : Int)) b (c + (dc : Int)) (d + (dd : Int)) w' XF' XQ' := by
    intro h1 h2 h3
    refine (rowAdd_turn hF hS mq hM4 hM ha hd hO hc0 hs hk hl res h3 v).mono ?_
    rintro e w' ⟨q', h4, XF', XQ', R⟩
    refine ⟨q', { F with all := alln F.all nm k }, .own ((turnN F.kt.es vs vs.length).add (hsT nm) (numn F.all k) v), 0, 1, h4, .turn hk h1 hmo h2, XF', XQ', ?_⟩
    rw [show a + (({ F with all := alln F.all nm k } : Fa).kt.made : Int) - (F.kt.made : Int) + (mdS (.own ((turnN F.kt.es vs vs.length).add (hsT nm) (numn F.all k) v)) : Int) = a + ((((turnN F.kt.es vs vs.length).add (hsT nm) (numn F.all k) v).made : Nat) : Int) by show a + (F.kt.made : Int) - (F.kt.made : Int) + ((((turnN F.kt.es vs vs.length).add (hsT nm) (numn F.all k) v).made : Nat) : Int) = _; omega, show c + ((0 : Nat) : Int) = c by omega]
    exact R
  rcases hres with ⟨n, rfl, hn, hle⟩ | ⟨rfl, hn⟩
  · rcases Nat.lt_or_ge vs.length n with c1 | c1
    · refine turn (fun m hm => ?_) (fun h => ?_) ?_
      · have := Nl.one (hs := hsT) (all := F.all) (by rw [hfl]; exact hO.nl) hm hn
        omega
      · have := hn.1; omega
      · rw [if_pos (by rw [hlive]; have := hn.1; omega)]
        exact decide_eq_false (by omega)
    · have e : n = vs.length := by omega
      subst e
      refine (rowAdd_next hF hS ap mq hM4 hM hc hO hn.1 v).mono ?_
      rintro e w' ⟨h4, XF', XQ', R⟩
      refine ⟨q, F, .row (vs ++ [v]), 1, 0, h4, .next hk hn hmo, XF', XQ', ?_⟩
      rw [show a + (F.kt.made : Int) - (F.kt.made : Int) + (mdS (.row (vs ++ [v])) : Int) = a by show a + (F.kt.made : Int) - (F.kt.made : Int) + ((0 : Nat) : Int) = a; omega, show d + ((0 : Nat) : Int) = d by omega]
      exact R
  · by_cases c1 : F.kt.es.length = vs.length ∧ vs.length < F.room
    · refine (rowAdd_new hF hS ap mq hM4 hM ⟨ha.1, by omega⟩ hc hO (by omega) hs hk c1.1 c1.2 v).mono ?_
      rintro e w' ⟨h4, XF', XQ', R⟩
      refine ⟨q, { F with all := alln F.all nm k, kt := F.kt.add (hsT nm) (numn F.all k) 0 }, .row (vs ++ [v]), 1, 0, h4, .new hk hn hmo c1.1 c1.2, XF', XQ', ?_⟩
      have hmd := (F.kt.add_rest (hsT nm) (numn F.all k) 0).2.2.1
      rw [show a + (({ F with all := alln F.all nm k, kt := F.kt.add (hsT nm) (numn F.all k) 0 } : Fa).kt.made : Int) - (F.kt.made : Int) + (mdS (.row (vs ++ [v])) : Int) = a + (((F.kt.add (hsT nm) (numn F.all k) 0).made - F.kt.made : Nat) : Int) by show a + ((F.kt.add (hsT nm) (numn F.all k) 0).made : Int) - (F.kt.made : Int) + ((0 : Nat) : Int) = _; omega, show d + ((0 : Nat) : Int) = d by omega]
      exact R
    · refine turn (fun m hm => absurd hm (hn m)) c1 ?_
      by_cases c2 : (vs.length : Int) < (F.kt.live : Int)
      · rw [if_pos c2]
        exact decide_eq_false (by omega)
      · rw [if_neg c2]
        rw [hlive] at c2
        exact decide_eq_false (fun h => c1 ⟨by omega, by omega⟩)
/-- A family, and one of its namespaces. -/
structure Fs (w : World) (f : Nat) (F : Fa) (mv : Value) (XF : Nat → Prop) (s : Nat) (st : Stn) (v : Nat) (XS : Nat → Prop) : Prop where
  fm : FamX w f F mv XF
  sm : Sm w s f mv v XS st
  ap : ∀ k, XF k → ¬ XS k
  mq : ∀ k, mB mv k → ¬ XS k
/-- The table on which a namespace stands. -/
def tbS (F : Fa) : Stn → Tb
  | .row _ => F.kt
  | .own t => t
/-- What a call of a namespace leaves. -/
structure SsR (w : World) (f : Nat) (mv : Value) (N : Int → Int → Int → Int → World → Prop) (XF XS : Nat → Prop) (s : Nat) (F' : Fa) (st' : Stn) (v' : Nat) (a' b' c' d' : Int) (w' : World) (XF' XS' : Nat → Prop) : Prop where
  fs : Fs w' f F' mv XF' s st' v' XS'
  n : N a' b' c' d' w'
  hf : ∀ k, XF' k → XF k ∨ w.heap.size ≤ k
  hs : ∀ k, XS' k → XS k ∨ w.heap.size ≤ k
  ex : Ex (fun k => XF k ∨ XS k ∨ mB mv k) w w'
theorem mR_table (a : Option Addr) (w : World) : (method 294 59 (.pointer a) "lexicon/shared.table").run Tryz.prog w = .ok (105, .pointer a) w := by kernel_rfl
theorem mO_table (a : Option Addr) (w : World) : (method 294 177 (.pointer a) "lexicon/shared.table").run Tryz.prog w = .ok (146, .pointer a) w := by kernel_rfl
theorem mR_has (a : Option Addr) (w : World) : (method 294 59 (.pointer a) "lexicon/shared.has").run Tryz.prog w = .ok (100, .pointer a) w := by kernel_rfl
theorem mO_has (a : Option Addr) (w : World) : (method 294 177 (.pointer a) "lexicon/shared.has").run Tryz.prog w = .ok (140, .pointer a) w := by kernel_rfl
theorem mR_size (a : Option Addr) (w : World) : (method 294 59 (.pointer a) "lexicon/shared.size").run Tryz.prog w = .ok (104, .pointer a) w := by kernel_rfl
theorem mO_size (a : Option Addr) (w : World) : (method 294 177 (.pointer a) "lexicon/shared.size").run Tryz.prog w = .ok (145, .pointer a) w := by kernel_rfl
theorem mR_put (a : Option Addr) (w : World) : (method 294 59 (.pointer a) "lexicon/shared.put").run Tryz.prog w = .ok (103, .pointer a) w := by kernel_rfl
theorem mO_put (a : Option Addr) (w : World) : (method 294 177 (.pointer a) "lexicon/shared.put").run Tryz.prog w = .ok (143, .pointer a) w := by kernel_rfl
theorem mR_add (a : Option Addr) (w : World) : (method 294 59 (.pointer a) "lexicon/shared.add").run Tryz.prog w = .ok (99, .pointer a) w := by kernel_rfl
theorem mO_add (a : Option Addr) (w : World) : (method 294 177 (.pointer a) "lexicon/shared.add").run Tryz.prog w = .ok (110, .pointer a) w := by kernel_rfl
theorem isNothing_no {w : World} {s q : Nat} {T : TypeId} (x1 : w.cell? ⟨s, 1, none⟩ = some (.iface T (.pointer (some ⟨q, 0, none⟩)))) :
    Calls Tryz.prog 21 #[.pointer (some ⟨s, 0, none⟩)] w fun e w' => e = .returned (.bool false) ∧ w' = w := by
  have h1 := eqSp s
  go_enter Tryz.func21, Tryz.ntmps21
  go_wp2
  go_ret
  exact ⟨rfl, rfl⟩
theorem isNothing_nil (w : World) : Calls Tryz.prog 21 #[.pointer none] w fun e w' => e = .returned (.bool true) ∧ w' = w := by
  have h1 : ∀ w, (binOp .eql 32 (.pointer none) (.pointer none)).run Tryz.prog w = .ok (.bool true) w := fun w => by kernel_rfl
  go_enter Tryz.func21, Tryz.ntmps21
  go_wp2
  go_ret
  exact ⟨rfl, rfl⟩
theorem isNothing_zero {w : World} {s : Nat} (x1 : w.cell? ⟨s, 1, none⟩ = some .nilIface) : Calls Tryz.prog 21 #[.pointer (some ⟨s, 0, none⟩)] w fun e w' => e = .returned (.bool true) ∧ w' = w := by
  have h1 := eqSp s
  go_enter Tryz.func21, Tryz.ntmps21
  go_wp2
  go_ret
  exact ⟨rfl, rfl⟩
/-- A namespace's seek. -/
theorem sseek_any {w : World} {f : Nat} {F : Fa} {mv : Value} {XF : Nat → Prop} {s : Nat} {st : Stn} {v : Nat} {XS : Nat → Prop} {N : Int → Int → Int → Int → World → Prop} {a b c d : Int} {c0 : Nat} (h : Fs w f F mv XF s st v XS) (hM4 : M4 mv N) (hM : N a b c d w) (hb : 0 ≤ b ∧ b ≤ 10000000000) (hO : F.Ok hsT c0) (hst : st.Ok hsT F c0) {nm : ByteArray} (hs : nm.size ≤ 3000) {k : Int} (hk : Num F.all nm k) :
    Calls Tryz.prog 22 #[.pointer (some ⟨s, 0, none⟩), .string nm] w fun e w' => ∃ (res : Int) (jj : Nat), e = .returned (.int .i64 res) ∧ SkR (tbS F st) (hsT nm) k res jj ∧ N a (b + (jj : Int)) c d w' ∧ Ex (mB mv) w w' := by
  obtain ⟨g, gi, r, h', ev, mb, nv, hFa, hXF⟩ := h.fm
  obtain ⟨q, XQ, h1, h2, h3, h4⟩ := h.sm
  have CN := numberOf_any (hFa.nh.hd.c 4 (by omega)) hFa.nh.mp hs hk
  cases st with
  | row vs =>
    obtain ⟨vv, hq, hv, hnq, rfl⟩ := h2
    show Calls Tryz.prog _ _ w fun e w' => ∃ (res : Int) (jj : Nat), e = .returned (.int .i64 res) ∧ SkR F.kt (hsT nm) k res jj ∧ N a (b + (jj : Int)) c d w' ∧ Ex (mB mv) w w'
    exact seek_gen (q := q) (t := F.kt) (T := 59) (Fn := 105) (M := fun a b w => N a b c d w) hs (h1.c 0 (by omega)) (h1.c 1 (by omega)) (fun w => mR_table _ w) (fun args w => Tryz.call105 args w) CN (rowTable_any (hq.c 0 (by omega)) (hFa.nh.hd.c 1 (by omega))) hFa.dt hO.ok (hM4.mt c d) (hM4.vi c d) hM hb (by have := hO.ok.few; have := hO.births; have := hO.ok.all; omega) (fun n hn => Nl.of (by rw [live_all hO.dead]; exact hO.nl) hk hn)
  | own t =>
    obtain ⟨tg, tgi, tr, th, tev, hq, hD, hnq, rfl⟩ := h2
    show Calls Tryz.prog _ _ w fun e w' => ∃ (res : Int) (jj : Nat), e = .returned (.int .i64 res) ∧ SkR t (hsT nm) k res jj ∧ N a (b + (jj : Int)) c d w' ∧ Ex (mB mv) w w'
    exact seek_gen (q := q) (t := t) (T := 177) (Fn := 146) (M := fun a b w => N a b c d w) hs (h1.c 0 (by omega)) (h1.c 1 (by omega)) (fun w => mO_table _ w) (fun args w => Tryz.call146 args w) CN (ownTable_any (hq.c 1 (by omega))) hD hst.1 (hM4.mt c d) (hM4.vi c d) hM hb (by have := hst.1.few; have := hst.1.all; omega) (fun n hn => Nl.of hst.2.1 hk hn)
end Go.Proofs.YtpigbnlapcndgaaGreat
