/-
  Del of any namespace, and what it keeps; Len and Version.
-/
import Derived.Test.YtpigbnlapcndgaaGreatDel
import Derived.Test.YtpigbnlapcndgaaGreatShNil3
namespace Go.Proofs.YtpigbnlapcndgaaGreat
open Go.RowKit Go.WideShapes

theorem kill_nl {hs : ByteArray → Int} {all : List ByteArray} {t : Tb} (h : Nl hs all (liveL t.es)) {n : Nat} (hn : n < t.es.length) (hl : (nth t.es n).live = true) : Nl hs all (liveL (t.kill n).es) := by
  refine h.sub ?_
  have e : liveL (t.kill n).es = liveL (t.es.take n) ++ liveL (t.es.drop (n + 1)) := by
    exact liveL_set hn (En.gone (nth t.es n).birth) rfl
  rw [e, liveL_cut hn hl]
  exact List.Sublist.append (List.Sublist.refl _) (List.sublist_cons_self ..)
theorem delR_ok {hs : ByteArray → Int} {F : Fa} {s : ByteArray} {st st' : Stn} {er : Int} {dd c : Nat} (h : DelR F s st st' er dd) (hF : F.Ok hs c) (hst : st.Ok hs F c) : st'.Ok hs F (c + 1) := by
  cases h with
  | noneR hk hn => exact hst
  | noneO hk hn => exact hst.le (Fle.refl _) (by omega)
  | @turn vs k n hk hn hl =>
    have hvl : vs.length ≤ F.kt.es.length := hst
    have h256 : vs.length ≤ 256 := by have := hF.len; have := hF.room; omega
    obtain ⟨t1, t2, t3, t4, t5⟩ := turnN_is F.kt.es vs vs.length (by omega)
    have hnl := turnN_nl hF.nl vs hvl (by omega)
    have hbl : vs.length ≤ c := by have := hF.ok.few; have := hF.births; omega
    obtain ⟨a1, a2⟩ := turnN_at F.kt.es vs hl
    exact ⟨t1.kill n a1 a2, kill_nl hnl a1 a2, by show (turnN F.kt.es vs vs.length).births ≤ _; omega, by show (turnN F.kt.es vs vs.length).made ≤ _; omega, by show (turnN F.kt.es vs vs.length).turn + 1 ≤ _; omega⟩
  | @kill t k n hk hn =>
    obtain ⟨h1, h2, h3, h4, h5⟩ := hst
    exact ⟨h1.kill n hn.1 hn.2.1, kill_nl h2 hn.1 hn.2.1, by show t.births ≤ _; omega, by show t.made ≤ _; omega, by show t.turn + 1 ≤ _; omega⟩
theorem del_any {w : World} {f : Nat} {F : Fa} {pm : Option Addr} {XF : Nat → Prop} {s : Nat} {st : Stn} {v : Nat} {XS : Nat → Prop} {N : Int → Int → Int → Int → World → Prop} {a b c d : Int} {c0 : Nat} (h : Fs w f F (.pointer pm) XF s st v XS) (hM4 : M4 (.pointer pm) N) (hM : N a b c d w) (ha : 0 ≤ a ∧ a ≤ 10000000) (hb : 0 ≤ b ∧ b ≤ 10000000000) (hd : 0 ≤ d ∧ d ≤ 100000000) (hO : F.Ok hsT c0) (hst : Stn.Ok hsT F c0 st) (hc0 : c0 ≤ 49000) (hv : v ≤ 1000000000) {nm : ByteArray} (hs : nm.size ≤ 3000) :
    Calls Tryz.prog 12 #[.pointer (some ⟨s, 0, none⟩), .string nm] w fun e w' => ∃ er : Int, e = .returned (.int .i64 er) ∧ DelQ w f F (.pointer pm) N a b c d XF s st v XS nm er w' := by
  cases st with
  | row vs => exact del_row h hM4 hM ha hb hd hO hst hv hs
  | own t =>
    have hst' := hst
    obtain ⟨h1, h2, h3, h4, h5⟩ := hst'
    exact del_own h hM4 hM hb hO hst hv (by omega) h1 hs
/-- How many names a namespace has. -/
def lenS : Stn → Nat
  | .row vs => vs.length
  | .own t => t.live
set_option maxRecDepth 100000 in
theorem slen_any {w : World} {s f : Nat} {mv : Value} {v : Nat} {X : Nat → Prop} {st : Stn} (h : Sm w s f mv v X st) :
    Calls Tryz.prog 15 #[.pointer (some ⟨s, 0, none⟩)] w fun e w' => e = .returned (.int .i64 (lenS st : Int)) ∧ w' = w := by
  obtain ⟨q, XQ, h1, h2, h3, rfl⟩ := h
  cases st with
  | row vs =>
    obtain ⟨vv, hqb, hqv, hqn, rfl⟩ := h2
    obtain ⟨av, cap, gv, rfl, hcap, hvo⟩ := hqv.open
    exact slen_row h1 (hqb.c 1 (by omega))
  | own t =>
    obtain ⟨g, gi, r, h', ev, hqb, hqd, hqn, rfl⟩ := h2
    have x1 : w.cell? ⟨s, 1, none⟩ = some (.iface 177 (.pointer (some ⟨q, 0, none⟩))) := h1.c 1 (by omega)
    have CN := isNothing_no x1
    have mz := mO_size (some ⟨q, 0, none⟩)
    have CZ := ownSize_any (n := (t.live : Int)) (hqb.c 1 (by omega)) (hqd.hd.c 3 (by omega))
    clear h1 hqb hqd hqn h3
    show Calls _ _ _ _ fun e w' => e = .returned (.int .i64 (t.live : Int)) ∧ w' = w
    go_enter Tryz.func15, Tryz.ntmps15
    go_wp2_with fail
    refine CN.mono ?_
    rintro e w1 ⟨rfl, rfl⟩
    clear CN
    go_wp2_with fail
    refine CZ.mono ?_
    rintro e w2 ⟨rfl, rfl⟩
    clear CZ
    go_wp2
    go_ret
    exact ⟨rfl, rfl⟩
set_option maxRecDepth 100000 in
theorem version10_any {w : World} {s f : Nat} {mv : Value} {v : Nat} {X : Nat → Prop} {st : Stn} (h : Sm w s f mv v X st) (hv : v ≤ 1000000000) :
    Calls Tryz.prog 16 #[.pointer (some ⟨s, 0, none⟩)] w fun e w' => e = .returned (.int .i64 (v : Int)) ∧ w' = w := by
  obtain ⟨q, XQ, h1, h2, h3, rfl⟩ := h
  have k2 : w.cell? ⟨s, 2, none⟩ = some (.int .u64 (v : Int)) := h1.c 2 (by omega)
  have e1 : IntKind.i64.wrap (v : Int) = (v : Int) := i64_small (by omega) (by omega)
  clear h1 h2 h3
  go_enter Tryz.func16, Tryz.ntmps16
  go_wp2
  go_ret
  exact ⟨rfl, rfl⟩
end Go.Proofs.YtpigbnlapcndgaaGreat
