/-
  container/heap's Push and Pop over the free slots; New, Add, Get, Set, Free, Len and High of slots.
-/
import Derived.Test.YtbnmnmbfdfgohaaDoorSmUp
namespace Go.Proofs.YtbnmnmbfdfgohaaDoor
open Go.RowKit Go.WideShapes

theorem Fh.fu {w : World} {g h n cap : Nat} {f : Nat → Int} (x : Fh w g (.slice (some ⟨h, 0, none⟩) n cap) n f) : Fu w w g h n cap f f ∧ h ≠ g := ⟨⟨x.c1, x.hq, But.refl _ _⟩, fun e => x.nf (by rw [e]; rfl)⟩
theorem Fu.fh {w w' : World} {g h n cap : Nat} {f f' : Nat → Int} (x : Fh w g (.slice (some ⟨h, 0, none⟩) n cap) n f) (y : Fu w w' g h n cap f f') : Fh w' g (.slice (some ⟨h, 0, none⟩) n cap) n f' ∧ Fk w w' g (.slice (some ⟨h, 0, none⟩) n cap) (.slice (some ⟨h, 0, none⟩) n cap) := by
  have hlg : g < w.heap.size := lt_of_cell x.c1
  have hne : g ≠ h := fun e => x.nf (by rw [e]; rfl)
  have hb := y.bt.block g hlg hne
  exact ⟨⟨y.c1, fun j => (World.frozen?_of_block (a := ⟨g, j, none⟩) hb).trans (x.z j), y.hq, x.nf, x.sm⟩, y.bt.ex.mono (fun k _ e => Or.inr (by rw [e]; rfl)), World.cell?_of_block (a := ⟨g, 0, none⟩) hb, fun k hk => Or.inl hk⟩
theorem Fk.trans {a b c : World} {g : Nat} {u v x : Value} (h1 : Fk a b g u v) (h2 : Fk b c g v x) : Fk a c g u x := by
  refine ⟨h1.ex.next h2.ex (fun k hk hy => ?_), h2.c0.trans h1.c0, fun k hk => ?_⟩
  · rcases hy with e | e
    · exact Or.inl e
    · rcases h1.nw k e with e' | e'
      · exact Or.inr e'
      · omega
  · rcases h2.nw k hk with e | e
    · exact h1.nw k e
    · exact Or.inr (Nat.le_trans h1.ex.size e)
set_option maxRecDepth 100000 in
theorem hpush_any {w : World} {g n : Nat} {fv : Value} {f : Nat → Int} (h : Fh w g fv n f) (hn : n ≤ 100000) (hh : Hp n f) (k : Int) :
    Calls Tryd.prog 36 #[.iface 64 (.pointer (some ⟨g, 1, none⟩)), .iface 3 (.int .i64 k)] w fun e w' => e = .returned (.tuple #[]) ∧ ∃ fv' f', Fh w' g fv' (n + 1) f' ∧ Fk w w' g fv fv' ∧ Pm (n + 1) (updI f n k) f' ∧ Hp (n + 1) f' := by
  have C1 := l_push h hn k
  have hm := m_push (some ⟨g, 1, none⟩)
  have HH := Lib.hid hh
  clear h hh
  go_enter Tryd.func36, Tryd.ntmps36
  go_wp2_with fail
  refine C1.mono ?_
  rintro e w1 ⟨rfl, fv1, h1, k1⟩
  clear C1 hm
  obtain ⟨hb, cap, rfl, hlb⟩ := ownsS_some h1.hq (by omega)
  have hm := m_len h1.c1
  have CL := l_len (some ⟨hb, 0, none⟩) (n + 1) cap w1
  obtain ⟨hF1, hne⟩ := h1.fu
  have CU := up_any hF1 hne h1.sm n (by omega) (up_push HH.out)
  have H1 := Lib.hid h1
  have K1 := Lib.hid k1
  clear h1 k1 hF1
  have e1 : IntKind.i64.wrap (((n + 1 : Nat) : Int) - 1) = (n : Int) := by rw [i64_small (by omega) (by omega)]; omega
  generalize hn1 : n + 1 = n1 at *
  go_wp2_with fail
  refine CL.mono ?_
  rintro e w2 ⟨rfl, rfl⟩
  clear CL hm
  go_wp2_with fail
  refine CU.mono ?_
  rintro e w3 ⟨rfl, f3, hF3, hP3, hH3⟩
  clear CU
  obtain ⟨h3, k3⟩ := Fu.fh H1.out hF3
  have H3 := Lib.hid h3
  have K3 := Lib.hid (K1.out.trans k3)
  clear h3 k3 hF3
  go_wp2
  go_end0
  subst hn1
  exact ⟨rfl, _, f3, H3.out, K3.out, hP3, hH3⟩
set_option maxRecDepth 100000 in
theorem hpop_any {w : World} {g n : Nat} {fv : Value} {f : Nat → Int} (h : Fh w g fv (n + 1) f) (hh : Hp (n + 1) f) :
    Calls Tryd.prog 44 #[.iface 64 (.pointer (some ⟨g, 1, none⟩))] w fun e w' => e = .returned (.iface 3 (.int .i64 (f 0))) ∧ ∃ fv' f', Fh w' g fv' n f' ∧ Fk w w' g fv fv' ∧ Pm n (swf f 0 n) f' ∧ Hp n f' := by
  obtain ⟨hb, cap, rfl, hlb⟩ := ownsS_some h.hq (by omega)
  have hm := m_len h.c1
  have hm2 := m_swap h.c1
  have CL := l_len (some ⟨hb, 0, none⟩) (n + 1) cap w
  have CS := l_swap h.hq 0 n (by omega) (by omega)
  obtain ⟨hF1, hne⟩ := h.fu
  have hsm := h.sm
  have HF1 := Lib.hid hF1
  have HH := Lib.hid hh
  have H0 := Lib.hid h
  clear h hh hF1
  have e1 : IntKind.i64.wrap (((n + 1 : Nat) : Int) - 1) = (n : Int) := by rw [i64_small (by omega) (by omega)]; omega
  have e0 : ((0 : Nat) : Int) = 0 := rfl
  rw [e0] at CS
  generalize hn1 : n + 1 = n1 at *
  go_enter Tryd.func44, Tryd.ntmps44
  go_wp2_with fail
  refine CL.mono ?_
  rintro e w1 ⟨rfl, rfl⟩
  clear CL hm
  go_wp2_with fail
  refine CS.mono ?_
  rintro e w2 ⟨rfl, hq2, hb2⟩
  clear CS hm2
  have hF2 := HF1.out.swap hne hq2 hb2
  clear hq2 hb2 HF1
  obtain ⟨h2, k2⟩ := Fu.fh H0.out hF2
  have CD := down_any (f := swf f 0 n) ⟨hF2.c1, hF2.hq, But.refl _ _⟩ hne hsm (show n ≤ n1 by omega) (dn_pop (by rw [hn1]; exact HH.out))
  have H2 := Lib.hid h2
  have K2 := Lib.hid k2
  clear h2 k2 hF2
  go_wp2_with fail
  refine CD.mono ?_
  rintro e w3 ⟨⟨b3, rfl⟩, f3, hF3, hP3, hH3⟩
  clear CD
  obtain ⟨h3, k3⟩ := Fu.fh H2.out hF3
  have hf3 : f3 n = f 0 := by rw [hP3.out n (Nat.le_refl _), swf_j]
  rw [← hn1] at h3
  have CP := l_pop h3
  rw [hf3] at CP
  have K3 := Lib.hid (K2.out.trans k3)
  have hm := m_pop (some ⟨g, 1, none⟩)
  rw [hn1] at CP
  clear h3 k3 hF3
  go_wp2_with fail
  refine CP.mono ?_
  rintro e w4 ⟨rfl, fv4, h4, k4⟩
  clear CP hm
  have H4 := Lib.hid h4
  have K4 := Lib.hid (K3.out.trans k4)
  clear h4 k4
  go_wp2
  go_ret
  exact ⟨rfl, fv4, f3, H4.out, K4.out, hP3, hH3⟩
end Go.Proofs.YtbnmnmbfdfgohaaDoor
