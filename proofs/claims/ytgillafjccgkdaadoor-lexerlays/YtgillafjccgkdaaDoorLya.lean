/-
  Lines of pieces with blanks between: how they are read (LexerLays).
  Sources that are laid of pieces, as the law lays them (LexerLays).
  LexerLays: one of some texts.
-/
import Derived.Test.YtgillafjccgkdaaDoorLxBlk
import Derived.Test.YtgillafjccgkdaaDoorLxMem
namespace Go.Proofs.YtgillafjccgkdaaDoor
namespace Lx

/-- As Gets, where a blank or a line's end follows. -/
def GetsD (L : List UInt8) (c : Cf) : Prop := ∀ c0 R r, (c0 = 32 ∨ c0 = 10) → Lex (L ++ c0 :: R) c r → Lex (L ++ c0 :: R) cf0 r
theorem Gets.d {L : List UInt8} {c : Cf} (h : Gets L c) : GetsD L c := fun c0 R r _ hl => h (c0 :: R) r hl
theorem drop_app (L R : List UInt8) : (L ++ R).drop L.length = R := by simp
theorem getD_app (L R : List UInt8) (c : UInt8) : (L ++ c :: R).getD L.length 0 = c := by simp
theorem GetsD.blank {L : List UInt8} {hd : Bool} {b : Nat} {bs : List Nat} {ts : List Tok} (h : GetsD L ⟨hd, b, ⟨L.length, 0, bs, ts⟩⟩) : Gets (L ++ [32]) ⟨hd, b + 1, ⟨L.length + 1, 0, bs, ts⟩⟩ := by
  intro R r hl
  rw [List.append_assoc] at hl ⊢
  refine h 32 R r (Or.inl rfl) (Lex.more ?_ hl)
  show stp (L ++ 32 :: R) _ = _
  unfold stp
  have hlen : ¬ (L ++ 32 :: R).length ≤ L.length := by simp
  rw [if_neg hlen]
  simp only [getD_app]
  simp
theorem GetsD.line {L : List UInt8} {hd : Bool} {b : Nat} {bs : List Nat} {ts : List Tok} (h : GetsD L ⟨hd, b, ⟨L.length, 0, bs, ts⟩⟩) : Gets (L ++ [10]) ⟨true, 0, ⟨L.length + 1, 0, bs, if hd then ts else ts ++ [⟨6, [], L.length⟩]⟩⟩ := by
  intro R r hl
  rw [List.append_assoc] at hl ⊢
  refine h 10 R r (Or.inr rfl) (Lex.more ?_ hl)
  show stp (L ++ 10 :: R) _ = _
  unfold stp
  have hlen : ¬ (L ++ 10 :: R).length ≤ L.length := by simp
  rw [if_neg hlen]
  simp only [getD_app]
  simp
theorem rem_app : ∀ (m R : List UInt8), 10 ∉ m → rem (m ++ 10 :: R) = m.length
  | [], R, _ => by simp [rem]
  | c :: m, R, h => by
    have h1 : ¬ c = 10 := fun e => h (by simp [e])
    have h2 : 10 ∉ m := fun e => h (by simp [e])
    show rem (c :: (m ++ 10 :: R)) = _
    unfold rem
    rw [if_neg h1, rem_app m R h2]
    simp
theorem Gets.remarkLine {L m : List UInt8} {hd : Bool} {b : Nat} {bs : List Nat} {ts : List Tok} (h : Gets L ⟨hd, b, ⟨L.length, 0, bs, ts⟩⟩) (hm : 10 ∉ m) : Gets (L ++ 35 :: m ++ [10]) ⟨true, 0, ⟨L.length + m.length + 2, 0, bs, if hd then ts else ts ++ [⟨6, [], L.length + m.length + 1⟩]⟩⟩ := by
  intro R r hl
  have e1 : L ++ 35 :: m ++ [10] ++ R = L ++ 35 :: (m ++ 10 :: R) := by simp
  rw [e1] at hl ⊢
  have hlen : ¬ (L ++ 35 :: (m ++ 10 :: R)).length ≤ L.length := by simp
  have hrem : rem (35 :: (m ++ 10 :: R)) = m.length + 1 := by
    unfold rem
    rw [if_neg (by decide), rem_app m R hm]
  refine h _ r (Lex.more (c' := ⟨hd, b, ⟨L.length + (m.length + 1), 0, bs, ts⟩⟩) ?_ (Lex.more ?_ hl))
  · unfold stp
    rw [if_neg hlen]
    simp only [getD_app, drop_app, hrem]
    simp
  · have e2 : L ++ 35 :: (m ++ 10 :: R) = (L ++ 35 :: m) ++ 10 :: R := by simp
    have e3 : L.length + (m.length + 1) = (L ++ 35 :: m).length := by simp
    unfold stp
    rw [e2, e3]
    rw [if_neg (by simp)]
    simp only [getD_app]
    simp
    exact ⟨by omega, by rw [Nat.add_assoc]⟩
/-- A piece: whatever stands behind it, it is read as that token. -/
structure Pg (p : List UInt8) (k : Nat) (t : List UInt8) : Prop where
  hd : ∃ c q, p = c :: q ∧ c ≠ 35 ∧ c ≠ 32 ∧ c ≠ 10
  tk : ∀ c0 R, (c0 = 32 ∨ c0 = 10) → tk (p ++ c0 :: R) 0 = .ok (k, t, p.length, 0)
theorem stl0 (a : Nat) (ts : List Tok) : stl 0 ⟨a, 0, [0], ts⟩ = .ok ⟨a, 0, [0], ts⟩ := by
  simp [stl, dep, ded]
theorem Gets.piece {L p t : List UInt8} {k : Nat} {hd : Bool} {b : Nat} {ts : List Tok} (h : Gets L ⟨hd, b, ⟨L.length, 0, [0], ts⟩⟩) (hb : hd = true → b = 0) (hp : Pg p k t) : GetsD (L ++ p) ⟨false, b, ⟨(L ++ p).length, 0, [0], ts ++ [⟨k, t, L.length⟩]⟩⟩ := by
  intro c0 R r hc hl
  obtain ⟨c, q, rfl, n1, n2, n3⟩ := hp.hd
  have htk := hp.tk c0 R hc
  have e1 : L ++ c :: q ++ c0 :: R = L ++ c :: (q ++ c0 :: R) := by simp
  rw [e1] at hl ⊢
  have hlen : ¬ (L ++ c :: (q ++ c0 :: R)).length ≤ L.length := by simp
  have hk : tkn (L ++ c :: (q ++ c0 :: R)) b ⟨L.length, 0, [0], ts⟩ = .inr ⟨false, b, ⟨(L ++ c :: q).length, 0, [0], ts ++ [⟨k, t, L.length⟩]⟩⟩ := by
    unfold tkn
    simp only [drop_app]
    rw [show c :: (q ++ c0 :: R) = c :: q ++ c0 :: R from rfl, htk]
    simp
  refine h _ r (Lex.more ?_ hl)
  unfold stp
  rw [if_neg hlen]
  simp only [getD_app, n1, n2, n3, if_false]
  cases hd with
  | true =>
    have := hb rfl
    subst this
    simp only [if_true, stl0]
    exact hk
  | false => exact hk
/-- A name or a word. -/
theorem prt_end : ∀ (p : List UInt8) (c0 : UInt8) (R : List UInt8), p.all isP = true → (c0 = 32 ∨ c0 = 10) → prt (p ++ c0 :: R) = p.length
  | [], c0, R, _, hc => by
    show prt (c0 :: R) = 0
    unfold prt
    rcases hc with rfl | rfl <;> rfl
  | c :: p, c0, R, h, hc => by
    simp only [List.all_cons, Bool.and_eq_true] at h
    show prt (c :: (p ++ c0 :: R)) = _
    unfold prt
    rw [if_pos h.1, prt_end p c0 R h.2 hc]
    simp
theorem pg_word {c : UInt8} {q : List UInt8} (h : (c :: q).all isP = true) (hd : isD c = false) (hq : c ≠ 39 ∧ c ≠ 34) (hn : c ≠ 35 ∧ c ≠ 32 ∧ c ≠ 10) : Pg (c :: q) (if wrd (c :: q) then 2 else 1) (c :: q) := by
  refine ⟨⟨c, q, rfl, hn⟩, fun c0 R hc => ?_⟩
  have hp := prt_end (c :: q) c0 R h hc
  have hc1 : isP c = true := by simp only [List.all_cons, Bool.and_eq_true] at h; exact h.1
  have g0 : (c :: q ++ c0 :: R).getD 0 0 = c := rfl
  have tk0 : (c :: q ++ c0 :: R).take (c :: q).length = c :: q := by simp
  unfold tk
  rw [g0, hp, tk0, if_neg (by rintro (e | e); exact hq.1 e; exact hq.2 e), hd, hc1]
  simp
theorem pg_num {c : UInt8} {q : List UInt8} (h : (c :: q).all isP = true) (hd : isD c = true) (hi : isN (c :: q) = true) (hq : c ≠ 39 ∧ c ≠ 34) (hn : c ≠ 35 ∧ c ≠ 32 ∧ c ≠ 10) : Pg (c :: q) 3 (c :: q) := by
  refine ⟨⟨c, q, rfl, hn⟩, fun c0 R hc => ?_⟩
  have hp := prt_end (c :: q) c0 R h hc
  have g0 : (c :: q ++ c0 :: R).getD 0 0 = c := rfl
  have tk0 : (c :: q ++ c0 :: R).take (c :: q).length = c :: q := by simp
  unfold tk
  rw [g0, hp, tk0, if_neg (by rintro (e | e); exact hq.1 e; exact hq.2 e), hd, hi]
  simp
theorem sgn1 {a c0 : UInt8} {R : List UInt8} (h1 : isS [a] = true) (h2 : isS [a, c0] = false) (h3 : ∀ b, isS [a, c0, b] = false) : sgn (a :: c0 :: R) = [a] := by
  unfold sgn
  cases R with
  | nil => simp [h1, h2]
  | cons b R => simp [h1, h2, h3]
theorem isS3 (x y b : UInt8) (h : y = 32 ∨ y = 10) : isS [x, y, b] = false := by
  rcases h with rfl | rfl <;> simp [isS, signs]
theorem isS2 (x y : UInt8) (h : y = 32 ∨ y = 10) : isS [x, y] = false := by
  rcases h with rfl | rfl <;> simp [isS, signs]
theorem isS3b (x y b : UInt8) (h : b = 32 ∨ b = 10) : isS [x, y, b] = false := by
  rcases h with rfl | rfl <;> simp [isS, signs]
/-- A sign. -/
theorem pg_sign {p : List UInt8} (hs : ∀ c0 R, (c0 = 32 ∨ c0 = 10) → sgn (p ++ c0 :: R) = p) (hp : ∃ c q, p = c :: q ∧ c ≠ 35 ∧ c ≠ 32 ∧ c ≠ 10 ∧ c ≠ 39 ∧ c ≠ 34 ∧ isD c = false ∧ isP c = false) (hb : ¬ (p = [40] ∨ p = [91] ∨ p = [123]) ∧ ¬ (p = [41] ∨ p = [93] ∨ p = [125])) : Pg p 5 p := by
  obtain ⟨c, q, rfl, n1, n2, n3, n4, n5, n6, n7⟩ := hp
  refine ⟨⟨c, q, rfl, n1, n2, n3⟩, fun c0 R hc => ?_⟩
  have hg := hs c0 R hc
  have g0 : (c :: q ++ c0 :: R).getD 0 0 = c := rfl
  unfold tk
  rw [g0, if_neg (by rintro (e | e); exact n4 e; exact n5 e), n6, n7, hg, if_neg (by simp), if_neg (by simp), if_neg (by simp), if_neg hb.1, if_neg hb.2]
theorem sg1 {a : UInt8} (h1 : isS [a] = true) (c0 : UInt8) (R : List UInt8) (hc : c0 = 32 ∨ c0 = 10) : sgn ([a] ++ c0 :: R) = [a] := sgn1 h1 (isS2 a c0 hc) (fun b => isS3 a c0 b hc)
theorem sg2 {a b : UInt8} (h1 : isS [a, b] = true) (c0 : UInt8) (R : List UInt8) (hc : c0 = 32 ∨ c0 = 10) : sgn ([a, b] ++ c0 :: R) = [a, b] := by
  unfold sgn
  simp [h1, isS3b a b c0 hc]
theorem sg3 {a b c : UInt8} (h1 : isS [a, b, c] = true) (c0 : UInt8) (R : List UInt8) : sgn ([a, b, c] ++ c0 :: R) = [a, b, c] := by
  unfold sgn
  simp [h1]
/-- The pieces that are no texts. -/
def nameP : List (List UInt8) := [[97], [120, 49], [95], [90, 101, 100], [105, 102, 102], [110, 111, 116, 116]]
def wordP : List (List UInt8) := [[105, 102], [110, 111, 116], [78, 111, 110, 101], [99, 108, 97, 115, 115], [105, 110], [108, 97, 109, 98, 100, 97], [84, 114, 117, 101]]
def numP : List (List UInt8) := [[48], [55], [49, 48], [57, 56, 55, 54, 53, 52, 51, 50, 49, 48, 57, 56, 55, 54, 53, 52, 51, 50, 49, 48]]
def signP : List (List UInt8) := [[44], [58], [46], [61], [61, 61], [33, 61], [60], [60, 61], [62], [62, 61], [43], [43, 61], [45], [45, 61], [42], [42, 61], [42, 42], [47, 47], [47, 47, 61], [37], [37, 61], [38], [38, 61], [124], [124, 61], [94], [94, 61]]
theorem names_pg : ∀ p ∈ nameP, Pg p 1 p := by
  intro p hp
  simp only [nameP, List.mem_cons, List.not_mem_nil, or_false] at hp
  rcases hp with rfl | rfl | rfl | rfl | rfl | rfl <;> exact pg_word (by decide) (by decide) (by decide) (by decide)
theorem words_pg : ∀ p ∈ wordP, Pg p (if wrd p then 2 else 1) p := by
  intro p hp
  simp only [wordP, List.mem_cons, List.not_mem_nil, or_false] at hp
  rcases hp with rfl | rfl | rfl | rfl | rfl | rfl | rfl <;> exact pg_word (by decide) (by decide) (by decide) (by decide)
theorem nums_pg : ∀ p ∈ numP, Pg p 3 p := by
  intro p hp
  simp only [numP, List.mem_cons, List.not_mem_nil, or_false] at hp
  rcases hp with rfl | rfl | rfl | rfl <;> exact pg_num (by decide) (by decide) (by decide) (by decide) (by decide)
theorem signs_pg : ∀ p ∈ signP, Pg p 5 p := by
  intro p hp
  simp only [signP, List.mem_cons, List.not_mem_nil, or_false] at hp
  rcases hp with rfl | rfl | rfl | rfl | rfl | rfl | rfl | rfl | rfl | rfl | rfl | rfl | rfl | rfl | rfl | rfl | rfl | rfl | rfl | rfl | rfl | rfl | rfl | rfl | rfl | rfl | rfl
  all_goals
    refine pg_sign ?_ ⟨_, _, rfl, by decide, by decide, by decide, by decide, by decide, by decide, by decide⟩ (by decide)
    first
    | exact fun c0 R hc => sg1 (by decide) c0 R hc
    | exact fun c0 R hc => sg2 (by decide) c0 R hc
    | exact fun c0 R _ => sg3 (by decide) c0 R
end Lx
end Go.Proofs.YtgillafjccgkdaaDoor
namespace Go.Proofs.YtgillafjccgkdaaDoor
namespace Lx

/-- A text in quotes. -/
theorem pg_text {q l : List UInt8} (hu : ∀ t, unq (q ++ t) = some (l, q.length)) (h0 : ∃ r, q = 39 :: r) : Pg q 4 l := by
  obtain ⟨r, rfl⟩ := h0
  refine ⟨⟨39, r, rfl, by decide, by decide, by decide⟩, fun c0 R _ => ?_⟩
  have g0 : (39 :: r ++ c0 :: R).getD 0 0 = 39 := rfl
  unfold tk
  rw [g0, if_pos (Or.inl rfl), hu]
/-- A token without its place. -/
def kt (t : Tok) : Nat × List UInt8 := (t.kind, t.text)
/-- At the head of a line: what has been read is W. -/
def Ly (L : List UInt8) (W : List (Nat × List UInt8)) : Prop := ∃ ts, Gets L ⟨true, 0, ⟨L.length, 0, [0], ts⟩⟩ ∧ ts.map kt = W ∧ ∀ t, ts.getLast? = some t → t.kind = 6
/-- Behind a piece. -/
def Lm (L : List UInt8) (W : List (Nat × List UInt8)) : Prop := ∃ ts b, GetsD L ⟨false, b, ⟨L.length, 0, [0], ts⟩⟩ ∧ ts.map kt = W
/-- Behind a piece and blanks. -/
def Lb (L : List UInt8) (W : List (Nat × List UInt8)) : Prop := ∃ ts b, Gets L ⟨false, b, ⟨L.length, 0, [0], ts⟩⟩ ∧ ts.map kt = W
theorem ly0 : Ly [] [] := ⟨[], gets0, rfl, fun t h => by simp at h⟩
theorem Ly.piece {L p t : List UInt8} {k : Nat} {W : List (Nat × List UInt8)} (h : Ly L W) (hp : Pg p k t) : Lm (L ++ p) (W ++ [(k, t)]) := by
  obtain ⟨ts, h1, h2, _⟩ := h
  exact ⟨_, _, h1.piece (fun _ => rfl) hp, by simp [h2, kt]⟩
theorem Lb.piece {L p t : List UInt8} {k : Nat} {W : List (Nat × List UInt8)} (h : Lb L W) (hp : Pg p k t) : Lm (L ++ p) (W ++ [(k, t)]) := by
  obtain ⟨ts, b, h1, h2⟩ := h
  exact ⟨_, _, h1.piece (fun h => by cases h) hp, by simp [h2, kt]⟩
theorem len_one (L : List UInt8) (c : UInt8) : (L ++ [c]).length = L.length + 1 := by simp
theorem Lm.blank {L : List UInt8} {W : List (Nat × List UInt8)} (h : Lm L W) : Lb (L ++ [32]) W := by
  obtain ⟨ts, b, h1, h2⟩ := h
  exact ⟨ts, b + 1, by rw [len_one]; exact h1.blank, h2⟩
theorem Lb.blank {L : List UInt8} {W : List (Nat × List UInt8)} (h : Lb L W) : Lb (L ++ [32]) W := by
  obtain ⟨ts, b, h1, h2⟩ := h
  exact ⟨ts, b + 1, by rw [len_one]; exact h1.d.blank, h2⟩
theorem Lm.line {L : List UInt8} {W : List (Nat × List UInt8)} (h : Lm L W) : Ly (L ++ [10]) (W ++ [(6, [])]) := by
  obtain ⟨ts, b, h1, h2⟩ := h
  refine ⟨ts ++ [⟨6, [], L.length⟩], by rw [len_one]; exact h1.line, by simp [h2, kt], fun t ht => ?_⟩
  simp at ht
  rw [← ht]
/-- A remark behind a line's pieces. -/
theorem Lm.remark {L m : List UInt8} {W : List (Nat × List UInt8)} (h : Lm L W) (hm : 10 ∉ m) : Ly (L ++ 32 :: 35 :: m ++ [10]) (W ++ [(6, [])]) := by
  obtain ⟨ts, b, h1, h2⟩ := h.blank
  have h3 := h1.remarkLine (m := m) hm
  have e : L ++ [32] ++ 35 :: m ++ [10] = L ++ 32 :: 35 :: m ++ [10] := by simp
  rw [e] at h3
  refine ⟨ts ++ [⟨6, [], (L ++ [32]).length + m.length + 1⟩], ?_, by simp [h2, kt], fun t ht => ?_⟩
  · have e2 : (L ++ [32]).length + m.length + 2 = (L ++ 32 :: 35 :: m ++ [10]).length := by simp; omega
    rw [e2] at h3
    exact h3
  · simp at ht
    rw [← ht]
/-- Lines without a piece: a remark behind three blanks, an empty one, two blanks. -/
theorem Ly.none {L : List UInt8} {W : List (Nat × List UInt8)} (h : Ly L W) : Ly (L ++ [32, 32, 32, 35, 32, 40, 10, 10, 32, 32, 10]) W := by
  obtain ⟨ts, h1, h2, h3⟩ := h
  have a1 := h1.d.blank
  rw [← len_one L 32] at a1
  have a2 := a1.d.blank
  rw [← len_one (L ++ [32]) 32] at a2
  have a3 := a2.d.blank
  rw [← len_one (L ++ [32] ++ [32]) 32] at a3
  have a4 := a3.remarkLine (m := [32, 40]) (by decide)
  have e4 : (L ++ [32] ++ [32] ++ [32]).length + ([32, 40] : List UInt8).length + 2 = (L ++ [32] ++ [32] ++ [32] ++ 35 :: [32, 40] ++ [10]).length := by simp
  rw [e4] at a4
  have a5 := a4.d.line
  rw [← len_one _ 10] at a5
  have a6 := a5.d.blank
  rw [← len_one _ 32] at a6
  have a7 := a6.d.blank
  rw [← len_one _ 32] at a7
  have a8 := a7.d.line
  rw [← len_one _ 10] at a8
  have e : L ++ [32] ++ [32] ++ [32] ++ 35 :: [32, 40] ++ [10] ++ [10] ++ [32] ++ [32] ++ [10] = L ++ [32, 32, 32, 35, 32, 40, 10, 10, 32, 32, 10] := by simp
  rw [e] at a8
  exact ⟨ts, a8, h2, h3⟩
/-- The end. -/
theorem Ly.fin {L : List UInt8} {W : List (Nat × List UInt8)} (h : Ly L W) : ∃ ts, Lex L cf0 (.ok ts) ∧ ts.map kt = W ++ [(9, [])] := by
  obtain ⟨ts, h1, h2, h3⟩ := h
  exact ⟨_, h1.fin h3, by simp [h2, kt]⟩
end Lx
end Go.Proofs.YtgillafjccgkdaaDoor
namespace Go.Proofs.YtgillafjccgkdaaDoor
open Go.RowKit Go.WideShapes
namespace Lx

theorem rem13 (x : Int) (n : Nat) (hn : 0 < n) (w : World) : (binOp .rem 3 (.int .i64 x) (.int .i64 (n : Int))).run Tryd.prog w = .ok (.int .i64 (Int.tmod x (n : Int))) w := by
  simp [binOp, go_sem]
  omega
/-- Which one of n. -/
def pix (x : Int) (n : Nat) : Nat := (if Int.tmod x (n : Int) < 0 then Int.tmod x (n : Int) + (n : Int) else Int.tmod x (n : Int)).toNat
theorem pix_lt (x : Int) {n : Nat} (hn : 0 < n) : pix x n < n ∧ (if Int.tmod x (n : Int) < 0 then Int.tmod x (n : Int) + (n : Int) else Int.tmod x (n : Int)) = (pix x n : Int) := by
  have h1 : Int.tmod x (n : Int) < (n : Int) := Int.tmod_lt_of_pos _ (by omega)
  have h2 : -(n : Int) < Int.tmod x (n : Int) := Int.lt_tmod_of_pos _ (by omega)
  unfold pix
  split <;> omega
set_option maxRecDepth 100000 in
theorem pick_any {w : World} {g n cap : Nat} {G : Nat → ByteArray} (x : Int) (hn : 0 < n) (hn2 : n ≤ 1000) (hG : ∀ j, j < n → w.cell? ⟨g, j, none⟩ = some (.string (G j))) :
    Calls Tryd.prog 9 #[.slice (some ⟨g, 0, none⟩) n cap, .int .i64 x] w fun e w' => e = .returned (.string (G (pix x n))) ∧ w' = w := by
  obtain ⟨hp, he⟩ := pix_lt x hn
  have hc := hG (pix x n) hp
  have hr := rem13 x n hn
  have t0 : (0 : Int) ≤ (pix x n : Int) := by omega
  have t1 : (pix x n : Int) < (n : Int) := by omega
  clear hG
  generalize pix x n = p at *
  by_cases hneg : Int.tmod x (n : Int) < 0
  · rw [if_pos hneg] at he
    have e1 : IntKind.i64.wrap (Int.tmod x (n : Int) + (n : Int)) = (p : Int) := by rw [he]; exact i64_small (by omega) (by omega)
    go_enter Tryd.func9, Tryd.ntmps9
    go_wp2_with fail
    go_ret
    exact ⟨rfl, rfl⟩
  · rw [if_neg hneg] at he
    rw [he] at hr hneg
    go_enter Tryd.func9, Tryd.ntmps9
    go_wp2_with fail
    go_ret
    exact ⟨rfl, rfl⟩
end Lx
end Go.Proofs.YtgillafjccgkdaaDoor
