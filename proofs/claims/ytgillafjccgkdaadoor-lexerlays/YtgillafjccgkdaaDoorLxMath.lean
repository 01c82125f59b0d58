/-
  Tokens of a source: what the document asks, as a machine that goes through bytes.
-/
import Derived.Test.YtgillafjccgkdaaDoorLeQ
namespace Go.Proofs.YtgillafjccgkdaaDoor

theorem uqGo_le (c : UInt8) : ∀ (f : Nat) (l : List UInt8) (p : List UInt8 × Nat), uqGo c f l = some p → 1 ≤ p.2 ∧ p.2 ≤ l.length
  | 0, l, p, h => by simp [uqGo] at h
  | f + 1, l, p, h => by
    unfold uqGo at h
    by_cases hne : l = []
    · simp [hne] at h
    · have hl : 0 < l.length := List.length_pos_iff.2 hne
      rw [if_neg hne] at h
      by_cases hc : l.getD 0 0 = c
      · rw [if_pos hc] at h
        injection h with h
        subst h
        exact ⟨Nat.le_refl _, by show 1 ≤ l.length; omega⟩
      · rw [if_neg hc] at h
        by_cases h0 : (rq l).2 = 0
        · rw [if_pos h0] at h
          cases h
        · rw [if_neg h0] at h
          cases hq : uqGo c f (l.drop (rq l).2) with
          | none => rw [hq] at h; cases h
          | some q =>
            rw [hq] at h
            injection h with h
            subst h
            have := uqGo_le c f _ q hq
            rw [List.length_drop] at this
            exact ⟨by show 1 ≤ (rq l).2 + q.2; omega, by show (rq l).2 + q.2 ≤ l.length; omega⟩
theorem unq_le (l : List UInt8) (p : List UInt8 × Nat) (h : unq l = some p) : 2 ≤ p.2 ∧ p.2 ≤ l.length := by
  unfold unq at h
  by_cases hne : l = []
  · simp [hne] at h
  · have hl : 0 < l.length := List.length_pos_iff.2 hne
    rw [if_neg hne] at h
    split at h
    · cases hq : uq (l.getD 0 0) (l.drop 1) with
      | none => rw [hq] at h; cases h
      | some q =>
        rw [hq] at h
        injection h with h
        subst h
        have := uqGo_le _ _ _ q hq
        rw [List.length_drop] at this
        exact ⟨by show 2 ≤ 1 + q.2; omega, by show 1 + q.2 ≤ l.length; omega⟩
    · cases h

/-- A token: its kind, its text, its place. -/
structure Tok where
  kind : Nat
  text : List UInt8
  at_ : Nat
deriving DecidableEq
/-- Where a reader stands: the byte, how many brackets are open, the depths of the blocks, the innermost first, the tokens. -/
structure St where
  at_ : Nat
  opn : Nat
  bs : List Nat
  ts : List Tok
/-- A configuration: at the head of a line, blanks, the reader. -/
structure Cf where
  head : Bool
  bl : Nat
  s : St
inductive Out where
  | bad (code place : Nat)
  | ok (ts : List Tok)

def isD (c : UInt8) : Bool := decide (48 ≤ c.toNat ∧ c.toNat ≤ 57)
def isP (c : UInt8) : Bool := decide (97 ≤ c.toNat ∧ c.toNat ≤ 122) || decide (65 ≤ c.toNat ∧ c.toNat ≤ 90) || decide (c.toNat = 95) || isD c
/-- The bytes of a remark: up to the line's end. -/
def rem : List UInt8 → Nat
  | [] => 0
  | c :: t => if c = 10 then 0 else rem t + 1
theorem rem_le : ∀ l, rem l ≤ l.length
  | [] => Nat.le_refl _
  | c :: t => by
    unfold rem
    have := rem_le t
    split <;> simp <;> omega
/-- How many letters, digits and _ stand there. -/
def prt : List UInt8 → Nat
  | [] => 0
  | c :: t => if isP c then prt t + 1 else 0
theorem prt_le : ∀ l, prt l ≤ l.length
  | [] => Nat.le_refl _
  | c :: t => by
    unfold prt
    have := prt_le t
    split <;> simp <;> omega
def words : List (List UInt8) := [[97, 110, 100], [97, 115], [98, 114, 101, 97, 107], [99, 108, 97, 115, 115], [99, 111, 110, 116, 105, 110, 117, 101], [100, 101, 102], [100, 101, 108], [101, 108, 105, 102], [101, 108, 115, 101], [101, 120, 99, 101, 112, 116], [70, 97, 108, 115, 101], [102, 111, 114], [103, 108, 111, 98, 97, 108], [105, 102], [105, 110], [105, 115], [78, 111, 110, 101], [110, 111, 110, 108, 111, 99, 97, 108], [110, 111, 116], [111, 114], [112, 97, 115, 115], [114, 97, 105, 115, 101], [114, 101, 116, 117, 114, 110], [84, 114, 117, 101], [116, 114, 121], [119, 104, 105, 108, 101]]
def wrd (t : List UInt8) : Bool := decide (t ∈ words)
/-- The signs, as the document's own answer goes through them. -/
def signs : List (List UInt8) := [[61, 61], [33, 61], [60, 61], [62, 61], [43, 61], [45, 61], [42, 61], [42, 42], [47, 47, 61], [47, 47], [37, 61], [38, 61], [124, 61], [94, 61], [40], [41], [91], [93], [123], [125], [44], [58], [46], [61], [60], [62], [43], [45], [42], [37], [38], [124], [94]]
def isS (t : List UInt8) : Bool := decide (t ∈ signs)
/-- The longest sign that stands there; nothing: there is none. -/
def sgn (l : List UInt8) : List UInt8 := if isS (l.take 3) then l.take 3 else if isS (l.take 2) then l.take 2 else if isS (l.take 1) then l.take 1 else []
theorem sgn_le (l : List UInt8) : (sgn l).length ≤ l.length := by
  unfold sgn
  repeat' split
  all_goals simp
  all_goals omega
def allD (t : List UInt8) : Bool := t.all isD
def isN (t : List UInt8) : Bool := allD t && decide (t.length ≤ 1000) && (decide (t.getD 0 0 ≠ 48) || decide (t.length = 1))
/-- What stands there: kind, text, bytes, open brackets; or why it offends. -/
def tk (r : List UInt8) (o : Nat) : Except Nat (Nat × List UInt8 × Nat × Nat) :=
  if r.getD 0 0 = 39 ∨ r.getD 0 0 = 34 then
    match unq r with
    | none => .error 104
    | some p => .ok (4, p.1, p.2, o)
  else if isD (r.getD 0 0) then
    if isN (r.take (prt r)) then .ok (3, r.take (prt r), prt r, o) else .error 105
  else if isP (r.getD 0 0) then
    .ok (if wrd (r.take (prt r)) then 2 else 1, r.take (prt r), prt r, o)
  else if sgn r = [] then .error 102
  else if sgn r = [40] ∨ sgn r = [91] ∨ sgn r = [123] then
    if 60 ≤ o then .error 107 else .ok (5, sgn r, (sgn r).length, o + 1)
  else if sgn r = [41] ∨ sgn r = [93] ∨ sgn r = [125] then .ok (5, sgn r, (sgn r).length, o - 1)
  else .ok (5, sgn r, (sgn r).length, o)
def dep (s : St) : Nat := s.bs.headD 0
def St.pop (s : St) : St := { s with bs := s.bs.drop 1, ts := s.ts ++ [⟨8, [], s.at_⟩] }
/-- Blocks that end: as long as n is below the last one. -/
def ded (n a : Nat) : List Nat → List Tok → List Nat × List Tok
  | [], ts => ([], ts)
  | d :: r, ts => if n < d then ded n a r (ts ++ [⟨8, [], a⟩]) else (d :: r, ts)
/-- A line with n blanks begins. -/
def stl (n : Nat) (s : St) : Except Nat St :=
  if dep s < n then
    if 40 < s.bs.length then .error 107 else .ok { s with bs := n :: s.bs, ts := s.ts ++ [⟨7, [], s.at_⟩] }
  else
    if n = ((ded n s.at_ s.bs s.ts).1).headD 0 then .ok { s with bs := (ded n s.at_ s.bs s.ts).1, ts := (ded n s.at_ s.bs s.ts).2 } else .error 103
/-- A Newline, if something else was the last token. -/
def nl (a : Nat) (ts : List Tok) : List Tok :=
  match ts.getLast? with
  | none => ts
  | some t => if t.kind = 6 ∨ t.kind = 7 ∨ t.kind = 8 then ts else ts ++ [⟨6, [], a⟩]
def fin (s : St) : List Tok := nl s.at_ s.ts ++ List.replicate (s.bs.length - 1) ⟨8, [], s.at_⟩ ++ [⟨9, [], s.at_⟩]
/-- One token, behind what begins with its line. -/
def tkn (l : List UInt8) (b : Nat) (s : St) : Out ⊕ Cf :=
  match tk (l.drop s.at_) s.opn with
  | .error e => .inl (.bad e s.at_)
  | .ok p => .inr ⟨false, b, ⟨s.at_ + p.2.2.1, p.2.2.2, s.bs, s.ts ++ [⟨p.1, p.2.1, s.at_⟩]⟩⟩
def stp (l : List UInt8) (c : Cf) : Out ⊕ Cf :=
  if l.length ≤ c.s.at_ then .inl (.ok (fin c.s))
  else if l.getD c.s.at_ 0 = 35 then .inr { c with s := { c.s with at_ := c.s.at_ + rem (l.drop c.s.at_) } }
  else if l.getD c.s.at_ 0 = 32 then .inr ⟨c.head, c.bl + 1, { c.s with at_ := c.s.at_ + 1 }⟩
  else if l.getD c.s.at_ 0 = 10 then
    if c.s.opn = 0 then .inr ⟨true, 0, { c.s with at_ := c.s.at_ + 1, ts := if c.head then c.s.ts else c.s.ts ++ [⟨6, [], c.s.at_⟩] }⟩
    else .inr ⟨c.head, 0, { c.s with at_ := c.s.at_ + 1 }⟩
  else if c.head then
    match stl c.bl c.s with
    | .error e => .inl (.bad e c.s.at_)
    | .ok s => tkn l c.bl s
  else tkn l c.bl c.s
inductive Lex (l : List UInt8) : Cf → Out → Prop
  | done {c r} : stp l c = .inl r → Lex l c r
  | more {c c' r} : stp l c = .inr c' → Lex l c' r → Lex l c r
theorem Lex.det {l : List UInt8} {c : Cf} {r r' : Out} (h : Lex l c r) (h' : Lex l c r') : r = r' := by
  induction h with
  | done e =>
    cases h' with
    | done e' => rw [e] at e'; injection e'
    | more e' _ => rw [e] at e'; cases e'
  | more e _ ih =>
    cases h' with
    | done e' => rw [e] at e'; cases e'
    | more e' h' => rw [e] at e'; injection e' with e'; subst e'; exact ih h'
/-- A token more, and so many bytes. -/
def St.add (s : St) (k : Nat) (x : List UInt8) (n : Nat) : St := ⟨s.at_ + n, s.opn, s.bs, s.ts ++ [⟨k, x, s.at_⟩]⟩
def cf0 : Cf := ⟨true, 0, ⟨0, 0, [0], []⟩⟩
/-- What always holds of a reader. -/
structure St.Ok (n : Nat) (s : St) : Prop where
  le : s.at_ ≤ n
  o : s.opn ≤ 60
  ne : s.bs ≠ []
  last : s.bs.getLast? = some 0
  few : s.bs.length ≤ 41
  down : s.bs.Pairwise (fun a b => b < a)
  many : s.ts.length ≤ 41 * s.at_
  kind : ∀ t, s.ts.getLast? = some t → t.kind ≠ 7 ∧ t.kind ≠ 8
theorem ok0 (n : Nat) : (cf0.s).Ok n := ⟨Nat.zero_le _, Nat.zero_le _, by simp [cf0], rfl, by simp [cf0], by simp [cf0], by simp [cf0], fun t h => by simp [cf0] at h⟩
end Go.Proofs.YtgillafjccgkdaaDoor
