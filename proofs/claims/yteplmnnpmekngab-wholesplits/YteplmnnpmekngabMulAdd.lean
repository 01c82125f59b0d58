/-
  What mulAdd and areDigits of package whole do.
-/
import Derived.Lib.OwnKind
import Derived.Lib.SmallJoins
import Derived.Test.YteplmnnpmekngabSums
namespace Go.Proofs.Yteplmnnpmekngab
open Go.RowKit

theorem mulAdd_val {xs ds : List Nat} {k c x d c' m : Nat} (h : val ds + pw k * c = val (xs.take k) * 1000000000 + m) (hd : ds.length = k) (ex : xs[k]?.getD 0 = x) (hs : x * 1000000000 + c = d + 4294967296 * c') :
    val (ds ++ [d]) + pw (k + 1) * c' = val (xs.take (k + 1)) * 1000000000 + m := by
  rw [val_append, hd, val_take_succ', ex]
  simp only [val, pw]
  have e : pw k * (x * 1000000000 + c) = pw k * (d + 4294967296 * c') := by rw [hs]
  rw [Nat.mul_add, Nat.mul_add] at e
  have e2 : 4294967296 * pw k * c' = pw k * (4294967296 * c') := by rw [Nat.mul_comm 4294967296 (pw k), Nat.mul_assoc]
  rw [e2, Nat.add_mul, Nat.mul_assoc (pw k)]
  simp only [Nat.mul_zero, Nat.add_zero]
  omega
theorem words_set {B : Nat} {w : World} {g n cap : Nat} {ts : List Nat} (hn : ts.length = n) (h : Words B w (.slice (some ⟨g, 0, none⟩) n cap) ts) (j d : Nat) : Words B (w.setCell ⟨g, j, none⟩ (.int .u32 (d : Int))) (.slice (some ⟨g, 0, none⟩) n cap) (ts.set j d) := by
  unfold Words at h ⊢
  subst hn
  have := (World.ownsRow.stored h j (.int .u32 (d : Int))).1
  rw [List.length_set, List.map_set]
  exact this

end Go.Proofs.Yteplmnnpmekngab
