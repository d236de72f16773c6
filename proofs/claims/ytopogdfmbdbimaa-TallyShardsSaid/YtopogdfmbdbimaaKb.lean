/- What package span's calls come to, as functions of lists: the union, what is in both sets, what is outside; each of them is a set, and what it is for each text. Conditions: none. -/
import Derived.Test.YtopogdfmbdbimaaKc
namespace Go.Proofs.Ytopogdfmbdbimaa

/-- What two sets have in common: whoever ends first is done with. -/
def cutF : Nat → List Sp → List Sp → List Sp
  | n + 1, s :: a, t :: b => (if fullS (commonS s t) = true then [commonS s t] else []) ++ (if behindT s.2 t.2 = true then cutF n (s :: a) b else cutF n a (t :: b))
  | _, _, _ => []
theorem cutF_nil1 (n : Nat) (b : List Sp) : cutF n [] b = [] := by cases n <;> rfl
theorem cutF_nil2 (n : Nat) (a : List Sp) : cutF n a [] = [] := by cases n <;> cases a <;> rfl
/-- What the union of l is: a set, with l's texts, whose edges are l's. -/
structure Uni (l u : List Sp) : Prop where
  set : IsSet u
  mem : ∀ k, memL u k = memL l k
  len : u.length ≤ l.length
  ends : ∀ c ∈ u, (∃ s ∈ l, s.1 = c.1) ∧ ∃ s ∈ l, s.2 = c.2
theorem Uni.eq {l u v : List Sp} (h1 : Uni l u) (h2 : IsSet v) (h3 : ∀ k, memL v k = memL l k) : u = v := set_uniq h1.set h2 fun k => (h1.mem k).trans (h3 k).symm

end Go.Proofs.Ytopogdfmbdbimaa
