/- The reference's Lay of Deps. Conditions: lists of at most a million, with a million stamps in all. -/
import Derived.Test.YtjlbhffdlogflaaMg32
import Derived.Test.YtjlbhffdlogflaaMg19
/- The reference's Lay of Deps. Conditions: lists of at most a million, with a million stamps in all. -/
set_option linter.unusedVariables false
namespace Go.Proofs.Ytjlbhffdlogflaa
open S1
namespace SD
open Go.RowKit

/-- The bytes of one; of all. -/
def lay1 (x : Int × List (Int × Int)) : List UInt8 := S2.i8 x.1 ++ S2.sts x.2
def layF (d : Dd) : List UInt8 := d.flatMap lay1
def layD (d : Dd) : List UInt8 := S2.i8 d.length ++ layF d
theorem sts_len (l : List (Int × Int)) : (S2.sts l).length = 8 + 16 * l.length := by
  unfold S2.sts
  rw [List.length_append, S2.i8_length, S2.flat_length S2.st 16 S2.st_length]
theorem layF_len (d : Dd) : (layF d).length = 16 * d.length + 16 * idsN d := by
  unfold layF
  induction d with
  | nil => rfl
  | cons x r ih =>
    rw [List.flatMap_cons, List.length_append, ih, idsN_cons, List.length_cons]
    unfold lay1
    rw [List.length_append, S2.i8_length, sts_len]
    omega
theorem layF_take {l : List Dp} {k : Nat} {s : Dp} (h : l[k]? = some s) : layF ((toD l).take (k + 1)) = layF ((toD l).take k) ++ (S2.i8 s.sh ++ S2.sts s.ids) := by
  unfold layF
  rw [List.take_add_one, toD_at h, List.flatMap_append]
  simp [lay1]
end SD
end Go.Proofs.Ytjlbhffdlogflaa
