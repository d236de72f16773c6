/- own: a list of the call's own, with the stamps of l, to which more may be added. Conditions: a list of at most a million stamps. -/
import Derived.Test.YtnicdbkjgicliaaSl
namespace Go.Proofs.Ytnicdbkjgicliaa
open Go.Sort (grow)
open Go.RowKit

/-- It returns a list of its own. -/
def RetO (w : World) (l : List (Int × Int)) (e : Ending) (w' : World) : Prop := ∃ v, e = .returned v ∧ OwnL w' w.heap.size v l ∧ Below w.heap.size w w'
set_option maxRecDepth 100000 in
set_option maxHeartbeats 1000000 in
theorem ownc_any (a : Option Addr) (cap : Nat) (l : List (Int × Int)) (w : World) (hlen : l.length ≤ 1000000) (hl : SL w a l) (hn : a = none → cap = 0) :
    Calls Try.prog 20 #[.slice a l.length cap] w (RetO w l) := by
  have HS := Lib.hid (hl.later (blAlloc (Below.refl _ _) (Obj.cells #[] 23)))
  have HN := Lib.hid hn
  have HLEN := Lib.hid hlen
  have HE : Hid (OwnL (w.alloc (Obj.cells #[] 23)) w.heap.size (.slice (some ⟨w.heap.size, 0, none⟩) 0 0) []) := own_empty w
  clear hl hn
  go_enter Try.func20, Try.ntmps20
  go_wp2_with (at_builtin; refine append_st rfl _ _ rfl w.heap.size _ [] rfl HE.out a cap l rfl HS.out HN.out (by have := HLEN.out; simp only [List.length_nil]; omega) (blAlloc (Below.refl _ _) _).size ?_)
  · intro v' w' hown hgrow
    have HB := Lib.hid (grown_below (blAlloc (Below.refl _ _) _) HE.out (Nat.le_refl _) (blAlloc (Below.refl _ _) _).size hgrow)
    have HO : Hid (OwnL w' w.heap.size v' l) := hown
    clear hown hgrow
    go_wp2
    go_ret
    exact ⟨_, rfl, HO.out, HB.out⟩

end Go.Proofs.Ytnicdbkjgicliaa
