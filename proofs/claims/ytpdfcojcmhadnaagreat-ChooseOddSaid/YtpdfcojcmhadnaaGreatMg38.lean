/- Has; lists of numbers: where one is, a clone, what a tally has not of them. Conditions: lists of at most a million numbers. -/
import Derived.Lib.SliceRun
import Derived.Maps.OwnOps
import Derived.Test.YtpdfcojcmhadnaaGreatMg37
set_option maxRecDepth 100000
set_option maxHeartbeats 16000000
set_option linter.unusedVariables false
namespace Go.Proofs.YtpdfcojcmhadnaaGreat
open S3 S4
namespace S5
open Go.RowKit Go.Sort Go.Shelf Go.Maps
def idxP (p : Int → Bool) (l : List Int) : Int := if l.any p then (l.findIdx p : Int) else -1
theorem idx_hit {p : Int → Bool} {l : List Int} {k : Nat} {x : Int} (hx : l[k]? = some x) (hp : p x = true) (hn : (l.take k).any p = false) : idxP p l = (k : Int) := by
 obtain ⟨h, rfl⟩ := List.getElem?_eq_some_iff.1 hx
 have ha : l.any p = true := List.any_eq_true.2 ⟨_, List.getElem_mem h, hp⟩
 unfold idxP
 rw [if_pos ha]
 congr 1
 refine (List.findIdx_eq h).2 ⟨hp, fun j hj => ?_⟩
 have hj2 : j < (l.take k).length := by rw [List.length_take]; omega
 have := List.any_eq_false.1 hn (l.take k)[j] (List.getElem_mem hj2)
 rw [List.getElem_take] at this
 simpa using this
theorem idx_miss {p : Int → Bool} {l : List Int} (hn : l.any p = false) : idxP p l = -1 := by simp [idxP, hn]
theorem any_take_s {p : Int → Bool} {l : List Int} {k : Nat} {x : Int} (hx : l[k]? = some x) (hn : (l.take k).any p = false) (hp : p x = false) : (l.take (k + 1)).any p = false := by
 rw [List.take_add_one, hx, List.any_append, hn]
 simp [hp]
theorem index_any (a : Option Addr) (c : Nat) (l : List Int) (n : Int) (w : World) (hlen : l.length ≤ 1000000) (hl : Il w a c l) :
  Calls Tryz.prog 49 #[.slice a l.length c, .int .i64 n] w fun e w' => e = .returned (.int .i64 (idxP (· == n) l)) ∧ Below w.heap.size w w' := by
 have HL := Lib.hid hl
 clear hl
 go_enter Tryz.func49, Tryz.ntmps49
 go_wp2
 go_loopw [8] (fun i wr => ∃ k : Nat, k ≤ l.length ∧ i = .int .i64 k ∧ (l.take k).any (· == n) = false ∧ Below w.heap.size w wr) (fun i _ => l.length - (RowKit.intOf i).toNat)
 case atStart => exact ⟨0, Nat.zero_le _, rfl, rfl, Below.refl _ _⟩
 case round =>
  obtain ⟨k, hk, rfl, hn, hb⟩ := hrel
  by_cases hlt : k < l.length
  ·obtain ⟨x, hx⟩ := at_lt hlt
   obtain ⟨g, o, rfl, hg, d0⟩ := HL.out.at hx
   have c0 := cell_in hb hg d0
   have hgw := Nat.lt_of_lt_of_le hg hb.size
   have hk0 : (0 : Int) ≤ (k : Int) := by omega
   have hk1 : (k : Int) < (l.length : Int) := by omega
   have hdk : decide ((k : Int) < (l.length : Int)) = true := decide_eq_true hk1
   have HX := Lib.hid hx
   have HB := Lib.hid hb
   have HN := Lib.hid hn
   clear hx hb hn d0
   by_cases he : n = x
   ·subst he
    have HE := Lib.hid (idx_hit (p := fun y => y == n) HX.out (by simp) HN.out)
    go_wp2
    go_ret
    exact ⟨ret_int HE.out.symm, HB.out⟩
   ·have hbe : ((n : Int) == x) = false := by simpa using he
    go_wp2
    go_roundw
    case rel => exact ⟨k + 1, hlt, by go_num, any_take_s HX.out HN.out (by simpa using fun e => he e.symm), HB.out⟩
    case measure => simp [RowKit.intOf]; omega
  ·have hdk : decide ((k : Int) < (l.length : Int)) = false := decide_eq_false (by omega)
   rw [List.take_of_length_le (by omega)] at hn
   have HE := Lib.hid (idx_miss hn)
   clear hn
   go_wp2
   go_ret
   exact ⟨ret_int HE.out.symm, hb⟩
theorem idx_ge (p : Int → Bool) (l : List Int) : decide ((0 : Int) ≤ idxP p l) = l.any p := by
 unfold idxP
 cases h : l.any p <;> simp
theorem contains_any (a : Option Addr) (c : Nat) (l : List Int) (n : Int) (w : World) (hlen : l.length ≤ 1000000) (hl : Il w a c l) :
  Calls Tryz.prog 26 #[.slice a l.length c, .int .i64 n] w fun e w' => e = .returned (.bool (hasN l n)) ∧ Below w.heap.size w w' := by
 have HL := Lib.hid hl
 have HE := Lib.hid (idx_ge (· == n) l)
 clear hl
 have HI := Lib.hid (index_any a c l n w hlen HL.out)
 clear hlen
 go_enter Tryz.func26, Tryz.ntmps26
 go_wp2_with (go_at_call 49; refine HI.out.mono ?_; rintro e w' ⟨rfl, hb⟩; have HB := Lib.hid hb; clear hb)
 go_ret
 exact ⟨ret_bool HE.out, HB.out⟩
end S5
end Go.Proofs.YtpdfcojcmhadnaaGreat
