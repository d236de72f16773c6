/- The map from kinds to letters. Conditions: none. -/
import Derived.Maps.OwnSet
import Derived.Maps.OwnOps
import Derived.OwnWalk
import Derived.Carry
import Derived.WalkSpells
import Derived.Test.YtgipkikedacmdaaGreatMg49
import Derived.Test.YtgipkikedacmdaaGreatMg51
set_option maxRecDepth 100000
set_option maxHeartbeats 16000000
set_option linter.unusedVariables false
set_option linter.unusedSimpArgs false
namespace Go.Proofs.YtgipkikedacmdaaGreat
open S3 SC SN SP
namespace SI
open Go.ChangeShapes Go.WideShapes Go.ChangeAt Go.RowKit Go.Joins Go.Deep
def heldI (v : Value) : Option (DataW Value × List MemPlace) := some (.held v, [])
theorem lawI13 : Maps.Keyed Tryz.prog 3 := Maps.int_keyed Tryz.underlying3
def kI (s : Int) : Lit := .int .i64 s
theorem kI_key (s : Int) : WideAt.IsKeyLit (kI s) := trivial
theorem kI_ne {s t : Int} (h : s ≠ t) : kI s ≠ kI t := fun e => h (by unfold kI at e; exact (Lit.int.inj e).2)
def rV (s : ByteArray) : Value := .agg #[.string s]
def dI0 : DataW Value := .map []
def dI1 : DataW Value := dI0.put (kI 1) (.held (rV ⟨#[111]⟩))
def dI2 : DataW Value := dI1.put (kI 2) (.held (rV ⟨#[97, 102, 100]⟩))
def dI3 : DataW Value := dI2.put (kI 3) (.held (rV ⟨#[98, 97, 111]⟩))
def dI4 : DataW Value := dI3.put (kI 4) (.held (rV ⟨#[98, 100]⟩))
def dI5 : DataW Value := dI4.put (kI 5) (.held (rV ⟨#[98, 118, 103]⟩))
def dI6 : DataW Value := dI5.put (kI 6) (.held (rV ⟨#[98]⟩))
def dI7 : DataW Value := dI6.put (kI 14) (.held (rV ⟨#[98]⟩))
def dI8 : DataW Value := dI7.put (kI 7) (.held (rV ⟨#[118, 103]⟩))
def dI9 : DataW Value := dI8.put (kI 15) (.held (rV ⟨#[118, 103]⟩))
def dI10 : DataW Value := dI9.put (kI 8) (.held (rV ⟨#[66, 79]⟩))
def dI11 : DataW Value := dI10.put (kI 9) (.held (rV ⟨#[66, 79, 65, 102, 100, 104]⟩))
def dI12 : DataW Value := dI11.put (kI 10) (.held (rV ⟨#[86, 111]⟩))
def dI13 : DataW Value := dI12.put (kI 11) (.held (rV ⟨#[112]⟩))
def dI14 : DataW Value := dI13.put (kI 12) (.held (rV ⟨#[86, 111, 119]⟩))
def dI15 : DataW Value := dI14.put (kI 13) (.held (rV ⟨#[]⟩))
def dI16 : DataW Value := dI15.put (kI 16) (.held (rV ⟨#[]⟩))
def dI17 : DataW Value := dI16.put (kI 17) (.held (rV ⟨#[]⟩))
def RowsAt (w : World) (b : Nat) : Prop := w.ownsMap Tryz.prog 3 heldI b 17 dI17
theorem RowsAt.later {w wr : World} {b : Nat} (h : RowsAt w b) (hw : Below w.heap.size w wr) : RowsAt wr b := by
 obtain ⟨es, clock, hh, r⟩ := h
 exact ⟨es, clock, (hw.block b (Array.getElem?_eq_some_iff.1 hh).1).trans hh, r⟩
def strOf (k : Int) : ByteArray :=
 if k = 1 then ⟨#[111]⟩ else if k = 2 then ⟨#[97, 102, 100]⟩ else if k = 3 then ⟨#[98, 97, 111]⟩ else if k = 4 then ⟨#[98, 100]⟩ else if k = 5 then ⟨#[98, 118, 103]⟩ else if k = 6 then ⟨#[98]⟩ else if k = 14 then ⟨#[98]⟩ else if k = 7 then ⟨#[118, 103]⟩ else if k = 15 then ⟨#[118, 103]⟩ else if k = 8 then ⟨#[66, 79]⟩ else if k = 9 then ⟨#[66, 79, 65, 102, 100, 104]⟩ else if k = 10 then ⟨#[86, 111]⟩ else if k = 11 then ⟨#[112]⟩ else if k = 12 then ⟨#[86, 111, 119]⟩ else if k = 13 then ⟨#[]⟩ else if k = 16 then ⟨#[]⟩ else if k = 17 then ⟨#[]⟩ else ⟨#[]⟩
theorem isM0 : Maps.IsMap dI0 := ⟨[], rfl⟩
theorem isM1 : Maps.IsMap dI1 := isM0.put _ _
theorem isM2 : Maps.IsMap dI2 := isM1.put _ _
theorem isM3 : Maps.IsMap dI3 := isM2.put _ _
theorem isM4 : Maps.IsMap dI4 := isM3.put _ _
theorem isM5 : Maps.IsMap dI5 := isM4.put _ _
theorem isM6 : Maps.IsMap dI6 := isM5.put _ _
theorem isM7 : Maps.IsMap dI7 := isM6.put _ _
theorem isM8 : Maps.IsMap dI8 := isM7.put _ _
theorem isM9 : Maps.IsMap dI9 := isM8.put _ _
theorem isM10 : Maps.IsMap dI10 := isM9.put _ _
theorem isM11 : Maps.IsMap dI11 := isM10.put _ _
theorem isM12 : Maps.IsMap dI12 := isM11.put _ _
theorem isM13 : Maps.IsMap dI13 := isM12.put _ _
theorem isM14 : Maps.IsMap dI14 := isM13.put _ _
theorem isM15 : Maps.IsMap dI15 := isM14.put _ _
theorem isM16 : Maps.IsMap dI16 := isM15.put _ _
theorem rows_look (k : Int) : Maps.has dI17 (kI k) = (rowOf k).isSome ∧ dI17.atKey (kI k) (.held (rV ⟨#[]⟩)) = .held (rV (strOf k)) := by
 by_cases h17 : k = 17
 ·subst h17
  constructor
  ·have e17 : dI17 = dI16.put (kI 17) (.held (rV ⟨#[]⟩)) := rfl
   rw [e17, Maps.has_put_same isM16 (kI_key _)]
   rfl
  ·have e17 : dI17 = dI16.put (kI 17) (.held (rV ⟨#[]⟩)) := rfl
   rw [e17, Maps.atKey_put_same isM16 (kI_key _)]
   rfl
 by_cases h16 : k = 16
 ·subst h16
  constructor
  ·have e17 : dI17 = dI16.put (kI 17) (.held (rV ⟨#[]⟩)) := rfl
   have e16 : dI16 = dI15.put (kI 16) (.held (rV ⟨#[]⟩)) := rfl
   rw [e17, Maps.has_put_other (kI_ne (by decide)), e16, Maps.has_put_same isM15 (kI_key _)]
   rfl
  ·have e17 : dI17 = dI16.put (kI 17) (.held (rV ⟨#[]⟩)) := rfl
   have e16 : dI16 = dI15.put (kI 16) (.held (rV ⟨#[]⟩)) := rfl
   rw [e17, Maps.atKey_put_other (kI_ne (by decide)), e16, Maps.atKey_put_same isM15 (kI_key _)]
   rfl
 by_cases h13 : k = 13
 ·subst h13
  constructor
  ·have e17 : dI17 = dI16.put (kI 17) (.held (rV ⟨#[]⟩)) := rfl
   have e16 : dI16 = dI15.put (kI 16) (.held (rV ⟨#[]⟩)) := rfl
   have e15 : dI15 = dI14.put (kI 13) (.held (rV ⟨#[]⟩)) := rfl
   rw [e17, Maps.has_put_other (kI_ne (by decide)), e16, Maps.has_put_other (kI_ne (by decide)), e15, Maps.has_put_same isM14 (kI_key _)]
   rfl
  ·have e17 : dI17 = dI16.put (kI 17) (.held (rV ⟨#[]⟩)) := rfl
   have e16 : dI16 = dI15.put (kI 16) (.held (rV ⟨#[]⟩)) := rfl
   have e15 : dI15 = dI14.put (kI 13) (.held (rV ⟨#[]⟩)) := rfl
   rw [e17, Maps.atKey_put_other (kI_ne (by decide)), e16, Maps.atKey_put_other (kI_ne (by decide)), e15, Maps.atKey_put_same isM14 (kI_key _)]
   rfl
 by_cases h12 : k = 12
 ·subst h12
  constructor
  ·have e17 : dI17 = dI16.put (kI 17) (.held (rV ⟨#[]⟩)) := rfl
   have e16 : dI16 = dI15.put (kI 16) (.held (rV ⟨#[]⟩)) := rfl
   have e15 : dI15 = dI14.put (kI 13) (.held (rV ⟨#[]⟩)) := rfl
   have e14 : dI14 = dI13.put (kI 12) (.held (rV ⟨#[86, 111, 119]⟩)) := rfl
   rw [e17, Maps.has_put_other (kI_ne (by decide)), e16, Maps.has_put_other (kI_ne (by decide)), e15, Maps.has_put_other (kI_ne (by decide)), e14, Maps.has_put_same isM13 (kI_key _)]
   rfl
  ·have e17 : dI17 = dI16.put (kI 17) (.held (rV ⟨#[]⟩)) := rfl
   have e16 : dI16 = dI15.put (kI 16) (.held (rV ⟨#[]⟩)) := rfl
   have e15 : dI15 = dI14.put (kI 13) (.held (rV ⟨#[]⟩)) := rfl
   have e14 : dI14 = dI13.put (kI 12) (.held (rV ⟨#[86, 111, 119]⟩)) := rfl
   rw [e17, Maps.atKey_put_other (kI_ne (by decide)), e16, Maps.atKey_put_other (kI_ne (by decide)), e15, Maps.atKey_put_other (kI_ne (by decide)), e14, Maps.atKey_put_same isM13 (kI_key _)]
   rfl
 by_cases h11 : k = 11
 ·subst h11
  constructor
  ·have e17 : dI17 = dI16.put (kI 17) (.held (rV ⟨#[]⟩)) := rfl
   have e16 : dI16 = dI15.put (kI 16) (.held (rV ⟨#[]⟩)) := rfl
   have e15 : dI15 = dI14.put (kI 13) (.held (rV ⟨#[]⟩)) := rfl
   have e14 : dI14 = dI13.put (kI 12) (.held (rV ⟨#[86, 111, 119]⟩)) := rfl
   have e13 : dI13 = dI12.put (kI 11) (.held (rV ⟨#[112]⟩)) := rfl
   rw [e17, Maps.has_put_other (kI_ne (by decide)), e16, Maps.has_put_other (kI_ne (by decide)), e15, Maps.has_put_other (kI_ne (by decide)), e14, Maps.has_put_other (kI_ne (by decide)), e13, Maps.has_put_same isM12 (kI_key _)]
   rfl
  ·have e17 : dI17 = dI16.put (kI 17) (.held (rV ⟨#[]⟩)) := rfl
   have e16 : dI16 = dI15.put (kI 16) (.held (rV ⟨#[]⟩)) := rfl
   have e15 : dI15 = dI14.put (kI 13) (.held (rV ⟨#[]⟩)) := rfl
   have e14 : dI14 = dI13.put (kI 12) (.held (rV ⟨#[86, 111, 119]⟩)) := rfl
   have e13 : dI13 = dI12.put (kI 11) (.held (rV ⟨#[112]⟩)) := rfl
   rw [e17, Maps.atKey_put_other (kI_ne (by decide)), e16, Maps.atKey_put_other (kI_ne (by decide)), e15, Maps.atKey_put_other (kI_ne (by decide)), e14, Maps.atKey_put_other (kI_ne (by decide)), e13, Maps.atKey_put_same isM12 (kI_key _)]
   rfl
 by_cases h10 : k = 10
 ·subst h10
  constructor
  ·have e17 : dI17 = dI16.put (kI 17) (.held (rV ⟨#[]⟩)) := rfl
   have e16 : dI16 = dI15.put (kI 16) (.held (rV ⟨#[]⟩)) := rfl
   have e15 : dI15 = dI14.put (kI 13) (.held (rV ⟨#[]⟩)) := rfl
   have e14 : dI14 = dI13.put (kI 12) (.held (rV ⟨#[86, 111, 119]⟩)) := rfl
   have e13 : dI13 = dI12.put (kI 11) (.held (rV ⟨#[112]⟩)) := rfl
   have e12 : dI12 = dI11.put (kI 10) (.held (rV ⟨#[86, 111]⟩)) := rfl
   rw [e17, Maps.has_put_other (kI_ne (by decide)), e16, Maps.has_put_other (kI_ne (by decide)), e15, Maps.has_put_other (kI_ne (by decide)), e14, Maps.has_put_other (kI_ne (by decide)), e13, Maps.has_put_other (kI_ne (by decide)), e12, Maps.has_put_same isM11 (kI_key _)]
   rfl
  ·have e17 : dI17 = dI16.put (kI 17) (.held (rV ⟨#[]⟩)) := rfl
   have e16 : dI16 = dI15.put (kI 16) (.held (rV ⟨#[]⟩)) := rfl
   have e15 : dI15 = dI14.put (kI 13) (.held (rV ⟨#[]⟩)) := rfl
   have e14 : dI14 = dI13.put (kI 12) (.held (rV ⟨#[86, 111, 119]⟩)) := rfl
   have e13 : dI13 = dI12.put (kI 11) (.held (rV ⟨#[112]⟩)) := rfl
   have e12 : dI12 = dI11.put (kI 10) (.held (rV ⟨#[86, 111]⟩)) := rfl
   rw [e17, Maps.atKey_put_other (kI_ne (by decide)), e16, Maps.atKey_put_other (kI_ne (by decide)), e15, Maps.atKey_put_other (kI_ne (by decide)), e14, Maps.atKey_put_other (kI_ne (by decide)), e13, Maps.atKey_put_other (kI_ne (by decide)), e12, Maps.atKey_put_same isM11 (kI_key _)]
   rfl
 by_cases h9 : k = 9
 ·subst h9
  constructor
  ·have e17 : dI17 = dI16.put (kI 17) (.held (rV ⟨#[]⟩)) := rfl
   have e16 : dI16 = dI15.put (kI 16) (.held (rV ⟨#[]⟩)) := rfl
   have e15 : dI15 = dI14.put (kI 13) (.held (rV ⟨#[]⟩)) := rfl
   have e14 : dI14 = dI13.put (kI 12) (.held (rV ⟨#[86, 111, 119]⟩)) := rfl
   have e13 : dI13 = dI12.put (kI 11) (.held (rV ⟨#[112]⟩)) := rfl
   have e12 : dI12 = dI11.put (kI 10) (.held (rV ⟨#[86, 111]⟩)) := rfl
   have e11 : dI11 = dI10.put (kI 9) (.held (rV ⟨#[66, 79, 65, 102, 100, 104]⟩)) := rfl
   rw [e17, Maps.has_put_other (kI_ne (by decide)), e16, Maps.has_put_other (kI_ne (by decide)), e15, Maps.has_put_other (kI_ne (by decide)), e14, Maps.has_put_other (kI_ne (by decide)), e13, Maps.has_put_other (kI_ne (by decide)), e12, Maps.has_put_other (kI_ne (by decide)), e11, Maps.has_put_same isM10 (kI_key _)]
   rfl
  ·have e17 : dI17 = dI16.put (kI 17) (.held (rV ⟨#[]⟩)) := rfl
   have e16 : dI16 = dI15.put (kI 16) (.held (rV ⟨#[]⟩)) := rfl
   have e15 : dI15 = dI14.put (kI 13) (.held (rV ⟨#[]⟩)) := rfl
   have e14 : dI14 = dI13.put (kI 12) (.held (rV ⟨#[86, 111, 119]⟩)) := rfl
   have e13 : dI13 = dI12.put (kI 11) (.held (rV ⟨#[112]⟩)) := rfl
   have e12 : dI12 = dI11.put (kI 10) (.held (rV ⟨#[86, 111]⟩)) := rfl
   have e11 : dI11 = dI10.put (kI 9) (.held (rV ⟨#[66, 79, 65, 102, 100, 104]⟩)) := rfl
   rw [e17, Maps.atKey_put_other (kI_ne (by decide)), e16, Maps.atKey_put_other (kI_ne (by decide)), e15, Maps.atKey_put_other (kI_ne (by decide)), e14, Maps.atKey_put_other (kI_ne (by decide)), e13, Maps.atKey_put_other (kI_ne (by decide)), e12, Maps.atKey_put_other (kI_ne (by decide)), e11, Maps.atKey_put_same isM10 (kI_key _)]
   rfl
 by_cases h8 : k = 8
 ·subst h8
  constructor
  ·have e17 : dI17 = dI16.put (kI 17) (.held (rV ⟨#[]⟩)) := rfl
   have e16 : dI16 = dI15.put (kI 16) (.held (rV ⟨#[]⟩)) := rfl
   have e15 : dI15 = dI14.put (kI 13) (.held (rV ⟨#[]⟩)) := rfl
   have e14 : dI14 = dI13.put (kI 12) (.held (rV ⟨#[86, 111, 119]⟩)) := rfl
   have e13 : dI13 = dI12.put (kI 11) (.held (rV ⟨#[112]⟩)) := rfl
   have e12 : dI12 = dI11.put (kI 10) (.held (rV ⟨#[86, 111]⟩)) := rfl
   have e11 : dI11 = dI10.put (kI 9) (.held (rV ⟨#[66, 79, 65, 102, 100, 104]⟩)) := rfl
   have e10 : dI10 = dI9.put (kI 8) (.held (rV ⟨#[66, 79]⟩)) := rfl
   rw [e17, Maps.has_put_other (kI_ne (by decide)), e16, Maps.has_put_other (kI_ne (by decide)), e15, Maps.has_put_other (kI_ne (by decide)), e14, Maps.has_put_other (kI_ne (by decide)), e13, Maps.has_put_other (kI_ne (by decide)), e12, Maps.has_put_other (kI_ne (by decide)), e11, Maps.has_put_other (kI_ne (by decide)), e10, Maps.has_put_same isM9 (kI_key _)]
   rfl
  ·have e17 : dI17 = dI16.put (kI 17) (.held (rV ⟨#[]⟩)) := rfl
   have e16 : dI16 = dI15.put (kI 16) (.held (rV ⟨#[]⟩)) := rfl
   have e15 : dI15 = dI14.put (kI 13) (.held (rV ⟨#[]⟩)) := rfl
   have e14 : dI14 = dI13.put (kI 12) (.held (rV ⟨#[86, 111, 119]⟩)) := rfl
   have e13 : dI13 = dI12.put (kI 11) (.held (rV ⟨#[112]⟩)) := rfl
   have e12 : dI12 = dI11.put (kI 10) (.held (rV ⟨#[86, 111]⟩)) := rfl
   have e11 : dI11 = dI10.put (kI 9) (.held (rV ⟨#[66, 79, 65, 102, 100, 104]⟩)) := rfl
   have e10 : dI10 = dI9.put (kI 8) (.held (rV ⟨#[66, 79]⟩)) := rfl
   rw [e17, Maps.atKey_put_other (kI_ne (by decide)), e16, Maps.atKey_put_other (kI_ne (by decide)), e15, Maps.atKey_put_other (kI_ne (by decide)), e14, Maps.atKey_put_other (kI_ne (by decide)), e13, Maps.atKey_put_other (kI_ne (by decide)), e12, Maps.atKey_put_other (kI_ne (by decide)), e11, Maps.atKey_put_other (kI_ne (by decide)), e10, Maps.atKey_put_same isM9 (kI_key _)]
   rfl
 by_cases h15 : k = 15
 ·subst h15
  constructor
  ·have e17 : dI17 = dI16.put (kI 17) (.held (rV ⟨#[]⟩)) := rfl
   have e16 : dI16 = dI15.put (kI 16) (.held (rV ⟨#[]⟩)) := rfl
   have e15 : dI15 = dI14.put (kI 13) (.held (rV ⟨#[]⟩)) := rfl
   have e14 : dI14 = dI13.put (kI 12) (.held (rV ⟨#[86, 111, 119]⟩)) := rfl
   have e13 : dI13 = dI12.put (kI 11) (.held (rV ⟨#[112]⟩)) := rfl
   have e12 : dI12 = dI11.put (kI 10) (.held (rV ⟨#[86, 111]⟩)) := rfl
   have e11 : dI11 = dI10.put (kI 9) (.held (rV ⟨#[66, 79, 65, 102, 100, 104]⟩)) := rfl
   have e10 : dI10 = dI9.put (kI 8) (.held (rV ⟨#[66, 79]⟩)) := rfl
   have e9 : dI9 = dI8.put (kI 15) (.held (rV ⟨#[118, 103]⟩)) := rfl
   rw [e17, Maps.has_put_other (kI_ne (by decide)), e16, Maps.has_put_other (kI_ne (by decide)), e15, Maps.has_put_other (kI_ne (by decide)), e14, Maps.has_put_other (kI_ne (by decide)), e13, Maps.has_put_other (kI_ne (by decide)), e12, Maps.has_put_other (kI_ne (by decide)), e11, Maps.has_put_other (kI_ne (by decide)), e10, Maps.has_put_other (kI_ne (by decide)), e9, Maps.has_put_same isM8 (kI_key _)]
   rfl
  ·have e17 : dI17 = dI16.put (kI 17) (.held (rV ⟨#[]⟩)) := rfl
   have e16 : dI16 = dI15.put (kI 16) (.held (rV ⟨#[]⟩)) := rfl
   have e15 : dI15 = dI14.put (kI 13) (.held (rV ⟨#[]⟩)) := rfl
   have e14 : dI14 = dI13.put (kI 12) (.held (rV ⟨#[86, 111, 119]⟩)) := rfl
   have e13 : dI13 = dI12.put (kI 11) (.held (rV ⟨#[112]⟩)) := rfl
   have e12 : dI12 = dI11.put (kI 10) (.held (rV ⟨#[86, 111]⟩)) := rfl
   have e11 : dI11 = dI10.put (kI 9) (.held (rV ⟨#[66, 79, 65, 102, 100, 104]⟩)) := rfl
   have e10 : dI10 = dI9.put (kI 8) (.held (rV ⟨#[66, 79]⟩)) := rfl
   have e9 : dI9 = dI8.put (kI 15) (.held (rV ⟨#[118, 103]⟩)) := rfl
   rw [e17, Maps.atKey_put_other (kI_ne (by decide)), e16, Maps.atKey_put_other (kI_ne (by decide)), e15, Maps.atKey_put_other (kI_ne (by decide)), e14, Maps.atKey_put_other (kI_ne (by decide)), e13, Maps.atKey_put_other (kI_ne (by decide)), e12, Maps.atKey_put_other (kI_ne (by decide)), e11, Maps.atKey_put_other (kI_ne (by decide)), e10, Maps.atKey_put_other (kI_ne (by decide)), e9, Maps.atKey_put_same isM8 (kI_key _)]
   rfl
 by_cases h7 : k = 7
 ·subst h7
  constructor
  ·have e17 : dI17 = dI16.put (kI 17) (.held (rV ⟨#[]⟩)) := rfl
   have e16 : dI16 = dI15.put (kI 16) (.held (rV ⟨#[]⟩)) := rfl
   have e15 : dI15 = dI14.put (kI 13) (.held (rV ⟨#[]⟩)) := rfl
   have e14 : dI14 = dI13.put (kI 12) (.held (rV ⟨#[86, 111, 119]⟩)) := rfl
   have e13 : dI13 = dI12.put (kI 11) (.held (rV ⟨#[112]⟩)) := rfl
   have e12 : dI12 = dI11.put (kI 10) (.held (rV ⟨#[86, 111]⟩)) := rfl
   have e11 : dI11 = dI10.put (kI 9) (.held (rV ⟨#[66, 79, 65, 102, 100, 104]⟩)) := rfl
   have e10 : dI10 = dI9.put (kI 8) (.held (rV ⟨#[66, 79]⟩)) := rfl
   have e9 : dI9 = dI8.put (kI 15) (.held (rV ⟨#[118, 103]⟩)) := rfl
   have e8 : dI8 = dI7.put (kI 7) (.held (rV ⟨#[118, 103]⟩)) := rfl
   rw [e17, Maps.has_put_other (kI_ne (by decide)), e16, Maps.has_put_other (kI_ne (by decide)), e15, Maps.has_put_other (kI_ne (by decide)), e14, Maps.has_put_other (kI_ne (by decide)), e13, Maps.has_put_other (kI_ne (by decide)), e12, Maps.has_put_other (kI_ne (by decide)), e11, Maps.has_put_other (kI_ne (by decide)), e10, Maps.has_put_other (kI_ne (by decide)), e9, Maps.has_put_other (kI_ne (by decide)), e8, Maps.has_put_same isM7 (kI_key _)]
   rfl
  ·have e17 : dI17 = dI16.put (kI 17) (.held (rV ⟨#[]⟩)) := rfl
   have e16 : dI16 = dI15.put (kI 16) (.held (rV ⟨#[]⟩)) := rfl
   have e15 : dI15 = dI14.put (kI 13) (.held (rV ⟨#[]⟩)) := rfl
   have e14 : dI14 = dI13.put (kI 12) (.held (rV ⟨#[86, 111, 119]⟩)) := rfl
   have e13 : dI13 = dI12.put (kI 11) (.held (rV ⟨#[112]⟩)) := rfl
   have e12 : dI12 = dI11.put (kI 10) (.held (rV ⟨#[86, 111]⟩)) := rfl
   have e11 : dI11 = dI10.put (kI 9) (.held (rV ⟨#[66, 79, 65, 102, 100, 104]⟩)) := rfl
   have e10 : dI10 = dI9.put (kI 8) (.held (rV ⟨#[66, 79]⟩)) := rfl
   have e9 : dI9 = dI8.put (kI 15) (.held (rV ⟨#[118, 103]⟩)) := rfl
   have e8 : dI8 = dI7.put (kI 7) (.held (rV ⟨#[118, 103]⟩)) := rfl
   rw [e17, Maps.atKey_put_other (kI_ne (by decide)), e16, Maps.atKey_put_other (kI_ne (by decide)), e15, Maps.atKey_put_other (kI_ne (by decide)), e14, Maps.atKey_put_other (kI_ne (by decide)), e13, Maps.atKey_put_other (kI_ne (by decide)), e12, Maps.atKey_put_other (kI_ne (by decide)), e11, Maps.atKey_put_other (kI_ne (by decide)), e10, Maps.atKey_put_other (kI_ne (by decide)), e9, Maps.atKey_put_other (kI_ne (by decide)), e8, Maps.atKey_put_same isM7 (kI_key _)]
   rfl
 by_cases h14 : k = 14
 ·subst h14
  constructor
  ·have e17 : dI17 = dI16.put (kI 17) (.held (rV ⟨#[]⟩)) := rfl
   have e16 : dI16 = dI15.put (kI 16) (.held (rV ⟨#[]⟩)) := rfl
   have e15 : dI15 = dI14.put (kI 13) (.held (rV ⟨#[]⟩)) := rfl
   have e14 : dI14 = dI13.put (kI 12) (.held (rV ⟨#[86, 111, 119]⟩)) := rfl
   have e13 : dI13 = dI12.put (kI 11) (.held (rV ⟨#[112]⟩)) := rfl
   have e12 : dI12 = dI11.put (kI 10) (.held (rV ⟨#[86, 111]⟩)) := rfl
   have e11 : dI11 = dI10.put (kI 9) (.held (rV ⟨#[66, 79, 65, 102, 100, 104]⟩)) := rfl
   have e10 : dI10 = dI9.put (kI 8) (.held (rV ⟨#[66, 79]⟩)) := rfl
   have e9 : dI9 = dI8.put (kI 15) (.held (rV ⟨#[118, 103]⟩)) := rfl
   have e8 : dI8 = dI7.put (kI 7) (.held (rV ⟨#[118, 103]⟩)) := rfl
   have e7 : dI7 = dI6.put (kI 14) (.held (rV ⟨#[98]⟩)) := rfl
   rw [e17, Maps.has_put_other (kI_ne (by decide)), e16, Maps.has_put_other (kI_ne (by decide)), e15, Maps.has_put_other (kI_ne (by decide)), e14, Maps.has_put_other (kI_ne (by decide)), e13, Maps.has_put_other (kI_ne (by decide)), e12, Maps.has_put_other (kI_ne (by decide)), e11, Maps.has_put_other (kI_ne (by decide)), e10, Maps.has_put_other (kI_ne (by decide)), e9, Maps.has_put_other (kI_ne (by decide)), e8, Maps.has_put_other (kI_ne (by decide)), e7, Maps.has_put_same isM6 (kI_key _)]
   rfl
  ·have e17 : dI17 = dI16.put (kI 17) (.held (rV ⟨#[]⟩)) := rfl
   have e16 : dI16 = dI15.put (kI 16) (.held (rV ⟨#[]⟩)) := rfl
   have e15 : dI15 = dI14.put (kI 13) (.held (rV ⟨#[]⟩)) := rfl
   have e14 : dI14 = dI13.put (kI 12) (.held (rV ⟨#[86, 111, 119]⟩)) := rfl
   have e13 : dI13 = dI12.put (kI 11) (.held (rV ⟨#[112]⟩)) := rfl
   have e12 : dI12 = dI11.put (kI 10) (.held (rV ⟨#[86, 111]⟩)) := rfl
   have e11 : dI11 = dI10.put (kI 9) (.held (rV ⟨#[66, 79, 65, 102, 100, 104]⟩)) := rfl
   have e10 : dI10 = dI9.put (kI 8) (.held (rV ⟨#[66, 79]⟩)) := rfl
   have e9 : dI9 = dI8.put (kI 15) (.held (rV ⟨#[118, 103]⟩)) := rfl
   have e8 : dI8 = dI7.put (kI 7) (.held (rV ⟨#[118, 103]⟩)) := rfl
   have e7 : dI7 = dI6.put (kI 14) (.held (rV ⟨#[98]⟩)) := rfl
   rw [e17, Maps.atKey_put_other (kI_ne (by decide)), e16, Maps.atKey_put_other (kI_ne (by decide)), e15, Maps.atKey_put_other (kI_ne (by decide)), e14, Maps.atKey_put_other (kI_ne (by decide)), e13, Maps.atKey_put_other (kI_ne (by decide)), e12, Maps.atKey_put_other (kI_ne (by decide)), e11, Maps.atKey_put_other (kI_ne (by decide)), e10, Maps.atKey_put_other (kI_ne (by decide)), e9, Maps.atKey_put_other (kI_ne (by decide)), e8, Maps.atKey_put_other (kI_ne (by decide)), e7, Maps.atKey_put_same isM6 (kI_key _)]
   rfl
 by_cases h6 : k = 6
 ·subst h6
  constructor
  ·have e17 : dI17 = dI16.put (kI 17) (.held (rV ⟨#[]⟩)) := rfl
   have e16 : dI16 = dI15.put (kI 16) (.held (rV ⟨#[]⟩)) := rfl
   have e15 : dI15 = dI14.put (kI 13) (.held (rV ⟨#[]⟩)) := rfl
   have e14 : dI14 = dI13.put (kI 12) (.held (rV ⟨#[86, 111, 119]⟩)) := rfl
   have e13 : dI13 = dI12.put (kI 11) (.held (rV ⟨#[112]⟩)) := rfl
   have e12 : dI12 = dI11.put (kI 10) (.held (rV ⟨#[86, 111]⟩)) := rfl
   have e11 : dI11 = dI10.put (kI 9) (.held (rV ⟨#[66, 79, 65, 102, 100, 104]⟩)) := rfl
   have e10 : dI10 = dI9.put (kI 8) (.held (rV ⟨#[66, 79]⟩)) := rfl
   have e9 : dI9 = dI8.put (kI 15) (.held (rV ⟨#[118, 103]⟩)) := rfl
   have e8 : dI8 = dI7.put (kI 7) (.held (rV ⟨#[118, 103]⟩)) := rfl
   have e7 : dI7 = dI6.put (kI 14) (.held (rV ⟨#[98]⟩)) := rfl
   have e6 : dI6 = dI5.put (kI 6) (.held (rV ⟨#[98]⟩)) := rfl
   rw [e17, Maps.has_put_other (kI_ne (by decide)), e16, Maps.has_put_other (kI_ne (by decide)), e15, Maps.has_put_other (kI_ne (by decide)), e14, Maps.has_put_other (kI_ne (by decide)), e13, Maps.has_put_other (kI_ne (by decide)), e12, Maps.has_put_other (kI_ne (by decide)), e11, Maps.has_put_other (kI_ne (by decide)), e10, Maps.has_put_other (kI_ne (by decide)), e9, Maps.has_put_other (kI_ne (by decide)), e8, Maps.has_put_other (kI_ne (by decide)), e7, Maps.has_put_other (kI_ne (by decide)), e6, Maps.has_put_same isM5 (kI_key _)]
   rfl
  ·have e17 : dI17 = dI16.put (kI 17) (.held (rV ⟨#[]⟩)) := rfl
   have e16 : dI16 = dI15.put (kI 16) (.held (rV ⟨#[]⟩)) := rfl
   have e15 : dI15 = dI14.put (kI 13) (.held (rV ⟨#[]⟩)) := rfl
   have e14 : dI14 = dI13.put (kI 12) (.held (rV ⟨#[86, 111, 119]⟩)) := rfl
   have e13 : dI13 = dI12.put (kI 11) (.held (rV ⟨#[112]⟩)) := rfl
   have e12 : dI12 = dI11.put (kI 10) (.held (rV ⟨#[86, 111]⟩)) := rfl
   have e11 : dI11 = dI10.put (kI 9) (.held (rV ⟨#[66, 79, 65, 102, 100, 104]⟩)) := rfl
   have e10 : dI10 = dI9.put (kI 8) (.held (rV ⟨#[66, 79]⟩)) := rfl
   have e9 : dI9 = dI8.put (kI 15) (.held (rV ⟨#[118, 103]⟩)) := rfl
   have e8 : dI8 = dI7.put (kI 7) (.held (rV ⟨#[118, 103]⟩)) := rfl
   have e7 : dI7 = dI6.put (kI 14) (.held (rV ⟨#[98]⟩)) := rfl
   have e6 : dI6 = dI5.put (kI 6) (.held (rV ⟨#[98]⟩)) := rfl
   rw [e17, Maps.atKey_put_other (kI_ne (by decide)), e16, Maps.atKey_put_other (kI_ne (by decide)), e15, Maps.atKey_put_other (kI_ne (by decide)), e14, Maps.atKey_put_other (kI_ne (by decide)), e13, Maps.atKey_put_other (kI_ne (by decide)), e12, Maps.atKey_put_other (kI_ne (by decide)), e11, Maps.atKey_put_other (kI_ne (by decide)), e10, Maps.atKey_put_other (kI_ne (by decide)), e9, Maps.atKey_put_other (kI_ne (by decide)), e8, Maps.atKey_put_other (kI_ne (by decide)), e7, Maps.atKey_put_other (kI_ne (by decide)), e6, Maps.atKey_put_same isM5 (kI_key _)]
   rfl
 by_cases h5 : k = 5
 ·subst h5
  constructor
  ·have e17 : dI17 = dI16.put (kI 17) (.held (rV ⟨#[]⟩)) := rfl
   have e16 : dI16 = dI15.put (kI 16) (.held (rV ⟨#[]⟩)) := rfl
   have e15 : dI15 = dI14.put (kI 13) (.held (rV ⟨#[]⟩)) := rfl
   have e14 : dI14 = dI13.put (kI 12) (.held (rV ⟨#[86, 111, 119]⟩)) := rfl
   have e13 : dI13 = dI12.put (kI 11) (.held (rV ⟨#[112]⟩)) := rfl
   have e12 : dI12 = dI11.put (kI 10) (.held (rV ⟨#[86, 111]⟩)) := rfl
   have e11 : dI11 = dI10.put (kI 9) (.held (rV ⟨#[66, 79, 65, 102, 100, 104]⟩)) := rfl
   have e10 : dI10 = dI9.put (kI 8) (.held (rV ⟨#[66, 79]⟩)) := rfl
   have e9 : dI9 = dI8.put (kI 15) (.held (rV ⟨#[118, 103]⟩)) := rfl
   have e8 : dI8 = dI7.put (kI 7) (.held (rV ⟨#[118, 103]⟩)) := rfl
   have e7 : dI7 = dI6.put (kI 14) (.held (rV ⟨#[98]⟩)) := rfl
   have e6 : dI6 = dI5.put (kI 6) (.held (rV ⟨#[98]⟩)) := rfl
   have e5 : dI5 = dI4.put (kI 5) (.held (rV ⟨#[98, 118, 103]⟩)) := rfl
   rw [e17, Maps.has_put_other (kI_ne (by decide)), e16, Maps.has_put_other (kI_ne (by decide)), e15, Maps.has_put_other (kI_ne (by decide)), e14, Maps.has_put_other (kI_ne (by decide)), e13, Maps.has_put_other (kI_ne (by decide)), e12, Maps.has_put_other (kI_ne (by decide)), e11, Maps.has_put_other (kI_ne (by decide)), e10, Maps.has_put_other (kI_ne (by decide)), e9, Maps.has_put_other (kI_ne (by decide)), e8, Maps.has_put_other (kI_ne (by decide)), e7, Maps.has_put_other (kI_ne (by decide)), e6, Maps.has_put_other (kI_ne (by decide)), e5, Maps.has_put_same isM4 (kI_key _)]
   rfl
  ·have e17 : dI17 = dI16.put (kI 17) (.held (rV ⟨#[]⟩)) := rfl
   have e16 : dI16 = dI15.put (kI 16) (.held (rV ⟨#[]⟩)) := rfl
   have e15 : dI15 = dI14.put (kI 13) (.held (rV ⟨#[]⟩)) := rfl
   have e14 : dI14 = dI13.put (kI 12) (.held (rV ⟨#[86, 111, 119]⟩)) := rfl
   have e13 : dI13 = dI12.put (kI 11) (.held (rV ⟨#[112]⟩)) := rfl
   have e12 : dI12 = dI11.put (kI 10) (.held (rV ⟨#[86, 111]⟩)) := rfl
   have e11 : dI11 = dI10.put (kI 9) (.held (rV ⟨#[66, 79, 65, 102, 100, 104]⟩)) := rfl
   have e10 : dI10 = dI9.put (kI 8) (.held (rV ⟨#[66, 79]⟩)) := rfl
   have e9 : dI9 = dI8.put (kI 15) (.held (rV ⟨#[118, 103]⟩)) := rfl
   have e8 : dI8 = dI7.put (kI 7) (.held (rV ⟨#[118, 103]⟩)) := rfl
   have e7 : dI7 = dI6.put (kI 14) (.held (rV ⟨#[98]⟩)) := rfl
   have e6 : dI6 = dI5.put (kI 6) (.held (rV ⟨#[98]⟩)) := rfl
   have e5 : dI5 = dI4.put (kI 5) (.held (rV ⟨#[98, 118, 103]⟩)) := rfl
   rw [e17, Maps.atKey_put_other (kI_ne (by decide)), e16, Maps.atKey_put_other (kI_ne (by decide)), e15, Maps.atKey_put_other (kI_ne (by decide)), e14, Maps.atKey_put_other (kI_ne (by decide)), e13, Maps.atKey_put_other (kI_ne (by decide)), e12, Maps.atKey_put_other (kI_ne (by decide)), e11, Maps.atKey_put_other (kI_ne (by decide)), e10, Maps.atKey_put_other (kI_ne (by decide)), e9, Maps.atKey_put_other (kI_ne (by decide)), e8, Maps.atKey_put_other (kI_ne (by decide)), e7, Maps.atKey_put_other (kI_ne (by decide)), e6, Maps.atKey_put_other (kI_ne (by decide)), e5, Maps.atKey_put_same isM4 (kI_key _)]
   rfl
 by_cases h4 : k = 4
 ·subst h4
  constructor
  ·have e17 : dI17 = dI16.put (kI 17) (.held (rV ⟨#[]⟩)) := rfl
   have e16 : dI16 = dI15.put (kI 16) (.held (rV ⟨#[]⟩)) := rfl
   have e15 : dI15 = dI14.put (kI 13) (.held (rV ⟨#[]⟩)) := rfl
   have e14 : dI14 = dI13.put (kI 12) (.held (rV ⟨#[86, 111, 119]⟩)) := rfl
   have e13 : dI13 = dI12.put (kI 11) (.held (rV ⟨#[112]⟩)) := rfl
   have e12 : dI12 = dI11.put (kI 10) (.held (rV ⟨#[86, 111]⟩)) := rfl
   have e11 : dI11 = dI10.put (kI 9) (.held (rV ⟨#[66, 79, 65, 102, 100, 104]⟩)) := rfl
   have e10 : dI10 = dI9.put (kI 8) (.held (rV ⟨#[66, 79]⟩)) := rfl
   have e9 : dI9 = dI8.put (kI 15) (.held (rV ⟨#[118, 103]⟩)) := rfl
   have e8 : dI8 = dI7.put (kI 7) (.held (rV ⟨#[118, 103]⟩)) := rfl
   have e7 : dI7 = dI6.put (kI 14) (.held (rV ⟨#[98]⟩)) := rfl
   have e6 : dI6 = dI5.put (kI 6) (.held (rV ⟨#[98]⟩)) := rfl
   have e5 : dI5 = dI4.put (kI 5) (.held (rV ⟨#[98, 118, 103]⟩)) := rfl
   have e4 : dI4 = dI3.put (kI 4) (.held (rV ⟨#[98, 100]⟩)) := rfl
   rw [e17, Maps.has_put_other (kI_ne (by decide)), e16, Maps.has_put_other (kI_ne (by decide)), e15, Maps.has_put_other (kI_ne (by decide)), e14, Maps.has_put_other (kI_ne (by decide)), e13, Maps.has_put_other (kI_ne (by decide)), e12, Maps.has_put_other (kI_ne (by decide)), e11, Maps.has_put_other (kI_ne (by decide)), e10, Maps.has_put_other (kI_ne (by decide)), e9, Maps.has_put_other (kI_ne (by decide)), e8, Maps.has_put_other (kI_ne (by decide)), e7, Maps.has_put_other (kI_ne (by decide)), e6, Maps.has_put_other (kI_ne (by decide)), e5, Maps.has_put_other (kI_ne (by decide)), e4, Maps.has_put_same isM3 (kI_key _)]
   rfl
  ·have e17 : dI17 = dI16.put (kI 17) (.held (rV ⟨#[]⟩)) := rfl
   have e16 : dI16 = dI15.put (kI 16) (.held (rV ⟨#[]⟩)) := rfl
   have e15 : dI15 = dI14.put (kI 13) (.held (rV ⟨#[]⟩)) := rfl
   have e14 : dI14 = dI13.put (kI 12) (.held (rV ⟨#[86, 111, 119]⟩)) := rfl
   have e13 : dI13 = dI12.put (kI 11) (.held (rV ⟨#[112]⟩)) := rfl
   have e12 : dI12 = dI11.put (kI 10) (.held (rV ⟨#[86, 111]⟩)) := rfl
   have e11 : dI11 = dI10.put (kI 9) (.held (rV ⟨#[66, 79, 65, 102, 100, 104]⟩)) := rfl
   have e10 : dI10 = dI9.put (kI 8) (.held (rV ⟨#[66, 79]⟩)) := rfl
   have e9 : dI9 = dI8.put (kI 15) (.held (rV ⟨#[118, 103]⟩)) := rfl
   have e8 : dI8 = dI7.put (kI 7) (.held (rV ⟨#[118, 103]⟩)) := rfl
   have e7 : dI7 = dI6.put (kI 14) (.held (rV ⟨#[98]⟩)) := rfl
   have e6 : dI6 = dI5.put (kI 6) (.held (rV ⟨#[98]⟩)) := rfl
   have e5 : dI5 = dI4.put (kI 5) (.held (rV ⟨#[98, 118, 103]⟩)) := rfl
   have e4 : dI4 = dI3.put (kI 4) (.held (rV ⟨#[98, 100]⟩)) := rfl
   rw [e17, Maps.atKey_put_other (kI_ne (by decide)), e16, Maps.atKey_put_other (kI_ne (by decide)), e15, Maps.atKey_put_other (kI_ne (by decide)), e14, Maps.atKey_put_other (kI_ne (by decide)), e13, Maps.atKey_put_other (kI_ne (by decide)), e12, Maps.atKey_put_other (kI_ne (by decide)), e11, Maps.atKey_put_other (kI_ne (by decide)), e10, Maps.atKey_put_other (kI_ne (by decide)), e9, Maps.atKey_put_other (kI_ne (by decide)), e8, Maps.atKey_put_other (kI_ne (by decide)), e7, Maps.atKey_put_other (kI_ne (by decide)), e6, Maps.atKey_put_other (kI_ne (by decide)), e5, Maps.atKey_put_other (kI_ne (by decide)), e4, Maps.atKey_put_same isM3 (kI_key _)]
   rfl
 by_cases h3 : k = 3
 ·subst h3
  constructor
  ·have e17 : dI17 = dI16.put (kI 17) (.held (rV ⟨#[]⟩)) := rfl
   have e16 : dI16 = dI15.put (kI 16) (.held (rV ⟨#[]⟩)) := rfl
   have e15 : dI15 = dI14.put (kI 13) (.held (rV ⟨#[]⟩)) := rfl
   have e14 : dI14 = dI13.put (kI 12) (.held (rV ⟨#[86, 111, 119]⟩)) := rfl
   have e13 : dI13 = dI12.put (kI 11) (.held (rV ⟨#[112]⟩)) := rfl
   have e12 : dI12 = dI11.put (kI 10) (.held (rV ⟨#[86, 111]⟩)) := rfl
   have e11 : dI11 = dI10.put (kI 9) (.held (rV ⟨#[66, 79, 65, 102, 100, 104]⟩)) := rfl
   have e10 : dI10 = dI9.put (kI 8) (.held (rV ⟨#[66, 79]⟩)) := rfl
   have e9 : dI9 = dI8.put (kI 15) (.held (rV ⟨#[118, 103]⟩)) := rfl
   have e8 : dI8 = dI7.put (kI 7) (.held (rV ⟨#[118, 103]⟩)) := rfl
   have e7 : dI7 = dI6.put (kI 14) (.held (rV ⟨#[98]⟩)) := rfl
   have e6 : dI6 = dI5.put (kI 6) (.held (rV ⟨#[98]⟩)) := rfl
   have e5 : dI5 = dI4.put (kI 5) (.held (rV ⟨#[98, 118, 103]⟩)) := rfl
   have e4 : dI4 = dI3.put (kI 4) (.held (rV ⟨#[98, 100]⟩)) := rfl
   have e3 : dI3 = dI2.put (kI 3) (.held (rV ⟨#[98, 97, 111]⟩)) := rfl
   rw [e17, Maps.has_put_other (kI_ne (by decide)), e16, Maps.has_put_other (kI_ne (by decide)), e15, Maps.has_put_other (kI_ne (by decide)), e14, Maps.has_put_other (kI_ne (by decide)), e13, Maps.has_put_other (kI_ne (by decide)), e12, Maps.has_put_other (kI_ne (by decide)), e11, Maps.has_put_other (kI_ne (by decide)), e10, Maps.has_put_other (kI_ne (by decide)), e9, Maps.has_put_other (kI_ne (by decide)), e8, Maps.has_put_other (kI_ne (by decide)), e7, Maps.has_put_other (kI_ne (by decide)), e6, Maps.has_put_other (kI_ne (by decide)), e5, Maps.has_put_other (kI_ne (by decide)), e4, Maps.has_put_other (kI_ne (by decide)), e3, Maps.has_put_same isM2 (kI_key _)]
   rfl
  ·have e17 : dI17 = dI16.put (kI 17) (.held (rV ⟨#[]⟩)) := rfl
   have e16 : dI16 = dI15.put (kI 16) (.held (rV ⟨#[]⟩)) := rfl
   have e15 : dI15 = dI14.put (kI 13) (.held (rV ⟨#[]⟩)) := rfl
   have e14 : dI14 = dI13.put (kI 12) (.held (rV ⟨#[86, 111, 119]⟩)) := rfl
   have e13 : dI13 = dI12.put (kI 11) (.held (rV ⟨#[112]⟩)) := rfl
   have e12 : dI12 = dI11.put (kI 10) (.held (rV ⟨#[86, 111]⟩)) := rfl
   have e11 : dI11 = dI10.put (kI 9) (.held (rV ⟨#[66, 79, 65, 102, 100, 104]⟩)) := rfl
   have e10 : dI10 = dI9.put (kI 8) (.held (rV ⟨#[66, 79]⟩)) := rfl
   have e9 : dI9 = dI8.put (kI 15) (.held (rV ⟨#[118, 103]⟩)) := rfl
   have e8 : dI8 = dI7.put (kI 7) (.held (rV ⟨#[118, 103]⟩)) := rfl
   have e7 : dI7 = dI6.put (kI 14) (.held (rV ⟨#[98]⟩)) := rfl
   have e6 : dI6 = dI5.put (kI 6) (.held (rV ⟨#[98]⟩)) := rfl
   have e5 : dI5 = dI4.put (kI 5) (.held (rV ⟨#[98, 118, 103]⟩)) := rfl
   have e4 : dI4 = dI3.put (kI 4) (.held (rV ⟨#[98, 100]⟩)) := rfl
   have e3 : dI3 = dI2.put (kI 3) (.held (rV ⟨#[98, 97, 111]⟩)) := rfl
   rw [e17, Maps.atKey_put_other (kI_ne (by decide)), e16, Maps.atKey_put_other (kI_ne (by decide)), e15, Maps.atKey_put_other (kI_ne (by decide)), e14, Maps.atKey_put_other (kI_ne (by decide)), e13, Maps.atKey_put_other (kI_ne (by decide)), e12, Maps.atKey_put_other (kI_ne (by decide)), e11, Maps.atKey_put_other (kI_ne (by decide)), e10, Maps.atKey_put_other (kI_ne (by decide)), e9, Maps.atKey_put_other (kI_ne (by decide)), e8, Maps.atKey_put_other (kI_ne (by decide)), e7, Maps.atKey_put_other (kI_ne (by decide)), e6, Maps.atKey_put_other (kI_ne (by decide)), e5, Maps.atKey_put_other (kI_ne (by decide)), e4, Maps.atKey_put_other (kI_ne (by decide)), e3, Maps.atKey_put_same isM2 (kI_key _)]
   rfl
 by_cases h2 : k = 2
 ·subst h2
  constructor
  ·have e17 : dI17 = dI16.put (kI 17) (.held (rV ⟨#[]⟩)) := rfl
   have e16 : dI16 = dI15.put (kI 16) (.held (rV ⟨#[]⟩)) := rfl
   have e15 : dI15 = dI14.put (kI 13) (.held (rV ⟨#[]⟩)) := rfl
   have e14 : dI14 = dI13.put (kI 12) (.held (rV ⟨#[86, 111, 119]⟩)) := rfl
   have e13 : dI13 = dI12.put (kI 11) (.held (rV ⟨#[112]⟩)) := rfl
   have e12 : dI12 = dI11.put (kI 10) (.held (rV ⟨#[86, 111]⟩)) := rfl
   have e11 : dI11 = dI10.put (kI 9) (.held (rV ⟨#[66, 79, 65, 102, 100, 104]⟩)) := rfl
   have e10 : dI10 = dI9.put (kI 8) (.held (rV ⟨#[66, 79]⟩)) := rfl
   have e9 : dI9 = dI8.put (kI 15) (.held (rV ⟨#[118, 103]⟩)) := rfl
   have e8 : dI8 = dI7.put (kI 7) (.held (rV ⟨#[118, 103]⟩)) := rfl
   have e7 : dI7 = dI6.put (kI 14) (.held (rV ⟨#[98]⟩)) := rfl
   have e6 : dI6 = dI5.put (kI 6) (.held (rV ⟨#[98]⟩)) := rfl
   have e5 : dI5 = dI4.put (kI 5) (.held (rV ⟨#[98, 118, 103]⟩)) := rfl
   have e4 : dI4 = dI3.put (kI 4) (.held (rV ⟨#[98, 100]⟩)) := rfl
   have e3 : dI3 = dI2.put (kI 3) (.held (rV ⟨#[98, 97, 111]⟩)) := rfl
   have e2 : dI2 = dI1.put (kI 2) (.held (rV ⟨#[97, 102, 100]⟩)) := rfl
   rw [e17, Maps.has_put_other (kI_ne (by decide)), e16, Maps.has_put_other (kI_ne (by decide)), e15, Maps.has_put_other (kI_ne (by decide)), e14, Maps.has_put_other (kI_ne (by decide)), e13, Maps.has_put_other (kI_ne (by decide)), e12, Maps.has_put_other (kI_ne (by decide)), e11, Maps.has_put_other (kI_ne (by decide)), e10, Maps.has_put_other (kI_ne (by decide)), e9, Maps.has_put_other (kI_ne (by decide)), e8, Maps.has_put_other (kI_ne (by decide)), e7, Maps.has_put_other (kI_ne (by decide)), e6, Maps.has_put_other (kI_ne (by decide)), e5, Maps.has_put_other (kI_ne (by decide)), e4, Maps.has_put_other (kI_ne (by decide)), e3, Maps.has_put_other (kI_ne (by decide)), e2, Maps.has_put_same isM1 (kI_key _)]
   rfl
  ·have e17 : dI17 = dI16.put (kI 17) (.held (rV ⟨#[]⟩)) := rfl
   have e16 : dI16 = dI15.put (kI 16) (.held (rV ⟨#[]⟩)) := rfl
   have e15 : dI15 = dI14.put (kI 13) (.held (rV ⟨#[]⟩)) := rfl
   have e14 : dI14 = dI13.put (kI 12) (.held (rV ⟨#[86, 111, 119]⟩)) := rfl
   have e13 : dI13 = dI12.put (kI 11) (.held (rV ⟨#[112]⟩)) := rfl
   have e12 : dI12 = dI11.put (kI 10) (.held (rV ⟨#[86, 111]⟩)) := rfl
   have e11 : dI11 = dI10.put (kI 9) (.held (rV ⟨#[66, 79, 65, 102, 100, 104]⟩)) := rfl
   have e10 : dI10 = dI9.put (kI 8) (.held (rV ⟨#[66, 79]⟩)) := rfl
   have e9 : dI9 = dI8.put (kI 15) (.held (rV ⟨#[118, 103]⟩)) := rfl
   have e8 : dI8 = dI7.put (kI 7) (.held (rV ⟨#[118, 103]⟩)) := rfl
   have e7 : dI7 = dI6.put (kI 14) (.held (rV ⟨#[98]⟩)) := rfl
   have e6 : dI6 = dI5.put (kI 6) (.held (rV ⟨#[98]⟩)) := rfl
   have e5 : dI5 = dI4.put (kI 5) (.held (rV ⟨#[98, 118, 103]⟩)) := rfl
   have e4 : dI4 = dI3.put (kI 4) (.held (rV ⟨#[98, 100]⟩)) := rfl
   have e3 : dI3 = dI2.put (kI 3) (.held (rV ⟨#[98, 97, 111]⟩)) := rfl
   have e2 : dI2 = dI1.put (kI 2) (.held (rV ⟨#[97, 102, 100]⟩)) := rfl
   rw [e17, Maps.atKey_put_other (kI_ne (by decide)), e16, Maps.atKey_put_other (kI_ne (by decide)), e15, Maps.atKey_put_other (kI_ne (by decide)), e14, Maps.atKey_put_other (kI_ne (by decide)), e13, Maps.atKey_put_other (kI_ne (by decide)), e12, Maps.atKey_put_other (kI_ne (by decide)), e11, Maps.atKey_put_other (kI_ne (by decide)), e10, Maps.atKey_put_other (kI_ne (by decide)), e9, Maps.atKey_put_other (kI_ne (by decide)), e8, Maps.atKey_put_other (kI_ne (by decide)), e7, Maps.atKey_put_other (kI_ne (by decide)), e6, Maps.atKey_put_other (kI_ne (by decide)), e5, Maps.atKey_put_other (kI_ne (by decide)), e4, Maps.atKey_put_other (kI_ne (by decide)), e3, Maps.atKey_put_other (kI_ne (by decide)), e2, Maps.atKey_put_same isM1 (kI_key _)]
   rfl
 by_cases h1 : k = 1
 ·subst h1
  constructor
  ·have e17 : dI17 = dI16.put (kI 17) (.held (rV ⟨#[]⟩)) := rfl
   have e16 : dI16 = dI15.put (kI 16) (.held (rV ⟨#[]⟩)) := rfl
   have e15 : dI15 = dI14.put (kI 13) (.held (rV ⟨#[]⟩)) := rfl
   have e14 : dI14 = dI13.put (kI 12) (.held (rV ⟨#[86, 111, 119]⟩)) := rfl
   have e13 : dI13 = dI12.put (kI 11) (.held (rV ⟨#[112]⟩)) := rfl
   have e12 : dI12 = dI11.put (kI 10) (.held (rV ⟨#[86, 111]⟩)) := rfl
   have e11 : dI11 = dI10.put (kI 9) (.held (rV ⟨#[66, 79, 65, 102, 100, 104]⟩)) := rfl
   have e10 : dI10 = dI9.put (kI 8) (.held (rV ⟨#[66, 79]⟩)) := rfl
   have e9 : dI9 = dI8.put (kI 15) (.held (rV ⟨#[118, 103]⟩)) := rfl
   have e8 : dI8 = dI7.put (kI 7) (.held (rV ⟨#[118, 103]⟩)) := rfl
   have e7 : dI7 = dI6.put (kI 14) (.held (rV ⟨#[98]⟩)) := rfl
   have e6 : dI6 = dI5.put (kI 6) (.held (rV ⟨#[98]⟩)) := rfl
   have e5 : dI5 = dI4.put (kI 5) (.held (rV ⟨#[98, 118, 103]⟩)) := rfl
   have e4 : dI4 = dI3.put (kI 4) (.held (rV ⟨#[98, 100]⟩)) := rfl
   have e3 : dI3 = dI2.put (kI 3) (.held (rV ⟨#[98, 97, 111]⟩)) := rfl
   have e2 : dI2 = dI1.put (kI 2) (.held (rV ⟨#[97, 102, 100]⟩)) := rfl
   have e1 : dI1 = dI0.put (kI 1) (.held (rV ⟨#[111]⟩)) := rfl
   rw [e17, Maps.has_put_other (kI_ne (by decide)), e16, Maps.has_put_other (kI_ne (by decide)), e15, Maps.has_put_other (kI_ne (by decide)), e14, Maps.has_put_other (kI_ne (by decide)), e13, Maps.has_put_other (kI_ne (by decide)), e12, Maps.has_put_other (kI_ne (by decide)), e11, Maps.has_put_other (kI_ne (by decide)), e10, Maps.has_put_other (kI_ne (by decide)), e9, Maps.has_put_other (kI_ne (by decide)), e8, Maps.has_put_other (kI_ne (by decide)), e7, Maps.has_put_other (kI_ne (by decide)), e6, Maps.has_put_other (kI_ne (by decide)), e5, Maps.has_put_other (kI_ne (by decide)), e4, Maps.has_put_other (kI_ne (by decide)), e3, Maps.has_put_other (kI_ne (by decide)), e2, Maps.has_put_other (kI_ne (by decide)), e1, Maps.has_put_same isM0 (kI_key _)]
   rfl
  ·have e17 : dI17 = dI16.put (kI 17) (.held (rV ⟨#[]⟩)) := rfl
   have e16 : dI16 = dI15.put (kI 16) (.held (rV ⟨#[]⟩)) := rfl
   have e15 : dI15 = dI14.put (kI 13) (.held (rV ⟨#[]⟩)) := rfl
   have e14 : dI14 = dI13.put (kI 12) (.held (rV ⟨#[86, 111, 119]⟩)) := rfl
   have e13 : dI13 = dI12.put (kI 11) (.held (rV ⟨#[112]⟩)) := rfl
   have e12 : dI12 = dI11.put (kI 10) (.held (rV ⟨#[86, 111]⟩)) := rfl
   have e11 : dI11 = dI10.put (kI 9) (.held (rV ⟨#[66, 79, 65, 102, 100, 104]⟩)) := rfl
   have e10 : dI10 = dI9.put (kI 8) (.held (rV ⟨#[66, 79]⟩)) := rfl
   have e9 : dI9 = dI8.put (kI 15) (.held (rV ⟨#[118, 103]⟩)) := rfl
   have e8 : dI8 = dI7.put (kI 7) (.held (rV ⟨#[118, 103]⟩)) := rfl
   have e7 : dI7 = dI6.put (kI 14) (.held (rV ⟨#[98]⟩)) := rfl
   have e6 : dI6 = dI5.put (kI 6) (.held (rV ⟨#[98]⟩)) := rfl
   have e5 : dI5 = dI4.put (kI 5) (.held (rV ⟨#[98, 118, 103]⟩)) := rfl
   have e4 : dI4 = dI3.put (kI 4) (.held (rV ⟨#[98, 100]⟩)) := rfl
   have e3 : dI3 = dI2.put (kI 3) (.held (rV ⟨#[98, 97, 111]⟩)) := rfl
   have e2 : dI2 = dI1.put (kI 2) (.held (rV ⟨#[97, 102, 100]⟩)) := rfl
   have e1 : dI1 = dI0.put (kI 1) (.held (rV ⟨#[111]⟩)) := rfl
   rw [e17, Maps.atKey_put_other (kI_ne (by decide)), e16, Maps.atKey_put_other (kI_ne (by decide)), e15, Maps.atKey_put_other (kI_ne (by decide)), e14, Maps.atKey_put_other (kI_ne (by decide)), e13, Maps.atKey_put_other (kI_ne (by decide)), e12, Maps.atKey_put_other (kI_ne (by decide)), e11, Maps.atKey_put_other (kI_ne (by decide)), e10, Maps.atKey_put_other (kI_ne (by decide)), e9, Maps.atKey_put_other (kI_ne (by decide)), e8, Maps.atKey_put_other (kI_ne (by decide)), e7, Maps.atKey_put_other (kI_ne (by decide)), e6, Maps.atKey_put_other (kI_ne (by decide)), e5, Maps.atKey_put_other (kI_ne (by decide)), e4, Maps.atKey_put_other (kI_ne (by decide)), e3, Maps.atKey_put_other (kI_ne (by decide)), e2, Maps.atKey_put_other (kI_ne (by decide)), e1, Maps.atKey_put_same isM0 (kI_key _)]
   rfl
 have e17 : dI17 = dI16.put (kI 17) (.held (rV ⟨#[]⟩)) := rfl
 have e16 : dI16 = dI15.put (kI 16) (.held (rV ⟨#[]⟩)) := rfl
 have e15 : dI15 = dI14.put (kI 13) (.held (rV ⟨#[]⟩)) := rfl
 have e14 : dI14 = dI13.put (kI 12) (.held (rV ⟨#[86, 111, 119]⟩)) := rfl
 have e13 : dI13 = dI12.put (kI 11) (.held (rV ⟨#[112]⟩)) := rfl
 have e12 : dI12 = dI11.put (kI 10) (.held (rV ⟨#[86, 111]⟩)) := rfl
 have e11 : dI11 = dI10.put (kI 9) (.held (rV ⟨#[66, 79, 65, 102, 100, 104]⟩)) := rfl
 have e10 : dI10 = dI9.put (kI 8) (.held (rV ⟨#[66, 79]⟩)) := rfl
 have e9 : dI9 = dI8.put (kI 15) (.held (rV ⟨#[118, 103]⟩)) := rfl
 have e8 : dI8 = dI7.put (kI 7) (.held (rV ⟨#[118, 103]⟩)) := rfl
 have e7 : dI7 = dI6.put (kI 14) (.held (rV ⟨#[98]⟩)) := rfl
 have e6 : dI6 = dI5.put (kI 6) (.held (rV ⟨#[98]⟩)) := rfl
 have e5 : dI5 = dI4.put (kI 5) (.held (rV ⟨#[98, 118, 103]⟩)) := rfl
 have e4 : dI4 = dI3.put (kI 4) (.held (rV ⟨#[98, 100]⟩)) := rfl
 have e3 : dI3 = dI2.put (kI 3) (.held (rV ⟨#[98, 97, 111]⟩)) := rfl
 have e2 : dI2 = dI1.put (kI 2) (.held (rV ⟨#[97, 102, 100]⟩)) := rfl
 have e1 : dI1 = dI0.put (kI 1) (.held (rV ⟨#[111]⟩)) := rfl
 have r1 : rowOf k = none := by
  unfold rowOf
  rw [if_neg h1, if_neg h2, if_neg h3, if_neg h4, if_neg h5, if_neg h6, if_neg h14, if_neg h7, if_neg h15, if_neg h8, if_neg h9, if_neg h10, if_neg h11, if_neg h12, if_neg h13, if_neg h16, if_neg h17]
 have r2 : strOf k = ⟨#[]⟩ := by
  unfold strOf
  rw [if_neg h1, if_neg h2, if_neg h3, if_neg h4, if_neg h5, if_neg h6, if_neg h14, if_neg h7, if_neg h15, if_neg h8, if_neg h9, if_neg h10, if_neg h11, if_neg h12, if_neg h13, if_neg h16, if_neg h17]
 constructor
 ·rw [r1, e17, Maps.has_put_other (kI_ne h17), e16, Maps.has_put_other (kI_ne h16), e15, Maps.has_put_other (kI_ne h13), e14, Maps.has_put_other (kI_ne h12), e13, Maps.has_put_other (kI_ne h11), e12, Maps.has_put_other (kI_ne h10), e11, Maps.has_put_other (kI_ne h9), e10, Maps.has_put_other (kI_ne h8), e9, Maps.has_put_other (kI_ne h15), e8, Maps.has_put_other (kI_ne h7), e7, Maps.has_put_other (kI_ne h14), e6, Maps.has_put_other (kI_ne h6), e5, Maps.has_put_other (kI_ne h5), e4, Maps.has_put_other (kI_ne h4), e3, Maps.has_put_other (kI_ne h3), e2, Maps.has_put_other (kI_ne h2), e1, Maps.has_put_other (kI_ne h1)]
  rfl
 ·rw [r2, e17, Maps.atKey_put_other (kI_ne h17), e16, Maps.atKey_put_other (kI_ne h16), e15, Maps.atKey_put_other (kI_ne h13), e14, Maps.atKey_put_other (kI_ne h12), e13, Maps.atKey_put_other (kI_ne h11), e12, Maps.atKey_put_other (kI_ne h10), e11, Maps.atKey_put_other (kI_ne h9), e10, Maps.atKey_put_other (kI_ne h8), e9, Maps.atKey_put_other (kI_ne h15), e8, Maps.atKey_put_other (kI_ne h7), e7, Maps.atKey_put_other (kI_ne h14), e6, Maps.atKey_put_other (kI_ne h6), e5, Maps.atKey_put_other (kI_ne h5), e4, Maps.atKey_put_other (kI_ne h4), e3, Maps.atKey_put_other (kI_ne h3), e2, Maps.atKey_put_other (kI_ne h2), e1, Maps.atKey_put_other (kI_ne h1)]
  rfl
theorem zeroI (w : World) : (zeroValue 151).run Tryz.prog w = .ok (rV ⟨#[]⟩) w := by kernel_rfl
theorem rows_run {w : World} {b : Nat} (h : RowsAt w b) {k : Int} (hk : (Lit.int .i64 k).wf = true) : (Instr.lookup 153 (.map (some b)) (.int .i64 k) true).run Tryz.prog w = .ok (.tuple #[.agg #[.string (strOf k)], .bool (rowOf k).isSome]) w := by
 obtain ⟨v, ps, hr, hv⟩ := World.ownsMap.look_ok (t := 153) (e := 151) h lawI13 Tryz.underlying153 (zeroI w) (zd := .held (rV ⟨#[]⟩)) (zp := []) rfl (kl := kI k) (Maps.keyOf_int_mk Tryz.underlying3 hk)
 obtain ⟨h1, h2⟩ := rows_look k
 rw [h2] at hv
 unfold heldI at hv
 simp only [Option.some.injEq, Prod.mk.injEq, DataW.held.injEq] at hv
 rw [hr, h1, hv.1]
 rfl
theorem wpList_ins13 {H : Type} {P : Program} (w : World) {ops : Array Oper} {rest : List Oper} {o : Oper} {a : Act} {Q : Exit → Act → World → Prop}
  (hg : o.guard = none) (m x v : Operand) (t : TypeId) (hop : o.op = Op.insert t m x v)
  (k e : TypeId) (K : Maps.Keyed P k) (ht : P.underlying t = some (.map k e)) (R : Value → Option (DataW H × List MemPlace)) (b n : Nat) (D : DataW H)
  (hm : a.eval m = .map (some b)) (hown : w.ownsMap P k R b n D) (hn : n < maxLen) (key val : Value) (kl : Lit) (hx : a.eval x = key) (hv : a.eval v = val) (hkey : keyOf P k key = some kl)
  (d : DataW H) (ps : List MemPlace) (hval : R val = some (d, ps))
  (hK : ∀ w', w'.ownsMap P k R b (n + 1) (D.put kl d) → w.grownBy w' (some b) → wpList P ops Q rest (a.put o.dst undef) w') :
  wpList P ops Q (o :: rest) a w := by
 refine wpList_plain hg fun K' hK' => ?_
 obtain ⟨w', hrun, r1, r2⟩ := hown.update K ht hn hkey hval
 unfold Oper.wp
 simp [execOp, hop, hm, hx, hv, hrun, Result.andThen]
 exact hK' _ _ (hK w' r1 r2)
theorem rows_any (w : World) : Calls Tryz.prog 112 #[] w fun e w' => ∃ b, e = .returned (.map (some b)) ∧ RowsAt w' b ∧ Below w.heap.size w w' := by
 have HM0 : Hid ((w.alloc (.map #[] 0)).ownsMap Tryz.prog 3 heldI w.heap.size 0 dI0) := Lib.hid (World.ownsMap_made w _ _ _)
 have HB0 : Hid (Below w.heap.size w (w.alloc (.map #[] 0))) := Lib.hid (blAlloc (Below.refl _ _) _)
 have hmm := @run_makeMap Tryz.prog
 go_enter Tryz.func112, Tryz.ntmps112
 go_wp2_with (first | go_skip | ((with_reducible refine atW w16 ?_); refine wpList_ins13 _ rfl _ _ _ 153 rfl 3 151 lawI13 Tryz.underlying153 heldI w.heap.size 16 dI16 rfl HM16.out (by unfold maxLen; omega) (.int .i64 17) (rV ⟨#[]⟩) (kI 17) rfl rfl (Maps.keyOf_int_mk Tryz.underlying3 rfl) (.held (rV ⟨#[]⟩)) [] rfl ?_; intro w17 hm hg; have HM17 : Hid (w17.ownsMap Tryz.prog 3 heldI w.heap.size 17 dI17) := Lib.hid hm; have HB17 : Hid (Below w.heap.size w w17) := Lib.hid (HB16.out.grown hg HB16.out.size (fun j hj => by cases hj; exact Nat.le_refl _)); clear hm hg) | ((with_reducible refine atW w15 ?_); refine wpList_ins13 _ rfl _ _ _ 153 rfl 3 151 lawI13 Tryz.underlying153 heldI w.heap.size 15 dI15 rfl HM15.out (by unfold maxLen; omega) (.int .i64 16) (rV ⟨#[]⟩) (kI 16) rfl rfl (Maps.keyOf_int_mk Tryz.underlying3 rfl) (.held (rV ⟨#[]⟩)) [] rfl ?_; intro w16 hm hg; have HM16 : Hid (w16.ownsMap Tryz.prog 3 heldI w.heap.size 16 dI16) := Lib.hid hm; have HB16 : Hid (Below w.heap.size w w16) := Lib.hid (HB15.out.grown hg HB15.out.size (fun j hj => by cases hj; exact Nat.le_refl _)); clear hm hg) | ((with_reducible refine atW w14 ?_); refine wpList_ins13 _ rfl _ _ _ 153 rfl 3 151 lawI13 Tryz.underlying153 heldI w.heap.size 14 dI14 rfl HM14.out (by unfold maxLen; omega) (.int .i64 13) (rV ⟨#[]⟩) (kI 13) rfl rfl (Maps.keyOf_int_mk Tryz.underlying3 rfl) (.held (rV ⟨#[]⟩)) [] rfl ?_; intro w15 hm hg; have HM15 : Hid (w15.ownsMap Tryz.prog 3 heldI w.heap.size 15 dI15) := Lib.hid hm; have HB15 : Hid (Below w.heap.size w w15) := Lib.hid (HB14.out.grown hg HB14.out.size (fun j hj => by cases hj; exact Nat.le_refl _)); clear hm hg) | ((with_reducible refine atW w13 ?_); refine wpList_ins13 _ rfl _ _ _ 153 rfl 3 151 lawI13 Tryz.underlying153 heldI w.heap.size 13 dI13 rfl HM13.out (by unfold maxLen; omega) (.int .i64 12) (rV ⟨#[86, 111, 119]⟩) (kI 12) rfl rfl (Maps.keyOf_int_mk Tryz.underlying3 rfl) (.held (rV ⟨#[86, 111, 119]⟩)) [] rfl ?_; intro w14 hm hg; have HM14 : Hid (w14.ownsMap Tryz.prog 3 heldI w.heap.size 14 dI14) := Lib.hid hm; have HB14 : Hid (Below w.heap.size w w14) := Lib.hid (HB13.out.grown hg HB13.out.size (fun j hj => by cases hj; exact Nat.le_refl _)); clear hm hg) | ((with_reducible refine atW w12 ?_); refine wpList_ins13 _ rfl _ _ _ 153 rfl 3 151 lawI13 Tryz.underlying153 heldI w.heap.size 12 dI12 rfl HM12.out (by unfold maxLen; omega) (.int .i64 11) (rV ⟨#[112]⟩) (kI 11) rfl rfl (Maps.keyOf_int_mk Tryz.underlying3 rfl) (.held (rV ⟨#[112]⟩)) [] rfl ?_; intro w13 hm hg; have HM13 : Hid (w13.ownsMap Tryz.prog 3 heldI w.heap.size 13 dI13) := Lib.hid hm; have HB13 : Hid (Below w.heap.size w w13) := Lib.hid (HB12.out.grown hg HB12.out.size (fun j hj => by cases hj; exact Nat.le_refl _)); clear hm hg) | ((with_reducible refine atW w11 ?_); refine wpList_ins13 _ rfl _ _ _ 153 rfl 3 151 lawI13 Tryz.underlying153 heldI w.heap.size 11 dI11 rfl HM11.out (by unfold maxLen; omega) (.int .i64 10) (rV ⟨#[86, 111]⟩) (kI 10) rfl rfl (Maps.keyOf_int_mk Tryz.underlying3 rfl) (.held (rV ⟨#[86, 111]⟩)) [] rfl ?_; intro w12 hm hg; have HM12 : Hid (w12.ownsMap Tryz.prog 3 heldI w.heap.size 12 dI12) := Lib.hid hm; have HB12 : Hid (Below w.heap.size w w12) := Lib.hid (HB11.out.grown hg HB11.out.size (fun j hj => by cases hj; exact Nat.le_refl _)); clear hm hg) | ((with_reducible refine atW w10 ?_); refine wpList_ins13 _ rfl _ _ _ 153 rfl 3 151 lawI13 Tryz.underlying153 heldI w.heap.size 10 dI10 rfl HM10.out (by unfold maxLen; omega) (.int .i64 9) (rV ⟨#[66, 79, 65, 102, 100, 104]⟩) (kI 9) rfl rfl (Maps.keyOf_int_mk Tryz.underlying3 rfl) (.held (rV ⟨#[66, 79, 65, 102, 100, 104]⟩)) [] rfl ?_; intro w11 hm hg; have HM11 : Hid (w11.ownsMap Tryz.prog 3 heldI w.heap.size 11 dI11) := Lib.hid hm; have HB11 : Hid (Below w.heap.size w w11) := Lib.hid (HB10.out.grown hg HB10.out.size (fun j hj => by cases hj; exact Nat.le_refl _)); clear hm hg) | ((with_reducible refine atW w9 ?_); refine wpList_ins13 _ rfl _ _ _ 153 rfl 3 151 lawI13 Tryz.underlying153 heldI w.heap.size 9 dI9 rfl HM9.out (by unfold maxLen; omega) (.int .i64 8) (rV ⟨#[66, 79]⟩) (kI 8) rfl rfl (Maps.keyOf_int_mk Tryz.underlying3 rfl) (.held (rV ⟨#[66, 79]⟩)) [] rfl ?_; intro w10 hm hg; have HM10 : Hid (w10.ownsMap Tryz.prog 3 heldI w.heap.size 10 dI10) := Lib.hid hm; have HB10 : Hid (Below w.heap.size w w10) := Lib.hid (HB9.out.grown hg HB9.out.size (fun j hj => by cases hj; exact Nat.le_refl _)); clear hm hg) | ((with_reducible refine atW w8 ?_); refine wpList_ins13 _ rfl _ _ _ 153 rfl 3 151 lawI13 Tryz.underlying153 heldI w.heap.size 8 dI8 rfl HM8.out (by unfold maxLen; omega) (.int .i64 15) (rV ⟨#[118, 103]⟩) (kI 15) rfl rfl (Maps.keyOf_int_mk Tryz.underlying3 rfl) (.held (rV ⟨#[118, 103]⟩)) [] rfl ?_; intro w9 hm hg; have HM9 : Hid (w9.ownsMap Tryz.prog 3 heldI w.heap.size 9 dI9) := Lib.hid hm; have HB9 : Hid (Below w.heap.size w w9) := Lib.hid (HB8.out.grown hg HB8.out.size (fun j hj => by cases hj; exact Nat.le_refl _)); clear hm hg) | ((with_reducible refine atW w7 ?_); refine wpList_ins13 _ rfl _ _ _ 153 rfl 3 151 lawI13 Tryz.underlying153 heldI w.heap.size 7 dI7 rfl HM7.out (by unfold maxLen; omega) (.int .i64 7) (rV ⟨#[118, 103]⟩) (kI 7) rfl rfl (Maps.keyOf_int_mk Tryz.underlying3 rfl) (.held (rV ⟨#[118, 103]⟩)) [] rfl ?_; intro w8 hm hg; have HM8 : Hid (w8.ownsMap Tryz.prog 3 heldI w.heap.size 8 dI8) := Lib.hid hm; have HB8 : Hid (Below w.heap.size w w8) := Lib.hid (HB7.out.grown hg HB7.out.size (fun j hj => by cases hj; exact Nat.le_refl _)); clear hm hg) | ((with_reducible refine atW w6 ?_); refine wpList_ins13 _ rfl _ _ _ 153 rfl 3 151 lawI13 Tryz.underlying153 heldI w.heap.size 6 dI6 rfl HM6.out (by unfold maxLen; omega) (.int .i64 14) (rV ⟨#[98]⟩) (kI 14) rfl rfl (Maps.keyOf_int_mk Tryz.underlying3 rfl) (.held (rV ⟨#[98]⟩)) [] rfl ?_; intro w7 hm hg; have HM7 : Hid (w7.ownsMap Tryz.prog 3 heldI w.heap.size 7 dI7) := Lib.hid hm; have HB7 : Hid (Below w.heap.size w w7) := Lib.hid (HB6.out.grown hg HB6.out.size (fun j hj => by cases hj; exact Nat.le_refl _)); clear hm hg) | ((with_reducible refine atW w5 ?_); refine wpList_ins13 _ rfl _ _ _ 153 rfl 3 151 lawI13 Tryz.underlying153 heldI w.heap.size 5 dI5 rfl HM5.out (by unfold maxLen; omega) (.int .i64 6) (rV ⟨#[98]⟩) (kI 6) rfl rfl (Maps.keyOf_int_mk Tryz.underlying3 rfl) (.held (rV ⟨#[98]⟩)) [] rfl ?_; intro w6 hm hg; have HM6 : Hid (w6.ownsMap Tryz.prog 3 heldI w.heap.size 6 dI6) := Lib.hid hm; have HB6 : Hid (Below w.heap.size w w6) := Lib.hid (HB5.out.grown hg HB5.out.size (fun j hj => by cases hj; exact Nat.le_refl _)); clear hm hg) | ((with_reducible refine atW w4 ?_); refine wpList_ins13 _ rfl _ _ _ 153 rfl 3 151 lawI13 Tryz.underlying153 heldI w.heap.size 4 dI4 rfl HM4.out (by unfold maxLen; omega) (.int .i64 5) (rV ⟨#[98, 118, 103]⟩) (kI 5) rfl rfl (Maps.keyOf_int_mk Tryz.underlying3 rfl) (.held (rV ⟨#[98, 118, 103]⟩)) [] rfl ?_; intro w5 hm hg; have HM5 : Hid (w5.ownsMap Tryz.prog 3 heldI w.heap.size 5 dI5) := Lib.hid hm; have HB5 : Hid (Below w.heap.size w w5) := Lib.hid (HB4.out.grown hg HB4.out.size (fun j hj => by cases hj; exact Nat.le_refl _)); clear hm hg) | ((with_reducible refine atW w3 ?_); refine wpList_ins13 _ rfl _ _ _ 153 rfl 3 151 lawI13 Tryz.underlying153 heldI w.heap.size 3 dI3 rfl HM3.out (by unfold maxLen; omega) (.int .i64 4) (rV ⟨#[98, 100]⟩) (kI 4) rfl rfl (Maps.keyOf_int_mk Tryz.underlying3 rfl) (.held (rV ⟨#[98, 100]⟩)) [] rfl ?_; intro w4 hm hg; have HM4 : Hid (w4.ownsMap Tryz.prog 3 heldI w.heap.size 4 dI4) := Lib.hid hm; have HB4 : Hid (Below w.heap.size w w4) := Lib.hid (HB3.out.grown hg HB3.out.size (fun j hj => by cases hj; exact Nat.le_refl _)); clear hm hg) | ((with_reducible refine atW w2 ?_); refine wpList_ins13 _ rfl _ _ _ 153 rfl 3 151 lawI13 Tryz.underlying153 heldI w.heap.size 2 dI2 rfl HM2.out (by unfold maxLen; omega) (.int .i64 3) (rV ⟨#[98, 97, 111]⟩) (kI 3) rfl rfl (Maps.keyOf_int_mk Tryz.underlying3 rfl) (.held (rV ⟨#[98, 97, 111]⟩)) [] rfl ?_; intro w3 hm hg; have HM3 : Hid (w3.ownsMap Tryz.prog 3 heldI w.heap.size 3 dI3) := Lib.hid hm; have HB3 : Hid (Below w.heap.size w w3) := Lib.hid (HB2.out.grown hg HB2.out.size (fun j hj => by cases hj; exact Nat.le_refl _)); clear hm hg) | ((with_reducible refine atW w1 ?_); refine wpList_ins13 _ rfl _ _ _ 153 rfl 3 151 lawI13 Tryz.underlying153 heldI w.heap.size 1 dI1 rfl HM1.out (by unfold maxLen; omega) (.int .i64 2) (rV ⟨#[97, 102, 100]⟩) (kI 2) rfl rfl (Maps.keyOf_int_mk Tryz.underlying3 rfl) (.held (rV ⟨#[97, 102, 100]⟩)) [] rfl ?_; intro w2 hm hg; have HM2 : Hid (w2.ownsMap Tryz.prog 3 heldI w.heap.size 2 dI2) := Lib.hid hm; have HB2 : Hid (Below w.heap.size w w2) := Lib.hid (HB1.out.grown hg HB1.out.size (fun j hj => by cases hj; exact Nat.le_refl _)); clear hm hg) | ((with_reducible refine atW (w.alloc (.map #[] 0)) ?_); refine wpList_ins13 _ rfl _ _ _ 153 rfl 3 151 lawI13 Tryz.underlying153 heldI w.heap.size 0 dI0 rfl HM0.out (by unfold maxLen; omega) (.int .i64 1) (rV ⟨#[111]⟩) (kI 1) rfl rfl (Maps.keyOf_int_mk Tryz.underlying3 rfl) (.held (rV ⟨#[111]⟩)) [] rfl ?_; intro w1 hm hg; have HM1 : Hid (w1.ownsMap Tryz.prog 3 heldI w.heap.size 1 dI1) := Lib.hid hm; have HB1 : Hid (Below w.heap.size w w1) := Lib.hid (HB0.out.grown hg HB0.out.size (fun j hj => by cases hj; exact Nat.le_refl _)); clear hm hg))
 go_ret
 exact ⟨_, rfl, HM17.out, HB17.out⟩
end SI
end Go.Proofs.YtgipkikedacmdaaGreat
