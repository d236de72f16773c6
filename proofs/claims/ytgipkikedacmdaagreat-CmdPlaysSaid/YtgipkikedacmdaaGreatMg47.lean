/- The arguments of this stage's laws, opened: ops, writes, pairs, values, commands that came in, with the reach of their texts. Conditions: none. -/
import Derived.WalkSpells
import Derived.SizedLaws
import Derived.Test.YtgipkikedacmdaaGreatMg46
import Derived.Test.YtgipkikedacmdaaGreatMg33
import Derived.Test.YtgipkikedacmdaaGreatMg00
import Derived.Test.YtgipkikedacmdaaGreatMg43
import Derived.Test.YtgipkikedacmdaaGreatMg17
set_option maxRecDepth 100000
set_option maxHeartbeats 16000000
set_option linter.unusedVariables false
set_option linter.unusedSimpArgs false
namespace Go.Proofs.YtgipkikedacmdaaGreat
open S3 SN SP
namespace SC
abbrev Stp := Int × Int
abbrev Vlu := Bool × Stp × SD.Dd
structure Cm where
 id : Stp
 ops : List Opr
 phase : Int
 prom : Stp
 vote : Stp
 fast : Bool
 seen : SD.Dd
 bound : Stp
 has : Bool
 ballot : Stp
 val : Vlu
 ready : Bool
 writes : List Wrt
 pairs : Al Nat
def z2 : Stp := (0, 0)
def val0 : Vlu := (false, z2, [])
def newC (id : Stp) : Cm := ⟨id, [], 0, z2, z2, false, [], z2, false, z2, val0, false, [], []⟩
def timeB (v id : Stp) : Bool := S1.isS v && !S1.ltS v id
def ballotB (s : Stp) : Bool := decide (s = z2) || S1.isS s
def valueB (v : Vlu) : Bool := if v.1 = true then decide (v.2.1 = z2) && decide (v.2.2 = []) else S1.isS v.2.1 && decide (SD.checkD v.2.2 = 0)
def writesB : Option ByteArray → List Wrt → Bool
 | _, [] => true
 | o, x :: l => keyB x.1 && decide (SN.rtN x.2.1 = x.2.1) && (!x.2.2 || decide (x.2.1 = 0)) && aheadB o x.1 && writesB (some x.1) l
def seenB (c : Cm) : Bool := if c.ops = [] then decide (c.vote = z2) && !c.fast && decide (c.seen = []) else decide (checkP c.ops = 0) && (decide (c.vote = z2) || S1.isS c.vote && !S1.ltS c.vote c.id) && decide (SD.checkD c.seen = 0)
def promB (c : Cm) : Bool := ballotB c.prom && ballotB c.bound
def valB (c : Cm) : Bool := if c.has = true then ballotB c.ballot && valueB c.val else decide (c.ballot = z2) && decide (c.val = val0)
def phaseB (c : Cm) : Bool :=
 if c.phase = 0 then decide (c.ops = []) && !c.ready
 else if c.phase = 1 then !decide (c.ops = []) && !c.ready
 else if c.phase = 2 then c.has && (c.val.1 && !c.ready || !c.val.1 && !decide (c.ops = []))
 else if c.phase = 3 then c.has && c.ready && !c.val.1 && !decide (c.ops = [])
 else false
def listsB (c : Cm) : Bool := (decide (c.writes = []) || c.ready) && (decide (c.pairs = []) || decide (c.phase = 3)) && writesB none c.writes && dataB none c.pairs
def checkB (c : Cm) : Bool := S1.isS c.id && seenB c && promB c && valB c && phaseB c && listsB c
def checkC (c : Cm) : Int := if checkB c = true then 0 else 90
def decB (c : Cm) : Bool := decide (c.phase = 2) || decide (c.phase = 3)
def finB (c : Cm) : Bool := decide (c.phase = 3) || decide (c.phase = 2) && c.val.1
def witC (c : Cm) (ops : List Opr) (vote : Stp) (fast : Bool) (seen : SD.Dd) : Cm := if !decide (c.ops = []) || decB c then c else { c with ops := ops, vote := vote, fast := fast, seen := seen, phase := 1 }
def proB (c : Cm) (b : Stp) : Bool := !(decB c || S1.ltS b c.prom)
def proC (c : Cm) (b : Stp) : Cm := if proB c b = true then { c with prom := b } else c
def binC (c : Cm) (b at_ : Stp) : Cm := if proB c b = true then { c with prom := b, bound := S1.maxL [c.bound, at_] } else c
def accC (c : Cm) (b : Stp) (v : Vlu) : Cm := if proB c b = true then { c with prom := b, bound := S1.maxL [c.bound, v.2.1], has := true, ballot := b, val := v } else c
def deciC (c : Cm) (ops : List Opr) (v : Vlu) : Cm := if decB c = true then c else { c with phase := 2, has := true, val := v, ops := if c.ops = [] ∧ v.1 = false then ops else c.ops }
def loaC (c : Cm) (l : List Wrt) : Cm := if c.phase = 2 ∧ c.val.1 = false ∧ c.ready = false then { c with ready := true, writes := l } else c
def donC (c : Cm) (l : Al Nat) : Cm := if c.phase = 2 ∧ c.ready = true then { c with phase := 3, pairs := l } else c
def cW : Cod Wrt := cT.two (cN.two cB)
def cP : Cod (ByteArray × Nat) := cT.two cN
theorem cW_ok : cW.Ok := Cod.two_ok cT_ok (Cod.two_ok cN_ok cB_ok)
theorem cP_ok : cP.Ok := Cod.two_ok cT_ok cN_ok
theorem cW_pos (x : Wrt) : 1 ≤ (cW.lay x).length := by
 show 1 ≤ (S2.tx _ ++ _).length
 rw [List.length_append, S2.tx_length]
 omega
theorem cP_pos (x : ByteArray × Nat) : 1 ≤ (cP.lay x).length := by
 show 1 ≤ (S2.tx _ ++ _).length
 rw [List.length_append, S2.tx_length]
 omega
abbrev Dq := Cod (List (Int × List (Int × Int)))
def cDs : Dq := SD.cD.list.upto 8
theorem cDs_ok : cDs.Ok := Cod.upto_ok 8 (Cod.list_ok SD.cD_ok SD.cD_pos)
def cV : Cod Vlu := cB.two (cS.two cDs)
theorem cV_ok : cV.Ok := Cod.two_ok cB_ok (Cod.two_ok cS_ok cDs_ok)
abbrev CmT := Stp × List Opr × Int × Stp × Stp × Bool × SD.Dd × Stp × Bool × Stp × Vlu × Bool × List Wrt × Al Nat
def Cm.tup (c : Cm) : CmT := (c.id, c.ops, c.phase, c.prom, c.vote, c.fast, c.seen, c.bound, c.has, c.ballot, c.val, c.ready, c.writes, c.pairs)
def cmOf (t : CmT) : Cm := ⟨t.1, t.2.1, t.2.2.1, t.2.2.2.1, t.2.2.2.2.1, t.2.2.2.2.2.1, t.2.2.2.2.2.2.1, t.2.2.2.2.2.2.2.1, t.2.2.2.2.2.2.2.2.1, t.2.2.2.2.2.2.2.2.2.1, t.2.2.2.2.2.2.2.2.2.2.1, t.2.2.2.2.2.2.2.2.2.2.2.1, t.2.2.2.2.2.2.2.2.2.2.2.2.1, t.2.2.2.2.2.2.2.2.2.2.2.2.2⟩
def cC : Cod CmT := cS.two ((cO.list.upto 8).two (cI.two (cS.two (cS.two (cB.two (cDs.two (cS.two (cB.two (cS.two (cV.two (cB.two (cW.list.two cP.list))))))))))))
def layC (c : Cm) : List UInt8 := cC.lay c.tup
def parseC (B : List UInt8) : Option Cm := (parseK cC (fun t => checkC (cmOf t)) B).map cmOf
end SC
end Go.Proofs.YtgipkikedacmdaaGreat

namespace Go.Proofs.YtgipkikedacmdaaGreat
open Go.Lib renaming hid → hI
open S3 SN SP
namespace SC
open Go.ChangeShapes Go.WideShapes Go.ChangeAt Go.RowKit Go.Joins Go.Deep
def DlV (w : World) (v : Value) (d : SD.Dd) : Prop := ∃ a cap F, v = .slice a F.length cap ∧ SD.Dl w a F ∧ SD.toD F = d ∧ (a = none → cap = 0)
theorem DlV.later {w x : World} {v : Value} {d : SD.Dd} (h : DlV w v d) (hb : Below w.heap.size w x) : DlV x v d := by
 obtain ⟨a, cap, F, hv, hd, ht, hn⟩ := h
 exact ⟨a, cap, F, hv, hd.later hb, ht, hn⟩
structure Pl where
 o : Value
 s : Value
 d : Value
 w : Value
 p : Value
def cmV (c : Cm) (l : Pl) : Value := .agg #[.int .i64 c.id.1, .int .i64 c.id.2, l.o, .int .i64 c.phase, .int .i64 c.prom.1, .int .i64 c.prom.2, .int .i64 c.vote.1, .int .i64 c.vote.2, .bool c.fast, l.s, .int .i64 c.bound.1, .int .i64 c.bound.2, .bool c.has, .int .i64 c.ballot.1, .int .i64 c.ballot.2, .bool c.val.1, .int .i64 c.val.2.1.1, .int .i64 c.val.2.1.2, l.d, .bool c.ready, l.w, l.p]
structure CmAt (W : World) (c : Cm) (l : Pl) : Prop where
 o : SlG eO W l.o c.ops
 s : DlV W l.s c.seen
 d : DlV W l.d c.val.2.2
 w : SlG eW W l.w c.writes
 p : SlG eP W l.p c.pairs
theorem CmAt.later {W X : World} {c : Cm} {l : Pl} (h : CmAt W c l) (hb : Below W.heap.size W X) : CmAt X c l := ⟨h.o.later hb, h.s.later hb, h.d.later hb, h.w.later hb, h.p.later hb⟩
theorem len_none {α : Type} {l : List α} (h : l ≠ []) : decide ((0 : Int) < (l.length : Int)) = true := by
 cases l with
 | nil => exact absurd rfl h
 | cons a r => simp
theorem hasOps_any (c : Cm) (l : Pl) (W : World) (h : CmAt W c l) : Calls Tryz.prog 121 #[cmV c l] W fun e w' => e = .returned (.bool (!decide (c.ops = []))) ∧ Below W.heap.size W w' := by
 obtain ⟨⟨id1, id2⟩, ops, phase, ⟨p1, p2⟩, ⟨v1, v2⟩, fast, seen, ⟨b1, b2⟩, has, ⟨q1, q2⟩, ⟨gone, ⟨t1, t2⟩, deps⟩, ready, writes, pairs⟩ := c
 obtain ⟨lo, ls, ld, lw, lp⟩ := l
 obtain ⟨ao, co, rfl⟩ := h.o.form
 clear h
 unfold cmV
 simp only
 by_cases ho : ops = []
 ·subst ho
  go_enter Tryz.func121, Tryz.ntmps121
  go_wp2
  go_ret
  exact ⟨rfl, blAlloc (Below.refl _ _) _⟩
 ·have h1 := len_none ho
  have h2 : (!decide (ops = [])) = true := by rw [decide_eq_false ho]; rfl
  have h3 : 0 < ops.length := by cases ops with | nil => exact absurd rfl ho | cons _ _ => simp
  have h4 : decide (0 < ops.length) = true := decide_eq_true h3
  rw [h2]
  generalize ops.length = n at *
  clear h2
  go_enter Tryz.func121, Tryz.ntmps121
  go_wp2
  go_ret
  exact ⟨rfl, blAlloc (Below.refl _ _) _⟩
theorem isDecided_any (c : Cm) (l : Pl) (W : World) : Calls Tryz.prog 119 #[cmV c l] W fun e w' => e = .returned (.bool (decB c)) ∧ Below W.heap.size W w' := by
 obtain ⟨⟨id1, id2⟩, ops, phase, ⟨p1, p2⟩, ⟨v1, v2⟩, fast, seen, ⟨b1, b2⟩, has, ⟨q1, q2⟩, ⟨gone, ⟨t1, t2⟩, deps⟩, ready, writes, pairs⟩ := c
 obtain ⟨lo, ls, ld, lw, lp⟩ := l
 unfold cmV decB
 simp only
 by_cases h2 : phase = 2
 ·subst h2
  go_enter Tryz.func119, Tryz.ntmps119
  go_wp2
  go_ret
  exact ⟨rfl, blAlloc (Below.refl _ _) _⟩
 ·by_cases h3 : phase = 3
  ·subst h3
   go_enter Tryz.func119, Tryz.ntmps119
   go_wp2
   go_ret
   exact ⟨rfl, blAlloc (Below.refl _ _) _⟩
  ·have e2 : (phase == 2) = false := by simpa using h2
   have e3 : (phase == 3) = false := by simpa using h3
   rw [decide_eq_false h2, decide_eq_false h3]
   go_enter Tryz.func119, Tryz.ntmps119
   go_wp2
   go_ret
   exact ⟨rfl, blAlloc (Below.refl _ _) _⟩
theorem isZero_any (s : Stp) (W : World) : Calls Tryz.prog 132 #[.agg #[.int .i64 s.1, .int .i64 s.2]] W fun e w' => e = .returned (.bool (decide (s = z2))) ∧ Below W.heap.size W w' := by
 obtain ⟨x, y⟩ := s
 simp only
 by_cases h1 : x = 0
 ·subst h1
  by_cases h2 : y = 0
  ·subst h2
   go_enter Tryz.func132, Tryz.ntmps132
   go_wp2
   go_ret
   exact ⟨rfl, blAlloc (Below.refl _ _) _⟩
  ·have e2 : (y == 0) = false := by simpa using h2
   have e : decide (((0 : Int), y) = z2) = false := decide_eq_false (fun e => h2 (congrArg Prod.snd e))
   rw [e]
   go_enter Tryz.func132, Tryz.ntmps132
   go_wp2
   go_ret
   exact ⟨rfl, blAlloc (Below.refl _ _) _⟩
 ·have e1 : (x == 0) = false := by simpa using h1
  have e : decide ((x, y) = z2) = false := decide_eq_false (fun e => h1 (congrArg Prod.fst e))
  rw [e]
  go_enter Tryz.func132, Tryz.ntmps132
  go_wp2
  go_ret
  exact ⟨rfl, blAlloc (Below.refl _ _) _⟩
theorem rdecided_any (c : Cm) (l : Pl) (W : World) : Calls Tryz.prog 157 #[cmV c l] W fun e w' => e = .returned (.bool (decB c)) ∧ Below W.heap.size W w' := by
 obtain ⟨⟨id1, id2⟩, ops, phase, ⟨p1, p2⟩, ⟨v1, v2⟩, fast, seen, ⟨b1, b2⟩, has, ⟨q1, q2⟩, ⟨gone, ⟨t1, t2⟩, deps⟩, ready, writes, pairs⟩ := c
 obtain ⟨lo, ls, ld, lw, lp⟩ := l
 unfold cmV decB
 simp only
 by_cases h2 : phase = 2
 ·subst h2
  go_enter Tryz.func157, Tryz.ntmps157
  go_wp2
  go_ret
  exact ⟨rfl, blAlloc (Below.refl _ _) _⟩
 ·by_cases h3 : phase = 3
  ·subst h3
   go_enter Tryz.func157, Tryz.ntmps157
   go_wp2
   go_ret
   exact ⟨rfl, blAlloc (Below.refl _ _) _⟩
  ·have e2 : (phase == 2) = false := by simpa using h2
   have e3 : (phase == 3) = false := by simpa using h3
   rw [decide_eq_false h2, decide_eq_false h3]
   go_enter Tryz.func157, Tryz.ntmps157
   go_wp2
   go_ret
   exact ⟨rfl, blAlloc (Below.refl _ _) _⟩
theorem rzero_any (s : Stp) (W : World) : Calls Tryz.prog 57 #[.agg #[.int .i64 s.1, .int .i64 s.2]] W fun e w' => e = .returned (.bool (decide (s = z2))) ∧ Below W.heap.size W w' := by
 obtain ⟨x, y⟩ := s
 simp only
 by_cases h1 : x = 0
 ·subst h1
  by_cases h2 : y = 0
  ·subst h2
   go_enter Tryz.func57, Tryz.ntmps57
   go_wp2
   go_ret
   exact ⟨rfl, blAlloc (Below.refl _ _) _⟩
  ·have e2 : (y == 0) = false := by simpa using h2
   have e : decide (((0 : Int), y) = z2) = false := decide_eq_false (fun e => h2 (congrArg Prod.snd e))
   rw [e]
   go_enter Tryz.func57, Tryz.ntmps57
   go_wp2
   go_ret
   exact ⟨rfl, blAlloc (Below.refl _ _) _⟩
 ·have e1 : (x == 0) = false := by simpa using h1
  have e : decide ((x, y) = z2) = false := decide_eq_false (fun e => h1 (congrArg Prod.fst e))
  rw [e]
  go_enter Tryz.func57, Tryz.ntmps57
  go_wp2
  go_ret
  exact ⟨rfl, blAlloc (Below.refl _ _) _⟩
theorem num9_any (n : Int) (w : World) : Calls Tryz.prog 13 #[.int .i64 n] w fun e w' => e = .returned (.int .i64 n) ∧ w = w' := by
 go_enter Tryz.func13, Tryz.ntmps13
 go_wp2
 go_ret
 exact ⟨rfl, rfl⟩

theorem new_blockC (w : World) (c : Array Value) (T : TypeId) : (w.alloc (.cells c T)).heap[w.heap.size]? = some (.cells c T (0, 0)) := by
 show (w.heap.push _)[w.heap.size]? = _
 rw [Array.getElem?_push_size]
theorem box_two (W : World) (x y : Value) (T : TypeId) (Y : World) (h : Below (W.alloc (.cells #[x, y] T)).heap.size (W.alloc (.cells #[x, y] T)) Y) : Y.cell? ⟨W.heap.size, 0, none⟩ = some x ∧ Y.cell? ⟨W.heap.size, 1, none⟩ = some y := by
 have hb : Y.heap[W.heap.size]? = some (.cells #[x, y] T (0, 0)) := (h.block W.heap.size (by simp)).trans (new_blockC W _ T)
 simp only [World.cell?, hb]
 exact ⟨rfl, rfl⟩
theorem below_grow {w x y : World} (h : Below w.heap.size w x) (hy : ∃ q os, y = Go.Sort.grow (x.drewN q) os) : Below w.heap.size w y := by
 obtain ⟨q, os, rfl⟩ := hy
 exact blThen h (S1.grow_below x q os)
theorem cell_box (W : World) (c : Array Value) (T : TypeId) (Y : World) (h : Below (W.alloc (.cells c T)).heap.size (W.alloc (.cells c T)) Y) (i : Nat) (v : Value) (hi : c[i]? = some v) : Y.cell? ⟨W.heap.size, i, none⟩ = some v := by
 have hb : Y.heap[W.heap.size]? = some (.cells c T (0, 0)) := (h.block W.heap.size (by simp)).trans (new_blockC W c T)
 simp only [World.cell?, hb]
 exact hi
theorem fitStamp_any (s : Stp) (W : World) : Calls Tryz.prog 50 #[.agg #[.int .i64 s.1, .int .i64 s.2]] W fun e w' => e = .returned (.bool (S1.isS s)) ∧ Below W.heap.size W w' := by
 obtain ⟨x, y⟩ := s
 simp only
 have HC := hI (cell_box W #[.int .i64 x, .int .i64 y] 23)
 cases hs : S1.isS (x, y)
 ·have hc : S1.checkS (x, y) = 10 := by unfold S1.checkS; rw [hs]; rfl
  go_enter Tryz.func50, Tryz.ntmps50
  go_wp2_with (first | (go_at_call 131; go_must (refine (S1.check_any x y _).mono ?_; rw [hc]; rintro e w1 ⟨rfl, h6⟩; have HB1 : Hid (Below W.heap.size W w1) := hI (below_grow (blAlloc (Below.refl _ _) _) h6); clear h6)))
  go_ret
  exact ⟨rfl, HB1.out⟩
 ·have hc : S1.checkS (x, y) = 0 := by unfold S1.checkS; rw [hs]; rfl
  go_enter Tryz.func50, Tryz.ntmps50
  go_wp2_with (first | (go_at_call 131; go_must (refine (S1.check_any x y _).mono ?_; rw [hc]; rintro e w1 ⟨rfl, h6⟩; have HB1 : Hid (Below W.heap.size W w1) := hI (below_grow (blAlloc (Below.refl _ _) _) h6); clear h6)))
  go_ret
  exact ⟨rfl, HB1.out⟩
theorem isBallot_any (s : Stp) (W : World) : Calls Tryz.prog 136 #[.agg #[.int .i64 s.1, .int .i64 s.2]] W fun e w' => e = .returned (.bool (ballotB s)) ∧ Below W.heap.size W w' := by
 obtain ⟨x, y⟩ := s
 simp only
 by_cases h1 : x = 0
 ·by_cases h2 : y = 0
  ·subst h1
   subst h2
   have hz : decide (((0 : Int), (0 : Int)) = z2) = true := rfl
   have hv : ballotB (0, 0) = true := by unfold ballotB; rw [hz]; rfl
   rw [hv]
   go_enter Tryz.func136, Tryz.ntmps136
   go_wp2
   go_ret
   exact ⟨rfl, blAlloc (Below.refl _ _) _⟩
  ·subst h1
   have e2 : (y == 0) = false := by simpa using h2
   have hz : decide (((0 : Int), y) = z2) = false := decide_eq_false (fun e => h2 (congrArg Prod.snd e))
   cases hs : S1.isS (0, y)
   ·have hv : ballotB (0, y) = false := by unfold ballotB; rw [hz, hs]; rfl
    rw [hv]
    go_enter Tryz.func136, Tryz.ntmps136
    go_wp2_with (first | (go_at_call 50; go_must (refine (fitStamp_any (0, y) _).mono ?_; rw [hs]; rintro e w1 ⟨rfl, h6⟩; have HB1 : Hid (Below W.heap.size W w1) := hI (blThen (blAlloc (Below.refl _ _) _) h6); clear h6)))
    go_ret
    exact ⟨rfl, HB1.out⟩
   ·have hv : ballotB (0, y) = true := by unfold ballotB; rw [hz, hs]; rfl
    rw [hv]
    go_enter Tryz.func136, Tryz.ntmps136
    go_wp2_with (first | (go_at_call 50; go_must (refine (fitStamp_any (0, y) _).mono ?_; rw [hs]; rintro e w1 ⟨rfl, h6⟩; have HB1 : Hid (Below W.heap.size W w1) := hI (blThen (blAlloc (Below.refl _ _) _) h6); clear h6)))
    go_ret
    exact ⟨rfl, HB1.out⟩
 ·have e1 : (x == 0) = false := by simpa using h1
  have hz : decide ((x, y) = z2) = false := decide_eq_false (fun e => h1 (congrArg Prod.fst e))
  cases hs : S1.isS (x, y)
  ·have hv : ballotB (x, y) = false := by unfold ballotB; rw [hz, hs]; rfl
   rw [hv]
   go_enter Tryz.func136, Tryz.ntmps136
   go_wp2_with (first | (go_at_call 50; go_must (refine (fitStamp_any (x, y) _).mono ?_; rw [hs]; rintro e w1 ⟨rfl, h6⟩; have HB1 : Hid (Below W.heap.size W w1) := hI (blThen (blAlloc (Below.refl _ _) _) h6); clear h6)))
   go_ret
   exact ⟨rfl, HB1.out⟩
  ·have hv : ballotB (x, y) = true := by unfold ballotB; rw [hz, hs]; rfl
   rw [hv]
   go_enter Tryz.func136, Tryz.ntmps136
   go_wp2_with (first | (go_at_call 50; go_must (refine (fitStamp_any (x, y) _).mono ?_; rw [hs]; rintro e w1 ⟨rfl, h6⟩; have HB1 : Hid (Below W.heap.size W w1) := hI (blThen (blAlloc (Below.refl _ _) _) h6); clear h6)))
   go_ret
   exact ⟨rfl, HB1.out⟩
theorem rballot_any (s : Stp) (W : World) : Calls Tryz.prog 59 #[.agg #[.int .i64 s.1, .int .i64 s.2]] W fun e w' => e = .returned (.bool (ballotB s)) ∧ Below W.heap.size W w' := by
 obtain ⟨x, y⟩ := s
 simp only
 cases hz : decide ((x, y) = z2)
 ·cases hs : S1.isS (x, y)
  ·have hv : ballotB (x, y) = false := by unfold ballotB; rw [hz, hs]; rfl
   rw [hv]
   go_enter Tryz.func59, Tryz.ntmps59
   go_wp2_with (first | (go_at_call 57; go_must (refine (rzero_any (x, y) _).mono ?_; rw [hz]; rintro e w1 ⟨rfl, h5⟩; obtain ⟨c0, c1⟩ := box_two W _ _ _ _ h5; have hw1 := h5.size; simp only [World.size_alloc] at hw1; have HB1 : Hid (Below W.heap.size W w1) := hI (blThen (blAlloc (Below.refl _ _) _) h5); clear h5)) | (go_at_call 24; go_must (refine (S1.is_any x y _).mono ?_; rintro e w2 ⟨rfl, h6⟩; rw [hs]; have HB2 : Hid (Below W.heap.size W w2) := hI (below_grow HB1.out h6); clear h6)))
   go_ret
   exact ⟨rfl, HB2.out⟩
  ·have hv : ballotB (x, y) = true := by unfold ballotB; rw [hz, hs]; rfl
   rw [hv]
   go_enter Tryz.func59, Tryz.ntmps59
   go_wp2_with (first | (go_at_call 57; go_must (refine (rzero_any (x, y) _).mono ?_; rw [hz]; rintro e w1 ⟨rfl, h5⟩; obtain ⟨c0, c1⟩ := box_two W _ _ _ _ h5; have hw1 := h5.size; simp only [World.size_alloc] at hw1; have HB1 : Hid (Below W.heap.size W w1) := hI (blThen (blAlloc (Below.refl _ _) _) h5); clear h5)) | (go_at_call 24; go_must (refine (S1.is_any x y _).mono ?_; rintro e w2 ⟨rfl, h6⟩; rw [hs]; have HB2 : Hid (Below W.heap.size W w2) := hI (below_grow HB1.out h6); clear h6)))
   go_ret
   exact ⟨rfl, HB2.out⟩
 ·have hv : ballotB (x, y) = true := by unfold ballotB; rw [hz]; rfl
  rw [hv]
  go_enter Tryz.func59, Tryz.ntmps59
  go_wp2_with (first | (go_at_call 57; go_must (refine (rzero_any (x, y) _).mono ?_; rw [hz]; rintro e w1 ⟨rfl, h5⟩; obtain ⟨c0, c1⟩ := box_two W _ _ _ _ h5; have hw1 := h5.size; simp only [World.size_alloc] at hw1; have HB1 : Hid (Below W.heap.size W w1) := hI (blThen (blAlloc (Below.refl _ _) _) h5); clear h5)))
  go_ret
  exact ⟨rfl, HB1.out⟩
theorem promises_any (c : Cm) (l : Pl) (W : World) : Calls Tryz.prog 52 #[cmV c l] W fun e w' => e = .returned (.bool (promB c)) ∧ Below W.heap.size W w' := by
 obtain ⟨⟨id1, id2⟩, ops, phase, ⟨p1, p2⟩, ⟨v1, v2⟩, fast, seen, ⟨b1, b2⟩, has, ⟨q1, q2⟩, ⟨gone, ⟨t1, t2⟩, deps⟩, ready, writes, pairs⟩ := c
 obtain ⟨lo, ls, ld, lw, lp⟩ := l
 unfold cmV promB
 simp only
 have HC := hI (cell_box W #[.int .i64 id1, .int .i64 id2, lo, .int .i64 phase, .int .i64 p1, .int .i64 p2, .int .i64 v1, .int .i64 v2, .bool fast, ls, .int .i64 b1, .int .i64 b2, .bool has, .int .i64 q1, .int .i64 q2, .bool gone, .int .i64 t1, .int .i64 t2, ld, .bool ready, lw, lp] 31)
 have HA := hI (isBallot_any (p1, p2))
 have HB := hI (isBallot_any (b1, b2))
 cases ha : ballotB (p1, p2)
 ·rw [ha] at HA
  rw [Bool.false_and]
  go_enter Tryz.func52, Tryz.ntmps52
  go_wp2_with (go_at_call 136; go_must (refine (HA.out _).mono ?_; rintro e w1 ⟨rfl, h5⟩; have HB1 : Hid (Below W.heap.size W w1) := hI (blThen (blAlloc (Below.refl _ _) _) h5); clear h5))
  go_ret
  exact ⟨rfl, HB1.out⟩
 ·rw [ha] at HA
  rw [Bool.true_and]
  generalize ballotB (b1, b2) = vb at *
  go_enter Tryz.func52, Tryz.ntmps52
  go_wp2_with (first
   | (have htok := HB1; clear htok; go_at_call 136; go_must (refine (HB.out _).mono ?_; rintro e w2 ⟨rfl, h6⟩; have HB2 : Hid (Below W.heap.size W w2) := hI (blThen HB1.out h6); clear h6))
   | (go_at_call 136; go_must (refine (HA.out _).mono ?_; rintro e w1 ⟨rfl, h5⟩; have c10 := HC.out _ h5 10 _ rfl; have c11 := HC.out _ h5 11 _ rfl; have hw1 := h5.size; simp only [World.size_alloc] at hw1; have HB1 : Hid (Below W.heap.size W w1) := hI (blThen (blAlloc (Below.refl _ _) _) h5); clear h5)))
  go_ret
  exact ⟨rfl, HB2.out⟩

def voteB (v id : Stp) : Bool := decide (v = z2) || S1.isS v && !S1.ltS v id
theorem cmp_ge (x y a b : Int) : decide (0 ≤ S1.cmpS x y a b) = !S1.ltS (x, y) (a, b) := by
 have h := S1.cmpS_neg x y a b
 cases hl : S1.ltS (x, y) (a, b)
 ·rw [decide_eq_true]
  ·rfl
  ·have : ¬ S1.cmpS x y a b < 0 := fun h2 => by rw [hl] at h; exact absurd (h.1 h2) (by decide)
   omega
 ·rw [decide_eq_false]
  ·rfl
  ·have := h.2 hl
   omega
theorem new_cells (W : World) (x y : Int) : (W.alloc (.cells #[.int .i64 x, .int .i64 y] 23)).cell? ⟨W.heap.size, 0, none⟩ = some (.int .i64 x) ∧ (W.alloc (.cells #[.int .i64 x, .int .i64 y] 23)).cell? ⟨W.heap.size, 1, none⟩ = some (.int .i64 y) := box_two W _ _ _ _ (Below.refl _ _)
theorem new_cells1 (W : World) (o : Obj) (x y : Int) : ((W.alloc o).alloc (.cells #[.int .i64 x, .int .i64 y] 23)).cell? ⟨W.heap.size + 1, 0, none⟩ = some (.int .i64 x) ∧ ((W.alloc o).alloc (.cells #[.int .i64 x, .int .i64 y] 23)).cell? ⟨W.heap.size + 1, 1, none⟩ = some (.int .i64 y) := by
 have h := new_cells (W.alloc o) x y
 have e : (W.alloc o).heap.size = W.heap.size + 1 := by simp
 rw [e] at h
 exact h
theorem fitTime_any (v id : Stp) (W : World) : Calls Tryz.prog 134 #[.agg #[.int .i64 v.1, .int .i64 v.2], .agg #[.int .i64 id.1, .int .i64 id.2]] W fun e w' => e = .returned (.bool (timeB v id)) ∧ Below W.heap.size W w' := by
 obtain ⟨x, y⟩ := v
 obtain ⟨a, b⟩ := id
 simp only
 have HC := hI (fun (Y : World) (h : Below ((W.alloc (.cells #[.int .i64 x, .int .i64 y] 23)).alloc (.cells #[.int .i64 a, .int .i64 b] 23)).heap.size ((W.alloc (.cells #[.int .i64 x, .int .i64 y] 23)).alloc (.cells #[.int .i64 a, .int .i64 b] 23)) Y) => (⟨cell_in h (by simp; omega) (S2.alloc_cell (new_cells W x y).1 _), cell_in h (by simp; omega) (S2.alloc_cell (new_cells W x y).2 _), cell_in h (by simp) (new_cells1 W _ a b).1, cell_in h (by simp) (new_cells1 W _ a b).2⟩ : Y.cell? ⟨W.heap.size, 0, none⟩ = some (.int .i64 x) ∧ Y.cell? ⟨W.heap.size, 1, none⟩ = some (.int .i64 y) ∧ Y.cell? ⟨W.heap.size + 1, 0, none⟩ = some (.int .i64 a) ∧ Y.cell? ⟨W.heap.size + 1, 1, none⟩ = some (.int .i64 b)))
 have HB0 : Hid (Below W.heap.size W ((W.alloc (.cells #[.int .i64 x, .int .i64 y] 23)).alloc (.cells #[.int .i64 a, .int .i64 b] 23))) := hI (blAlloc (blAlloc (Below.refl _ _) _) _)
 cases hs : S1.isS (x, y)
 ·have hv : timeB (x, y) (a, b) = false := by unfold timeB; rw [hs]; rfl
  rw [hv]
  go_enter Tryz.func134, Tryz.ntmps134
  go_wp2_with (first | (go_at_call 50; go_must (refine (fitStamp_any (x, y) _).mono ?_; rw [hs]; rintro e w1 ⟨rfl, h5⟩; have HY1 := hI h5; obtain ⟨c0, c1, c2, c3⟩ := HC.out _ h5; have hw1 := h5.size; simp only [World.size_alloc] at hw1; have HB1 : Hid (Below W.heap.size W w1) := hI (blThen HB0.out h5); clear h5)))
  go_ret
  exact ⟨rfl, HB1.out⟩
 ·have hg := cmp_ge x y a b
  cases hl : S1.ltS (x, y) (a, b)
  ·have hv : timeB (x, y) (a, b) = true := by unfold timeB; rw [hs, hl]; rfl
   rw [hv]
   rw [hl] at hg
   have HG := hI hg
   have hg2 : ¬ S1.cmpS x y a b < 0 := by have := of_decide_eq_true hg; omega
   have hg3 : 0 ≤ S1.cmpS x y a b := of_decide_eq_true hg
   generalize hK : S1.cmpS x y a b = K at *
   have HK := hI hK
   clear hK
   go_enter Tryz.func134, Tryz.ntmps134
   go_wp2_with (first | (go_at_call 50; go_must (refine (fitStamp_any (x, y) _).mono ?_; rw [hs]; rintro e w1 ⟨rfl, h5⟩; have HY1 := hI h5; obtain ⟨c0, c1, c2, c3⟩ := HC.out _ h5; have hw1 := h5.size; simp only [World.size_alloc] at hw1; have HB1 : Hid (Below W.heap.size W w1) := hI (blThen HB0.out h5); clear h5)) | (go_at_call 120; go_must (refine (S1.compare_any x y a b _).mono ?_; rw [HK.out]; rintro e w3 ⟨rfl, h7⟩; have HB2 : Hid (Below W.heap.size W w3) := hI (blThen HB1.out h7); clear h7)))
   go_ret
   exact ⟨rfl, HB2.out⟩
  ·have hv : timeB (x, y) (a, b) = false := by unfold timeB; rw [hs, hl]; rfl
   rw [hv]
   rw [hl] at hg
   have hg3 : ¬ 0 ≤ S1.cmpS x y a b := of_decide_eq_false hg
   generalize hK : S1.cmpS x y a b = K at *
   have HK := hI hK
   clear hK
   go_enter Tryz.func134, Tryz.ntmps134
   go_wp2_with (first | (go_at_call 50; go_must (refine (fitStamp_any (x, y) _).mono ?_; rw [hs]; rintro e w1 ⟨rfl, h5⟩; have HY1 := hI h5; obtain ⟨c0, c1, c2, c3⟩ := HC.out _ h5; have hw1 := h5.size; simp only [World.size_alloc] at hw1; have HB1 : Hid (Below W.heap.size W w1) := hI (blThen HB0.out h5); clear h5)) | (go_at_call 120; go_must (refine (S1.compare_any x y a b _).mono ?_; rw [HK.out]; rintro e w3 ⟨rfl, h7⟩; have HB2 : Hid (Below W.heap.size W w3) := hI (blThen HB1.out h7); clear h7)))
   go_ret
   exact ⟨rfl, HB2.out⟩
end SC
end Go.Proofs.YtgipkikedacmdaaGreat

namespace Go.Proofs.YtgipkikedacmdaaGreat
open S3 SN SP
namespace SC
structure Act9 where
 kind : Int
 ops : List Opr
 a : Stp
 b : Stp
 fast : Bool
 deps : SD.Dd
 val : Vlu
 writes : List Wrt
 pairs : Al Nat
def actC (c : Cm) (x : Act9) : Cm :=
 if x.kind = 0 then witC c x.ops x.b x.fast x.deps else if x.kind = 1 then proC c x.a else if x.kind = 2 then binC c x.a x.b else if x.kind = 3 then accC c x.a x.val
 else if x.kind = 4 then deciC c x.ops x.val else if x.kind = 5 then loaC c x.writes else if x.kind = 6 then donC c x.pairs else c
def actB (c : Cm) (x : Act9) : Bool := if x.kind = 1 ∨ x.kind = 2 ∨ x.kind = 3 then proB c x.a else true
def mayB (x : Act9) (id : Stp) : Bool := decide (checkP x.ops = 0) && ballotB x.a && S1.isS x.b && !S1.ltS x.b id && decide (SD.checkD x.deps = 0) && valueB x.val && writesB none x.writes && dataB none x.pairs
theorem lt_irr (x : Stp) : S1.ltS x x = false := by rw [S1.ltS_not]; omega
structure Grow9 (c x : Cm) : Prop where
 may : checkB x = true
 id : x.id = c.id
 phase : c.phase ≤ x.phase
 prom : S1.ltS x.prom c.prom = false
 bound : S1.ltS x.bound c.bound = false
 seen : c.ops ≠ [] → x.vote = c.vote ∧ x.fast = c.fast ∧ x.ops = c.ops
 val : 2 ≤ c.phase → x.val = c.val
 fin : finB c = true → x = c
theorem Grow9.refl {c : Cm} (h : checkB c = true) : Grow9 c c := ⟨h, rfl, Int.le_refl _, lt_irr _, lt_irr _, fun _ => ⟨rfl, rfl, rfl⟩, fun _ => rfl, fun _ => rfl⟩
end SC
end Go.Proofs.YtgipkikedacmdaaGreat

namespace Go.Proofs.YtgipkikedacmdaaGreat
open S3 SN SP
namespace SC
open Go.ChangeShapes Go.WideShapes Go.ChangeAt Go.RowKit Go.Joins Go.Deep
theorem cellsWr9 : Tryz.prog.cellsOf 84 = 3 := by kernel_rfl
theorem cellsBl9 : Tryz.prog.cellsOf 4 = 1 := by kernel_rfl
section
variable {H : Type} {enc : TypeId × Value → H}
theorem writes_cells {w : World} {cs : List Value} {fuel : Nat} {x : DataW H × List MemPlace} (hf' : DataW.trod enc Tryz.prog w 0 (fun _ => true) true fuel 28 cs = some x) :
  ∃ (v : Value) (l : List Wrt), cs = [v] ∧ SlG eW w v l ∧ l.length ≤ 9223372036854775807 ∧ ∀ q ∈ l, q.2.1 < 18446744073709551616 ∧ InW 28 x.1 q.1 := by
 rcases open_slice Tryz.underlying28 hf' with ⟨hcs, _⟩ | ⟨a, len, cap, m, n, D, Pl, hcs, _, hl, hm, hmm, hx, hi⟩
 ·exact ⟨_, [], hcs, SlG.nil _, Nat.zero_le _, fun q hq => by cases hq⟩
 ·subst hcs
  simp only [if_true] at hmm
  subst hmm
  have hx1 := congrArg Prod.fst hx
  simp only at hx1
  obtain ⟨l, hl1, hl2, hl3⟩ := slG_of (E := eW) (w := w) (a := a) (len := len) (cap := m) (P := fun i q => q.2.1 < 18446744073709551616 ∧ InW 84 (D i) q.1) (fun i hlt => by
   obtain ⟨cs', hc, ht⟩ := hi i (by omega)
   rw [cellsWr9] at hc
   obtain ⟨_, hlen, hat⟩ := World.cells?_some hc
   match cs', hlen with
   | [c0, c1, c2], _ =>
    obtain ⟨y0, y1, y2, k, hfs, _, h0, h1, h2⟩ := trod_struct3 Tryz.underlying84 ht
    have e0 : DataW.trod enc Tryz.prog w 0 (fun _ => true) true k 9 [c0] = some y0 := by simpa [cells_str] using h0
    have e1 : DataW.trod enc Tryz.prog w 0 (fun _ => true) true k 77 [c1] = some y1 := by simpa [cellsNm] using h1
    have e2 : DataW.trod enc Tryz.prog w 0 (fun _ => true) true k 4 [c2] = some y2 := by simpa [cellsBl9] using h2
    obtain ⟨x, hx0, hxd, _⟩ := DataW.trod_string Tryz.underlying9 e0
    obtain ⟨y, hy0, _, wy⟩ := DataW.trod_int Tryz.underlying77 e1
    obtain ⟨g, hg0, _⟩ := DataW.trod_bool Tryz.underlying4 e2
    simp only [List.cons.injEq, and_true] at hx0 hy0 hg0
    subst hx0 hy0 hg0
    obtain ⟨yn, hyn, rfl⟩ := nat8 wy
    have hD : D i = .agg [y0.1, y1.1, y2.1] := congrArg Prod.fst hfs
    refine ⟨(x, yn, g), ⟨hyn, x.data.toList.length, ?_, by rw [ba_len]; exact Nat.le_refl _⟩, fun j u hu => ?_⟩
    ·rw [hD]
     simp only [DataW.weights, Tryz.underlying84]
     refine List.mem_append_left _ ?_
     rw [hxd]
     simp [DataW.weights]
    ·match j, hu with
     | 0, hu => simp only [eW, List.getElem?_cons_zero, Option.some.injEq] at hu; subst hu; exact hat 0 (by omega)
     | 1, hu => simp only [eW, List.getElem?_cons_succ, List.getElem?_cons_zero, Option.some.injEq] at hu; subst hu; exact hat 1 (by omega)
     | 2, hu => simp only [eW, List.getElem?_cons_succ, List.getElem?_cons_zero, Option.some.injEq] at hu; subst hu; exact hat 2 (by omega)
     | j + 3, hu => simp [eW] at hu)
  unfold maxLen at hm
  refine ⟨_, l, rfl, hl2, by omega, fun q hq => ?_⟩
  obtain ⟨i, hil, h1, n, h2, h3⟩ := hl3 q hq
  refine ⟨h1, n, ?_, h3⟩
  rw [hx1]
  exact weights_elem Tryz.underlying28 (List.mem_map.2 ⟨i, List.mem_range.2 hil, rfl⟩) h2
end
end SC
end Go.Proofs.YtgipkikedacmdaaGreat
