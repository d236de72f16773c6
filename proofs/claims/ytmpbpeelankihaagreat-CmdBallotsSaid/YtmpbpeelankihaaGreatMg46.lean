/- How a command grows, as data: what is asked of it one thing after the other, what may be is followed by what may be. No program is named. Conditions: none. -/
import Derived.WalkSpells
import Derived.Test.YtmpbpeelankihaaGreatMg45
import Derived.Test.YtmpbpeelankihaaGreatMg30
import Derived.Test.YtmpbpeelankihaaGreatMg00
set_option maxRecDepth 100000
set_option maxHeartbeats 16000000
set_option linter.unusedVariables false
set_option linter.unusedSimpArgs false
namespace Go.Proofs.YtmpbpeelankihaaGreat
open S3 SN SP
namespace SC
abbrev Stp := Int × Int
abbrev Vlu := Bool × Stp × SD.Dd
structure Cm where
 id : Stp
 ops : List Opr
 phase : Int
 prom : Stp
 vote : Stp
 fast : Bool
 seen : SD.Dd
 bound : Stp
 has : Bool
 ballot : Stp
 val : Vlu
 ready : Bool
 writes : List Wrt
 pairs : Al Nat
def z2 : Stp := (0, 0)
def val0 : Vlu := (false, z2, [])
def newC (id : Stp) : Cm := ⟨id, [], 0, z2, z2, false, [], z2, false, z2, val0, false, [], []⟩
def timeB (v id : Stp) : Bool := S1.isS v && !S1.ltS v id
def ballotB (s : Stp) : Bool := decide (s = z2) || S1.isS s
def valueB (v : Vlu) : Bool := if v.1 = true then decide (v.2.1 = z2) && decide (v.2.2 = []) else S1.isS v.2.1 && decide (SD.checkD v.2.2 = 0)
def writesB : Option ByteArray → List Wrt → Bool
 | _, [] => true
 | o, x :: l => keyB x.1 && decide (SN.rtN x.2.1 = x.2.1) && (!x.2.2 || decide (x.2.1 = 0)) && aheadB o x.1 && writesB (some x.1) l
def seenB (c : Cm) : Bool := if c.ops = [] then decide (c.vote = z2) && !c.fast && decide (c.seen = []) else decide (checkP c.ops = 0) && (decide (c.vote = z2) || S1.isS c.vote && !S1.ltS c.vote c.id) && decide (SD.checkD c.seen = 0)
def promB (c : Cm) : Bool := ballotB c.prom && ballotB c.bound
def valB (c : Cm) : Bool := if c.has = true then ballotB c.ballot && valueB c.val else decide (c.ballot = z2) && decide (c.val = val0)
def phaseB (c : Cm) : Bool :=
 if c.phase = 0 then decide (c.ops = []) && !c.ready
 else if c.phase = 1 then !decide (c.ops = []) && !c.ready
 else if c.phase = 2 then c.has && (c.val.1 && !c.ready || !c.val.1 && !decide (c.ops = []))
 else if c.phase = 3 then c.has && c.ready && !c.val.1 && !decide (c.ops = [])
 else false
def listsB (c : Cm) : Bool := (decide (c.writes = []) || c.ready) && (decide (c.pairs = []) || decide (c.phase = 3)) && writesB none c.writes && dataB none c.pairs
def checkB (c : Cm) : Bool := S1.isS c.id && seenB c && promB c && valB c && phaseB c && listsB c
def checkC (c : Cm) : Int := if checkB c = true then 0 else 90
def decB (c : Cm) : Bool := decide (c.phase = 2) || decide (c.phase = 3)
def finB (c : Cm) : Bool := decide (c.phase = 3) || decide (c.phase = 2) && c.val.1
def proB (c : Cm) (b : Stp) : Bool := !(decB c || S1.ltS b c.prom)
def proC (c : Cm) (b : Stp) : Cm := if proB c b = true then { c with prom := b } else c
def binC (c : Cm) (b at_ : Stp) : Cm := if proB c b = true then { c with prom := b, bound := S1.maxL [c.bound, at_] } else c
def accC (c : Cm) (b : Stp) (v : Vlu) : Cm := if proB c b = true then { c with prom := b, bound := S1.maxL [c.bound, v.2.1], has := true, ballot := b, val := v } else c
def deciC (c : Cm) (ops : List Opr) (v : Vlu) : Cm := if decB c = true then c else { c with phase := 2, has := true, val := v, ops := if c.ops = [] ∧ v.1 = false then ops else c.ops }
def cW : Cod Wrt := cT.two (cN.two cB)
def cP : Cod (ByteArray × Nat) := cT.two cN
theorem cW_ok : cW.Ok := Cod.two_ok cT_ok (Cod.two_ok cN_ok cB_ok)
theorem cP_ok : cP.Ok := Cod.two_ok cT_ok cN_ok
theorem cW_pos (x : Wrt) : 1 ≤ (cW.lay x).length := by
 show 1 ≤ (S2.tx _ ++ _).length
 rw [List.length_append, S2.tx_length]
 omega
theorem cP_pos (x : ByteArray × Nat) : 1 ≤ (cP.lay x).length := by
 show 1 ≤ (S2.tx _ ++ _).length
 rw [List.length_append, S2.tx_length]
 omega
abbrev Dq := Cod (List (Int × List (Int × Int)))
def cDs : Dq := SD.cD.list.upto 8
theorem cDs_ok : cDs.Ok := Cod.upto_ok 8 (Cod.list_ok SD.cD_ok SD.cD_pos)
def cV : Cod Vlu := cB.two (cS.two cDs)
theorem cV_ok : cV.Ok := Cod.two_ok cB_ok (Cod.two_ok cS_ok cDs_ok)
abbrev CmT := Stp × List Opr × Int × Stp × Stp × Bool × SD.Dd × Stp × Bool × Stp × Vlu × Bool × List Wrt × Al Nat
def Cm.tup (c : Cm) : CmT := (c.id, c.ops, c.phase, c.prom, c.vote, c.fast, c.seen, c.bound, c.has, c.ballot, c.val, c.ready, c.writes, c.pairs)
def cmOf (t : CmT) : Cm := ⟨t.1, t.2.1, t.2.2.1, t.2.2.2.1, t.2.2.2.2.1, t.2.2.2.2.2.1, t.2.2.2.2.2.2.1, t.2.2.2.2.2.2.2.1, t.2.2.2.2.2.2.2.2.1, t.2.2.2.2.2.2.2.2.2.1, t.2.2.2.2.2.2.2.2.2.2.1, t.2.2.2.2.2.2.2.2.2.2.2.1, t.2.2.2.2.2.2.2.2.2.2.2.2.1, t.2.2.2.2.2.2.2.2.2.2.2.2.2⟩
def cC : Cod CmT := cS.two ((cO.list.upto 8).two (cI.two (cS.two (cS.two (cB.two (cDs.two (cS.two (cB.two (cS.two (cV.two (cB.two (cW.list.two cP.list))))))))))))
def layC (c : Cm) : List UInt8 := cC.lay c.tup
def parseC (B : List UInt8) : Option Cm := (parseK cC (fun t => checkC (cmOf t)) B).map cmOf
end SC
end Go.Proofs.YtmpbpeelankihaaGreat

namespace Go.Proofs.YtmpbpeelankihaaGreat
open S3 SN SP
namespace SC
open Go.ChangeShapes Go.WideShapes Go.ChangeAt Go.RowKit Go.Joins Go.Deep
def DlV (w : World) (v : Value) (d : SD.Dd) : Prop := ∃ a cap F, v = .slice a F.length cap ∧ SD.Dl w a F ∧ SD.toD F = d ∧ (a = none → cap = 0)
theorem DlV.later {w x : World} {v : Value} {d : SD.Dd} (h : DlV w v d) (hb : Below w.heap.size w x) : DlV x v d := by
 obtain ⟨a, cap, F, hv, hd, ht, hn⟩ := h
 exact ⟨a, cap, F, hv, hd.later hb, ht, hn⟩
structure Pl where
 o : Value
 s : Value
 d : Value
 w : Value
 p : Value
def cmV (c : Cm) (l : Pl) : Value := .agg #[.int .i64 c.id.1, .int .i64 c.id.2, l.o, .int .i64 c.phase, .int .i64 c.prom.1, .int .i64 c.prom.2, .int .i64 c.vote.1, .int .i64 c.vote.2, .bool c.fast, l.s, .int .i64 c.bound.1, .int .i64 c.bound.2, .bool c.has, .int .i64 c.ballot.1, .int .i64 c.ballot.2, .bool c.val.1, .int .i64 c.val.2.1.1, .int .i64 c.val.2.1.2, l.d, .bool c.ready, l.w, l.p]
structure CmAt (W : World) (c : Cm) (l : Pl) : Prop where
 o : SlG eO W l.o c.ops
 s : DlV W l.s c.seen
 d : DlV W l.d c.val.2.2
 w : SlG eW W l.w c.writes
 p : SlG eP W l.p c.pairs
theorem CmAt.later {W X : World} {c : Cm} {l : Pl} (h : CmAt W c l) (hb : Below W.heap.size W X) : CmAt X c l := ⟨h.o.later hb, h.s.later hb, h.d.later hb, h.w.later hb, h.p.later hb⟩
theorem len_none {α : Type} {l : List α} (h : l ≠ []) : decide ((0 : Int) < (l.length : Int)) = true := by
 cases l with
 | nil => exact absurd rfl h
 | cons a r => simp
theorem hasOps_any (c : Cm) (l : Pl) (W : World) (h : CmAt W c l) : Calls Tryz.prog 109 #[cmV c l] W fun e w' => e = .returned (.bool (!decide (c.ops = []))) ∧ Below W.heap.size W w' := by
 obtain ⟨⟨id1, id2⟩, ops, phase, ⟨p1, p2⟩, ⟨v1, v2⟩, fast, seen, ⟨b1, b2⟩, has, ⟨q1, q2⟩, ⟨gone, ⟨t1, t2⟩, deps⟩, ready, writes, pairs⟩ := c
 obtain ⟨lo, ls, ld, lw, lp⟩ := l
 obtain ⟨ao, co, rfl⟩ := h.o.form
 clear h
 unfold cmV
 simp only
 by_cases ho : ops = []
 ·subst ho
  go_enter Tryz.func109, Tryz.ntmps109
  go_wp2
  go_ret
  exact ⟨rfl, blAlloc (Below.refl _ _) _⟩
 ·have h1 := len_none ho
  have h2 : (!decide (ops = [])) = true := by rw [decide_eq_false ho]; rfl
  have h3 : 0 < ops.length := by cases ops with | nil => exact absurd rfl ho | cons _ _ => simp
  have h4 : decide (0 < ops.length) = true := decide_eq_true h3
  rw [h2]
  generalize ops.length = n at *
  clear h2
  go_enter Tryz.func109, Tryz.ntmps109
  go_wp2
  go_ret
  exact ⟨rfl, blAlloc (Below.refl _ _) _⟩
theorem isDecided_any (c : Cm) (l : Pl) (W : World) : Calls Tryz.prog 103 #[cmV c l] W fun e w' => e = .returned (.bool (decB c)) ∧ Below W.heap.size W w' := by
 obtain ⟨⟨id1, id2⟩, ops, phase, ⟨p1, p2⟩, ⟨v1, v2⟩, fast, seen, ⟨b1, b2⟩, has, ⟨q1, q2⟩, ⟨gone, ⟨t1, t2⟩, deps⟩, ready, writes, pairs⟩ := c
 obtain ⟨lo, ls, ld, lw, lp⟩ := l
 unfold cmV decB
 simp only
 by_cases h2 : phase = 2
 ·subst h2
  go_enter Tryz.func103, Tryz.ntmps103
  go_wp2
  go_ret
  exact ⟨rfl, blAlloc (Below.refl _ _) _⟩
 ·by_cases h3 : phase = 3
  ·subst h3
   go_enter Tryz.func103, Tryz.ntmps103
   go_wp2
   go_ret
   exact ⟨rfl, blAlloc (Below.refl _ _) _⟩
  ·have e2 : (phase == 2) = false := by simpa using h2
   have e3 : (phase == 3) = false := by simpa using h3
   rw [decide_eq_false h2, decide_eq_false h3]
   go_enter Tryz.func103, Tryz.ntmps103
   go_wp2
   go_ret
   exact ⟨rfl, blAlloc (Below.refl _ _) _⟩
theorem isZero_any (s : Stp) (W : World) : Calls Tryz.prog 145 #[.agg #[.int .i64 s.1, .int .i64 s.2]] W fun e w' => e = .returned (.bool (decide (s = z2))) ∧ Below W.heap.size W w' := by
 obtain ⟨x, y⟩ := s
 simp only
 by_cases h1 : x = 0
 ·subst h1
  by_cases h2 : y = 0
  ·subst h2
   go_enter Tryz.func145, Tryz.ntmps145
   go_wp2
   go_ret
   exact ⟨rfl, blAlloc (Below.refl _ _) _⟩
  ·have e2 : (y == 0) = false := by simpa using h2
   have e : decide (((0 : Int), y) = z2) = false := decide_eq_false (fun e => h2 (congrArg Prod.snd e))
   rw [e]
   go_enter Tryz.func145, Tryz.ntmps145
   go_wp2
   go_ret
   exact ⟨rfl, blAlloc (Below.refl _ _) _⟩
 ·have e1 : (x == 0) = false := by simpa using h1
  have e : decide ((x, y) = z2) = false := decide_eq_false (fun e => h1 (congrArg Prod.fst e))
  rw [e]
  go_enter Tryz.func145, Tryz.ntmps145
  go_wp2
  go_ret
  exact ⟨rfl, blAlloc (Below.refl _ _) _⟩
theorem rzero_any (s : Stp) (W : World) : Calls Tryz.prog 74 #[.agg #[.int .i64 s.1, .int .i64 s.2]] W fun e w' => e = .returned (.bool (decide (s = z2))) ∧ Below W.heap.size W w' := by
 obtain ⟨x, y⟩ := s
 simp only
 by_cases h1 : x = 0
 ·subst h1
  by_cases h2 : y = 0
  ·subst h2
   go_enter Tryz.func74, Tryz.ntmps74
   go_wp2
   go_ret
   exact ⟨rfl, blAlloc (Below.refl _ _) _⟩
  ·have e2 : (y == 0) = false := by simpa using h2
   have e : decide (((0 : Int), y) = z2) = false := decide_eq_false (fun e => h2 (congrArg Prod.snd e))
   rw [e]
   go_enter Tryz.func74, Tryz.ntmps74
   go_wp2
   go_ret
   exact ⟨rfl, blAlloc (Below.refl _ _) _⟩
 ·have e1 : (x == 0) = false := by simpa using h1
  have e : decide ((x, y) = z2) = false := decide_eq_false (fun e => h1 (congrArg Prod.fst e))
  rw [e]
  go_enter Tryz.func74, Tryz.ntmps74
  go_wp2
  go_ret
  exact ⟨rfl, blAlloc (Below.refl _ _) _⟩
theorem num9_any (n : Int) (w : World) : Calls Tryz.prog 17 #[.int .i64 n] w fun e w' => e = .returned (.int .i64 n) ∧ w = w' := by
 go_enter Tryz.func17, Tryz.ntmps17
 go_wp2
 go_ret
 exact ⟨rfl, rfl⟩

theorem new_blockC (w : World) (c : Array Value) (T : TypeId) : (w.alloc (.cells c T)).heap[w.heap.size]? = some (.cells c T (0, 0)) := by
 show (w.heap.push _)[w.heap.size]? = _
 rw [Array.getElem?_push_size]
theorem box_two (W : World) (x y : Value) (T : TypeId) (Y : World) (h : Below (W.alloc (.cells #[x, y] T)).heap.size (W.alloc (.cells #[x, y] T)) Y) : Y.cell? ⟨W.heap.size, 0, none⟩ = some x ∧ Y.cell? ⟨W.heap.size, 1, none⟩ = some y := by
 have hb : Y.heap[W.heap.size]? = some (.cells #[x, y] T (0, 0)) := (h.block W.heap.size (by simp)).trans (new_blockC W _ T)
 simp only [World.cell?, hb]
 exact ⟨rfl, rfl⟩
theorem below_grow {w x y : World} (h : Below w.heap.size w x) (hy : ∃ q os, y = Go.Sort.grow (x.drewN q) os) : Below w.heap.size w y := by
 obtain ⟨q, os, rfl⟩ := hy
 exact blThen h (S1.grow_below x q os)
theorem cell_box (W : World) (c : Array Value) (T : TypeId) (Y : World) (h : Below (W.alloc (.cells c T)).heap.size (W.alloc (.cells c T)) Y) (i : Nat) (v : Value) (hi : c[i]? = some v) : Y.cell? ⟨W.heap.size, i, none⟩ = some v := by
 have hb : Y.heap[W.heap.size]? = some (.cells c T (0, 0)) := (h.block W.heap.size (by simp)).trans (new_blockC W c T)
 simp only [World.cell?, hb]
 exact hi
theorem fitStamp_any (s : Stp) (W : World) : Calls Tryz.prog 68 #[.agg #[.int .i64 s.1, .int .i64 s.2]] W fun e w' => e = .returned (.bool (S1.isS s)) ∧ Below W.heap.size W w' := by
 obtain ⟨x, y⟩ := s
 simp only
 have HC := Lib.hid (cell_box W #[.int .i64 x, .int .i64 y] 23)
 cases hs : S1.isS (x, y)
 ·have hc : S1.checkS (x, y) = 10 := by unfold S1.checkS; rw [hs]; rfl
  go_enter Tryz.func68, Tryz.ntmps68
  go_wp2_with (first | (go_at_call 144; go_must (refine (S1.check_any x y _).mono ?_; rw [hc]; rintro e w1 ⟨rfl, h6⟩; have HB1 : Hid (Below W.heap.size W w1) := Lib.hid (below_grow (blAlloc (Below.refl _ _) _) h6); clear h6)))
  go_ret
  exact ⟨rfl, HB1.out⟩
 ·have hc : S1.checkS (x, y) = 0 := by unfold S1.checkS; rw [hs]; rfl
  go_enter Tryz.func68, Tryz.ntmps68
  go_wp2_with (first | (go_at_call 144; go_must (refine (S1.check_any x y _).mono ?_; rw [hc]; rintro e w1 ⟨rfl, h6⟩; have HB1 : Hid (Below W.heap.size W w1) := Lib.hid (below_grow (blAlloc (Below.refl _ _) _) h6); clear h6)))
  go_ret
  exact ⟨rfl, HB1.out⟩
theorem isBallot_any (s : Stp) (W : World) : Calls Tryz.prog 149 #[.agg #[.int .i64 s.1, .int .i64 s.2]] W fun e w' => e = .returned (.bool (ballotB s)) ∧ Below W.heap.size W w' := by
 obtain ⟨x, y⟩ := s
 simp only
 by_cases h1 : x = 0
 ·by_cases h2 : y = 0
  ·subst h1
   subst h2
   have hz : decide (((0 : Int), (0 : Int)) = z2) = true := rfl
   have hv : ballotB (0, 0) = true := by unfold ballotB; rw [hz]; rfl
   rw [hv]
   go_enter Tryz.func149, Tryz.ntmps149
   go_wp2
   go_ret
   exact ⟨rfl, blAlloc (Below.refl _ _) _⟩
  ·subst h1
   have e2 : (y == 0) = false := by simpa using h2
   have hz : decide (((0 : Int), y) = z2) = false := decide_eq_false (fun e => h2 (congrArg Prod.snd e))
   cases hs : S1.isS (0, y)
   ·have hv : ballotB (0, y) = false := by unfold ballotB; rw [hz, hs]; rfl
    rw [hv]
    go_enter Tryz.func149, Tryz.ntmps149
    go_wp2_with (first | (go_at_call 68; go_must (refine (fitStamp_any (0, y) _).mono ?_; rw [hs]; rintro e w1 ⟨rfl, h6⟩; have HB1 : Hid (Below W.heap.size W w1) := Lib.hid (blThen (blAlloc (Below.refl _ _) _) h6); clear h6)))
    go_ret
    exact ⟨rfl, HB1.out⟩
   ·have hv : ballotB (0, y) = true := by unfold ballotB; rw [hz, hs]; rfl
    rw [hv]
    go_enter Tryz.func149, Tryz.ntmps149
    go_wp2_with (first | (go_at_call 68; go_must (refine (fitStamp_any (0, y) _).mono ?_; rw [hs]; rintro e w1 ⟨rfl, h6⟩; have HB1 : Hid (Below W.heap.size W w1) := Lib.hid (blThen (blAlloc (Below.refl _ _) _) h6); clear h6)))
    go_ret
    exact ⟨rfl, HB1.out⟩
 ·have e1 : (x == 0) = false := by simpa using h1
  have hz : decide ((x, y) = z2) = false := decide_eq_false (fun e => h1 (congrArg Prod.fst e))
  cases hs : S1.isS (x, y)
  ·have hv : ballotB (x, y) = false := by unfold ballotB; rw [hz, hs]; rfl
   rw [hv]
   go_enter Tryz.func149, Tryz.ntmps149
   go_wp2_with (first | (go_at_call 68; go_must (refine (fitStamp_any (x, y) _).mono ?_; rw [hs]; rintro e w1 ⟨rfl, h6⟩; have HB1 : Hid (Below W.heap.size W w1) := Lib.hid (blThen (blAlloc (Below.refl _ _) _) h6); clear h6)))
   go_ret
   exact ⟨rfl, HB1.out⟩
  ·have hv : ballotB (x, y) = true := by unfold ballotB; rw [hz, hs]; rfl
   rw [hv]
   go_enter Tryz.func149, Tryz.ntmps149
   go_wp2_with (first | (go_at_call 68; go_must (refine (fitStamp_any (x, y) _).mono ?_; rw [hs]; rintro e w1 ⟨rfl, h6⟩; have HB1 : Hid (Below W.heap.size W w1) := Lib.hid (blThen (blAlloc (Below.refl _ _) _) h6); clear h6)))
   go_ret
   exact ⟨rfl, HB1.out⟩
theorem rballot_any (s : Stp) (W : World) : Calls Tryz.prog 35 #[.agg #[.int .i64 s.1, .int .i64 s.2]] W fun e w' => e = .returned (.bool (ballotB s)) ∧ Below W.heap.size W w' := by
 obtain ⟨x, y⟩ := s
 simp only
 cases hz : decide ((x, y) = z2)
 ·cases hs : S1.isS (x, y)
  ·have hv : ballotB (x, y) = false := by unfold ballotB; rw [hz, hs]; rfl
   rw [hv]
   go_enter Tryz.func35, Tryz.ntmps35
   go_wp2_with (first | (go_at_call 74; go_must (refine (rzero_any (x, y) _).mono ?_; rw [hz]; rintro e w1 ⟨rfl, h5⟩; obtain ⟨c0, c1⟩ := box_two W _ _ _ _ h5; have hw1 := h5.size; simp only [World.size_alloc] at hw1; have HB1 : Hid (Below W.heap.size W w1) := Lib.hid (blThen (blAlloc (Below.refl _ _) _) h5); clear h5)) | (go_at_call 28; go_must (refine (S1.is_any x y _).mono ?_; rintro e w2 ⟨rfl, h6⟩; rw [hs]; have HB2 : Hid (Below W.heap.size W w2) := Lib.hid (below_grow HB1.out h6); clear h6)))
   go_ret
   exact ⟨rfl, HB2.out⟩
  ·have hv : ballotB (x, y) = true := by unfold ballotB; rw [hz, hs]; rfl
   rw [hv]
   go_enter Tryz.func35, Tryz.ntmps35
   go_wp2_with (first | (go_at_call 74; go_must (refine (rzero_any (x, y) _).mono ?_; rw [hz]; rintro e w1 ⟨rfl, h5⟩; obtain ⟨c0, c1⟩ := box_two W _ _ _ _ h5; have hw1 := h5.size; simp only [World.size_alloc] at hw1; have HB1 : Hid (Below W.heap.size W w1) := Lib.hid (blThen (blAlloc (Below.refl _ _) _) h5); clear h5)) | (go_at_call 28; go_must (refine (S1.is_any x y _).mono ?_; rintro e w2 ⟨rfl, h6⟩; rw [hs]; have HB2 : Hid (Below W.heap.size W w2) := Lib.hid (below_grow HB1.out h6); clear h6)))
   go_ret
   exact ⟨rfl, HB2.out⟩
 ·have hv : ballotB (x, y) = true := by unfold ballotB; rw [hz]; rfl
  rw [hv]
  go_enter Tryz.func35, Tryz.ntmps35
  go_wp2_with (first | (go_at_call 74; go_must (refine (rzero_any (x, y) _).mono ?_; rw [hz]; rintro e w1 ⟨rfl, h5⟩; obtain ⟨c0, c1⟩ := box_two W _ _ _ _ h5; have hw1 := h5.size; simp only [World.size_alloc] at hw1; have HB1 : Hid (Below W.heap.size W w1) := Lib.hid (blThen (blAlloc (Below.refl _ _) _) h5); clear h5)))
  go_ret
  exact ⟨rfl, HB1.out⟩
theorem promises_any (c : Cm) (l : Pl) (W : World) : Calls Tryz.prog 70 #[cmV c l] W fun e w' => e = .returned (.bool (promB c)) ∧ Below W.heap.size W w' := by
 obtain ⟨⟨id1, id2⟩, ops, phase, ⟨p1, p2⟩, ⟨v1, v2⟩, fast, seen, ⟨b1, b2⟩, has, ⟨q1, q2⟩, ⟨gone, ⟨t1, t2⟩, deps⟩, ready, writes, pairs⟩ := c
 obtain ⟨lo, ls, ld, lw, lp⟩ := l
 unfold cmV promB
 simp only
 have HC := Lib.hid (cell_box W #[.int .i64 id1, .int .i64 id2, lo, .int .i64 phase, .int .i64 p1, .int .i64 p2, .int .i64 v1, .int .i64 v2, .bool fast, ls, .int .i64 b1, .int .i64 b2, .bool has, .int .i64 q1, .int .i64 q2, .bool gone, .int .i64 t1, .int .i64 t2, ld, .bool ready, lw, lp] 31)
 have HA := Lib.hid (isBallot_any (p1, p2))
 have HB := Lib.hid (isBallot_any (b1, b2))
 cases ha : ballotB (p1, p2)
 ·rw [ha] at HA
  rw [Bool.false_and]
  go_enter Tryz.func70, Tryz.ntmps70
  go_wp2_with (go_at_call 149; go_must (refine (HA.out _).mono ?_; rintro e w1 ⟨rfl, h5⟩; have HB1 : Hid (Below W.heap.size W w1) := Lib.hid (blThen (blAlloc (Below.refl _ _) _) h5); clear h5))
  go_ret
  exact ⟨rfl, HB1.out⟩
 ·rw [ha] at HA
  rw [Bool.true_and]
  generalize ballotB (b1, b2) = vb at *
  go_enter Tryz.func70, Tryz.ntmps70
  go_wp2_with (first
   | (have htok := HB1; clear htok; go_at_call 149; go_must (refine (HB.out _).mono ?_; rintro e w2 ⟨rfl, h6⟩; have HB2 : Hid (Below W.heap.size W w2) := Lib.hid (blThen HB1.out h6); clear h6))
   | (go_at_call 149; go_must (refine (HA.out _).mono ?_; rintro e w1 ⟨rfl, h5⟩; have c10 := HC.out _ h5 10 _ rfl; have c11 := HC.out _ h5 11 _ rfl; have hw1 := h5.size; simp only [World.size_alloc] at hw1; have HB1 : Hid (Below W.heap.size W w1) := Lib.hid (blThen (blAlloc (Below.refl _ _) _) h5); clear h5)))
  go_ret
  exact ⟨rfl, HB2.out⟩

def voteB (v id : Stp) : Bool := decide (v = z2) || S1.isS v && !S1.ltS v id
theorem cmp_ge (x y a b : Int) : decide (0 ≤ S1.cmpS x y a b) = !S1.ltS (x, y) (a, b) := by
 have h := S1.cmpS_neg x y a b
 cases hl : S1.ltS (x, y) (a, b)
 ·rw [decide_eq_true]
  ·rfl
  ·have : ¬ S1.cmpS x y a b < 0 := fun h2 => by rw [hl] at h; exact absurd (h.1 h2) (by decide)
   omega
 ·rw [decide_eq_false]
  ·rfl
  ·have := h.2 hl
   omega
theorem new_cells (W : World) (x y : Int) : (W.alloc (.cells #[.int .i64 x, .int .i64 y] 23)).cell? ⟨W.heap.size, 0, none⟩ = some (.int .i64 x) ∧ (W.alloc (.cells #[.int .i64 x, .int .i64 y] 23)).cell? ⟨W.heap.size, 1, none⟩ = some (.int .i64 y) := box_two W _ _ _ _ (Below.refl _ _)
theorem new_cells1 (W : World) (o : Obj) (x y : Int) : ((W.alloc o).alloc (.cells #[.int .i64 x, .int .i64 y] 23)).cell? ⟨W.heap.size + 1, 0, none⟩ = some (.int .i64 x) ∧ ((W.alloc o).alloc (.cells #[.int .i64 x, .int .i64 y] 23)).cell? ⟨W.heap.size + 1, 1, none⟩ = some (.int .i64 y) := by
 have h := new_cells (W.alloc o) x y
 have e : (W.alloc o).heap.size = W.heap.size + 1 := by simp
 rw [e] at h
 exact h
theorem fitTime_any (v id : Stp) (W : World) : Calls Tryz.prog 147 #[.agg #[.int .i64 v.1, .int .i64 v.2], .agg #[.int .i64 id.1, .int .i64 id.2]] W fun e w' => e = .returned (.bool (timeB v id)) ∧ Below W.heap.size W w' := by
 obtain ⟨x, y⟩ := v
 obtain ⟨a, b⟩ := id
 simp only
 have HC := Lib.hid (fun (Y : World) (h : Below ((W.alloc (.cells #[.int .i64 x, .int .i64 y] 23)).alloc (.cells #[.int .i64 a, .int .i64 b] 23)).heap.size ((W.alloc (.cells #[.int .i64 x, .int .i64 y] 23)).alloc (.cells #[.int .i64 a, .int .i64 b] 23)) Y) => (⟨cell_in h (by simp; omega) (S2.alloc_cell (new_cells W x y).1 _), cell_in h (by simp; omega) (S2.alloc_cell (new_cells W x y).2 _), cell_in h (by simp) (new_cells1 W _ a b).1, cell_in h (by simp) (new_cells1 W _ a b).2⟩ : Y.cell? ⟨W.heap.size, 0, none⟩ = some (.int .i64 x) ∧ Y.cell? ⟨W.heap.size, 1, none⟩ = some (.int .i64 y) ∧ Y.cell? ⟨W.heap.size + 1, 0, none⟩ = some (.int .i64 a) ∧ Y.cell? ⟨W.heap.size + 1, 1, none⟩ = some (.int .i64 b)))
 have HB0 : Hid (Below W.heap.size W ((W.alloc (.cells #[.int .i64 x, .int .i64 y] 23)).alloc (.cells #[.int .i64 a, .int .i64 b] 23))) := Lib.hid (blAlloc (blAlloc (Below.refl _ _) _) _)
 cases hs : S1.isS (x, y)
 ·have hv : timeB (x, y) (a, b) = false := by unfold timeB; rw [hs]; rfl
  rw [hv]
  go_enter Tryz.func147, Tryz.ntmps147
  go_wp2_with (first | (go_at_call 68; go_must (refine (fitStamp_any (x, y) _).mono ?_; rw [hs]; rintro e w1 ⟨rfl, h5⟩; have HY1 := Lib.hid h5; obtain ⟨c0, c1, c2, c3⟩ := HC.out _ h5; have hw1 := h5.size; simp only [World.size_alloc] at hw1; have HB1 : Hid (Below W.heap.size W w1) := Lib.hid (blThen HB0.out h5); clear h5)))
  go_ret
  exact ⟨rfl, HB1.out⟩
 ·have hg := cmp_ge x y a b
  cases hl : S1.ltS (x, y) (a, b)
  ·have hv : timeB (x, y) (a, b) = true := by unfold timeB; rw [hs, hl]; rfl
   rw [hv]
   rw [hl] at hg
   have HG := Lib.hid hg
   have hg2 : ¬ S1.cmpS x y a b < 0 := by have := of_decide_eq_true hg; omega
   have hg3 : 0 ≤ S1.cmpS x y a b := of_decide_eq_true hg
   generalize hK : S1.cmpS x y a b = K at *
   have HK := Lib.hid hK
   clear hK
   go_enter Tryz.func147, Tryz.ntmps147
   go_wp2_with (first | (go_at_call 68; go_must (refine (fitStamp_any (x, y) _).mono ?_; rw [hs]; rintro e w1 ⟨rfl, h5⟩; have HY1 := Lib.hid h5; obtain ⟨c0, c1, c2, c3⟩ := HC.out _ h5; have hw1 := h5.size; simp only [World.size_alloc] at hw1; have HB1 : Hid (Below W.heap.size W w1) := Lib.hid (blThen HB0.out h5); clear h5)) | (go_at_call 104; go_must (refine (S1.compare_any x y a b _).mono ?_; rw [HK.out]; rintro e w3 ⟨rfl, h7⟩; have HB2 : Hid (Below W.heap.size W w3) := Lib.hid (blThen HB1.out h7); clear h7)))
   go_ret
   exact ⟨rfl, HB2.out⟩
  ·have hv : timeB (x, y) (a, b) = false := by unfold timeB; rw [hs, hl]; rfl
   rw [hv]
   rw [hl] at hg
   have hg3 : ¬ 0 ≤ S1.cmpS x y a b := of_decide_eq_false hg
   generalize hK : S1.cmpS x y a b = K at *
   have HK := Lib.hid hK
   clear hK
   go_enter Tryz.func147, Tryz.ntmps147
   go_wp2_with (first | (go_at_call 68; go_must (refine (fitStamp_any (x, y) _).mono ?_; rw [hs]; rintro e w1 ⟨rfl, h5⟩; have HY1 := Lib.hid h5; obtain ⟨c0, c1, c2, c3⟩ := HC.out _ h5; have hw1 := h5.size; simp only [World.size_alloc] at hw1; have HB1 : Hid (Below W.heap.size W w1) := Lib.hid (blThen HB0.out h5); clear h5)) | (go_at_call 104; go_must (refine (S1.compare_any x y a b _).mono ?_; rw [HK.out]; rintro e w3 ⟨rfl, h7⟩; have HB2 : Hid (Below W.heap.size W w3) := Lib.hid (blThen HB1.out h7); clear h7)))
   go_ret
   exact ⟨rfl, HB2.out⟩
end SC
end Go.Proofs.YtmpbpeelankihaaGreat

namespace Go.Proofs.YtmpbpeelankihaaGreat
open S3 SN SP
namespace SC
theorem lt_irr (x : Stp) : S1.ltS x x = false := by rw [S1.ltS_not]; omega
theorem lt_z2 {x : Stp} (h : S1.isS x = true) : S1.ltS x z2 = false := by
 unfold S1.isS at h
 rw [S1.ltS_not]
 simp only [z2]
 simp at h
 omega
theorem maxL2 (x y : Stp) : S1.maxL [x, y] = x ∨ S1.maxL [x, y] = y := by
 have := S1.maxL_mem [x, y] (by simp)
 simpa using this
structure Grow9 (c x : Cm) : Prop where
 may : checkB x = true
 id : x.id = c.id
 phase : c.phase ≤ x.phase
 prom : S1.ltS x.prom c.prom = false
 bound : S1.ltS x.bound c.bound = false
 seen : c.ops ≠ [] → x.vote = c.vote ∧ x.fast = c.fast ∧ x.ops = c.ops
 val : 2 ≤ c.phase → x.val = c.val
 fin : finB c = true → x = c
theorem Grow9.refl {c : Cm} (h : checkB c = true) : Grow9 c c := ⟨h, rfl, Int.le_refl _, lt_irr _, lt_irr _, fun _ => ⟨rfl, rfl, rfl⟩, fun _ => rfl, fun _ => rfl⟩
end SC
end Go.Proofs.YtmpbpeelankihaaGreat
