/- The arguments of this stage's laws, opened: ops, writes, pairs, values, commands that came in, with the reach of their texts. Conditions: none. -/
import Derived.WalkSpells
import Derived.SizedLaws
import Derived.Test.YtgipkikedacmdaaGreatMg46
import Derived.Test.YtgipkikedacmdaaGreatMg39
import Derived.Test.YtgipkikedacmdaaGreatMg00
import Derived.Test.YtgipkikedacmdaaGreatMg30
import Derived.Test.YtgipkikedacmdaaGreatMg36
import Derived.Test.YtgipkikedacmdaaGreatMg11
set_option maxRecDepth 100000
set_option maxHeartbeats 16000000
set_option linter.unusedVariables false
set_option linter.unusedSimpArgs false
namespace Go.Proofs.YtgipkikedacmdaaGreat
open S3 SN SP
namespace SC
abbrev Stp := Int × Int
abbrev Vlu := Bool × Stp × SD.Dd
structure Cm where
 id : Stp
 ops : List Opr
 phase : Int
 prom : Stp
 vote : Stp
 fast : Bool
 seen : SD.Dd
 bound : Stp
 has : Bool
 ballot : Stp
 val : Vlu
 ready : Bool
 writes : List Wrt
 pairs : Al Nat
def z2 : Stp := (0, 0)
def val0 : Vlu := (false, z2, [])
def timeB (v id : Stp) : Bool := S1.isS v && !S1.ltS v id
def ballotB (s : Stp) : Bool := decide (s = z2) || S1.isS s
def valueB (v : Vlu) : Bool := if v.1 = true then decide (v.2.1 = z2) && decide (v.2.2 = []) else S1.isS v.2.1 && decide (SD.checkD v.2.2 = 0)
def writesB : Option ByteArray → List Wrt → Bool
 | _, [] => true
 | o, x :: l => keyB x.1 && decide (SN.rtN x.2.1 = x.2.1) && (!x.2.2 || decide (x.2.1 = 0)) && aheadB o x.1 && writesB (some x.1) l
def seenB (c : Cm) : Bool := if c.ops = [] then decide (c.vote = z2) && !c.fast && decide (c.seen = []) else decide (checkP c.ops = 0) && (decide (c.vote = z2) || S1.isS c.vote && !S1.ltS c.vote c.id) && decide (SD.checkD c.seen = 0)
def promB (c : Cm) : Bool := ballotB c.prom && ballotB c.bound
def valB (c : Cm) : Bool := if c.has = true then ballotB c.ballot && valueB c.val else decide (c.ballot = z2) && decide (c.val = val0)
def phaseB (c : Cm) : Bool :=
 if c.phase = 0 then decide (c.ops = []) && !c.ready
 else if c.phase = 1 then !decide (c.ops = []) && !c.ready
 else if c.phase = 2 then c.has && (c.val.1 && !c.ready || !c.val.1 && !decide (c.ops = []))
 else if c.phase = 3 then c.has && c.ready && !c.val.1 && !decide (c.ops = [])
 else false
def listsB (c : Cm) : Bool := (decide (c.writes = []) || c.ready) && (decide (c.pairs = []) || decide (c.phase = 3)) && writesB none c.writes && dataB none c.pairs
def checkB (c : Cm) : Bool := S1.isS c.id && seenB c && promB c && valB c && phaseB c && listsB c
theorem deps_none : SD.checkD [] = 0 := by decide +kernel
def finB (c : Cm) : Bool := decide (c.phase = 3) || decide (c.phase = 2) && c.val.1
def cW : Cod Wrt := cT.two (cN.two cB)
def cP : Cod (ByteArray × Nat) := cT.two cN
theorem cW_ok : cW.Ok := Cod.two_ok cT_ok (Cod.two_ok cN_ok cB_ok)
theorem cP_ok : cP.Ok := Cod.two_ok cT_ok cN_ok
theorem cW_pos (x : Wrt) : 1 ≤ (cW.lay x).length := by
 show 1 ≤ (S2.tx _ ++ _).length
 rw [List.length_append, S2.tx_length]
 omega
theorem cP_pos (x : ByteArray × Nat) : 1 ≤ (cP.lay x).length := by
 show 1 ≤ (S2.tx _ ++ _).length
 rw [List.length_append, S2.tx_length]
 omega
abbrev Dq := Cod (List (Int × List (Int × Int)))
def cDs : Dq := SD.cD.list.upto 8
theorem cDs_ok : cDs.Ok := Cod.upto_ok 8 (Cod.list_ok SD.cD_ok SD.cD_pos)
def cV : Cod Vlu := cB.two (cS.two cDs)
theorem cV_ok : cV.Ok := Cod.two_ok cB_ok (Cod.two_ok cS_ok cDs_ok)
abbrev CmT := Stp × List Opr × Int × Stp × Stp × Bool × SD.Dd × Stp × Bool × Stp × Vlu × Bool × List Wrt × Al Nat
def Cm.tup (c : Cm) : CmT := (c.id, c.ops, c.phase, c.prom, c.vote, c.fast, c.seen, c.bound, c.has, c.ballot, c.val, c.ready, c.writes, c.pairs)
end SC
end Go.Proofs.YtgipkikedacmdaaGreat

namespace Go.Proofs.YtgipkikedacmdaaGreat
open S3 SN SP
namespace SC
open Go.ChangeShapes Go.WideShapes Go.ChangeAt Go.RowKit Go.Joins Go.Deep
def DlV (w : World) (v : Value) (d : SD.Dd) : Prop := ∃ a cap F, v = .slice a F.length cap ∧ SD.Dl w a F ∧ SD.toD F = d ∧ (a = none → cap = 0)
theorem DlV.later {w x : World} {v : Value} {d : SD.Dd} (h : DlV w v d) (hb : Below w.heap.size w x) : DlV x v d := by
 obtain ⟨a, cap, F, hv, hd, ht, hn⟩ := h
 exact ⟨a, cap, F, hv, hd.later hb, ht, hn⟩
structure Pl where
 o : Value
 s : Value
 d : Value
 w : Value
 p : Value
structure CmAt (W : World) (c : Cm) (l : Pl) : Prop where
 o : SlG eO W l.o c.ops
 s : DlV W l.s c.seen
 d : DlV W l.d c.val.2.2
 w : SlG eW W l.w c.writes
 p : SlG eP W l.p c.pairs
theorem CmAt.later {W X : World} {c : Cm} {l : Pl} (h : CmAt W c l) (hb : Below W.heap.size W X) : CmAt X c l := ⟨h.o.later hb, h.s.later hb, h.d.later hb, h.w.later hb, h.p.later hb⟩

theorem new_blockC (w : World) (c : Array Value) (T : TypeId) : (w.alloc (.cells c T)).heap[w.heap.size]? = some (.cells c T (0, 0)) := by
 show (w.heap.push _)[w.heap.size]? = _
 rw [Array.getElem?_push_size]
theorem box_two (W : World) (x y : Value) (T : TypeId) (Y : World) (h : Below (W.alloc (.cells #[x, y] T)).heap.size (W.alloc (.cells #[x, y] T)) Y) : Y.cell? ⟨W.heap.size, 0, none⟩ = some x ∧ Y.cell? ⟨W.heap.size, 1, none⟩ = some y := by
 have hb : Y.heap[W.heap.size]? = some (.cells #[x, y] T (0, 0)) := (h.block W.heap.size (by simp)).trans (new_blockC W _ T)
 simp only [World.cell?, hb]
 exact ⟨rfl, rfl⟩
theorem below_grow {w x y : World} (h : Below w.heap.size w x) (hy : ∃ q os, y = Go.Sort.grow (x.drewN q) os) : Below w.heap.size w y := by
 obtain ⟨q, os, rfl⟩ := hy
 exact blThen h (S1.grow_below x q os)
theorem cell_box (W : World) (c : Array Value) (T : TypeId) (Y : World) (h : Below (W.alloc (.cells c T)).heap.size (W.alloc (.cells c T)) Y) (i : Nat) (v : Value) (hi : c[i]? = some v) : Y.cell? ⟨W.heap.size, i, none⟩ = some v := by
 have hb : Y.heap[W.heap.size]? = some (.cells c T (0, 0)) := (h.block W.heap.size (by simp)).trans (new_blockC W c T)
 simp only [World.cell?, hb]
 exact hi
theorem fitStamp_any (s : Stp) (W : World) : Calls Tryz.prog 50 #[.agg #[.int .i64 s.1, .int .i64 s.2]] W fun e w' => e = .returned (.bool (S1.isS s)) ∧ Below W.heap.size W w' := by
 obtain ⟨x, y⟩ := s
 simp only
 have HC := Lib.hid (cell_box W #[.int .i64 x, .int .i64 y] 23)
 cases hs : S1.isS (x, y)
 ·have hc : S1.checkS (x, y) = 10 := by unfold S1.checkS; rw [hs]; rfl
  go_enter Tryz.func50, Tryz.ntmps50
  go_wp2_with (first | (go_at_call 131; go_must (refine (S1.check_any x y _).mono ?_; rw [hc]; rintro e w1 ⟨rfl, h6⟩; have HB1 : Hid (Below W.heap.size W w1) := Lib.hid (below_grow (blAlloc (Below.refl _ _) _) h6); clear h6)))
  go_ret
  exact ⟨rfl, HB1.out⟩
 ·have hc : S1.checkS (x, y) = 0 := by unfold S1.checkS; rw [hs]; rfl
  go_enter Tryz.func50, Tryz.ntmps50
  go_wp2_with (first | (go_at_call 131; go_must (refine (S1.check_any x y _).mono ?_; rw [hc]; rintro e w1 ⟨rfl, h6⟩; have HB1 : Hid (Below W.heap.size W w1) := Lib.hid (below_grow (blAlloc (Below.refl _ _) _) h6); clear h6)))
  go_ret
  exact ⟨rfl, HB1.out⟩
theorem isBallot_any (s : Stp) (W : World) : Calls Tryz.prog 136 #[.agg #[.int .i64 s.1, .int .i64 s.2]] W fun e w' => e = .returned (.bool (ballotB s)) ∧ Below W.heap.size W w' := by
 obtain ⟨x, y⟩ := s
 simp only
 by_cases h1 : x = 0
 ·by_cases h2 : y = 0
  ·subst h1
   subst h2
   have hz : decide (((0 : Int), (0 : Int)) = z2) = true := rfl
   have hv : ballotB (0, 0) = true := by unfold ballotB; rw [hz]; rfl
   rw [hv]
   go_enter Tryz.func136, Tryz.ntmps136
   go_wp2
   go_ret
   exact ⟨rfl, blAlloc (Below.refl _ _) _⟩
  ·subst h1
   have e2 : (y == 0) = false := by simpa using h2
   have hz : decide (((0 : Int), y) = z2) = false := decide_eq_false (fun e => h2 (congrArg Prod.snd e))
   cases hs : S1.isS (0, y)
   ·have hv : ballotB (0, y) = false := by unfold ballotB; rw [hz, hs]; rfl
    rw [hv]
    go_enter Tryz.func136, Tryz.ntmps136
    go_wp2_with (first | (go_at_call 50; go_must (refine (fitStamp_any (0, y) _).mono ?_; rw [hs]; rintro e w1 ⟨rfl, h6⟩; have HB1 : Hid (Below W.heap.size W w1) := Lib.hid (blThen (blAlloc (Below.refl _ _) _) h6); clear h6)))
    go_ret
    exact ⟨rfl, HB1.out⟩
   ·have hv : ballotB (0, y) = true := by unfold ballotB; rw [hz, hs]; rfl
    rw [hv]
    go_enter Tryz.func136, Tryz.ntmps136
    go_wp2_with (first | (go_at_call 50; go_must (refine (fitStamp_any (0, y) _).mono ?_; rw [hs]; rintro e w1 ⟨rfl, h6⟩; have HB1 : Hid (Below W.heap.size W w1) := Lib.hid (blThen (blAlloc (Below.refl _ _) _) h6); clear h6)))
    go_ret
    exact ⟨rfl, HB1.out⟩
 ·have e1 : (x == 0) = false := by simpa using h1
  have hz : decide ((x, y) = z2) = false := decide_eq_false (fun e => h1 (congrArg Prod.fst e))
  cases hs : S1.isS (x, y)
  ·have hv : ballotB (x, y) = false := by unfold ballotB; rw [hz, hs]; rfl
   rw [hv]
   go_enter Tryz.func136, Tryz.ntmps136
   go_wp2_with (first | (go_at_call 50; go_must (refine (fitStamp_any (x, y) _).mono ?_; rw [hs]; rintro e w1 ⟨rfl, h6⟩; have HB1 : Hid (Below W.heap.size W w1) := Lib.hid (blThen (blAlloc (Below.refl _ _) _) h6); clear h6)))
   go_ret
   exact ⟨rfl, HB1.out⟩
  ·have hv : ballotB (x, y) = true := by unfold ballotB; rw [hz, hs]; rfl
   rw [hv]
   go_enter Tryz.func136, Tryz.ntmps136
   go_wp2_with (first | (go_at_call 50; go_must (refine (fitStamp_any (x, y) _).mono ?_; rw [hs]; rintro e w1 ⟨rfl, h6⟩; have HB1 : Hid (Below W.heap.size W w1) := Lib.hid (blThen (blAlloc (Below.refl _ _) _) h6); clear h6)))
   go_ret
   exact ⟨rfl, HB1.out⟩

theorem cmp_ge (x y a b : Int) : decide (0 ≤ S1.cmpS x y a b) = !S1.ltS (x, y) (a, b) := by
 have h := S1.cmpS_neg x y a b
 cases hl : S1.ltS (x, y) (a, b)
 ·rw [decide_eq_true]
  ·rfl
  ·have : ¬ S1.cmpS x y a b < 0 := fun h2 => by rw [hl] at h; exact absurd (h.1 h2) (by decide)
   omega
 ·rw [decide_eq_false]
  ·rfl
  ·have := h.2 hl
   omega
theorem new_cells (W : World) (x y : Int) : (W.alloc (.cells #[.int .i64 x, .int .i64 y] 23)).cell? ⟨W.heap.size, 0, none⟩ = some (.int .i64 x) ∧ (W.alloc (.cells #[.int .i64 x, .int .i64 y] 23)).cell? ⟨W.heap.size, 1, none⟩ = some (.int .i64 y) := box_two W _ _ _ _ (Below.refl _ _)
theorem new_cells1 (W : World) (o : Obj) (x y : Int) : ((W.alloc o).alloc (.cells #[.int .i64 x, .int .i64 y] 23)).cell? ⟨W.heap.size + 1, 0, none⟩ = some (.int .i64 x) ∧ ((W.alloc o).alloc (.cells #[.int .i64 x, .int .i64 y] 23)).cell? ⟨W.heap.size + 1, 1, none⟩ = some (.int .i64 y) := by
 have h := new_cells (W.alloc o) x y
 have e : (W.alloc o).heap.size = W.heap.size + 1 := by simp
 rw [e] at h
 exact h
theorem fitTime_any (v id : Stp) (W : World) : Calls Tryz.prog 134 #[.agg #[.int .i64 v.1, .int .i64 v.2], .agg #[.int .i64 id.1, .int .i64 id.2]] W fun e w' => e = .returned (.bool (timeB v id)) ∧ Below W.heap.size W w' := by
 obtain ⟨x, y⟩ := v
 obtain ⟨a, b⟩ := id
 simp only
 have HC := Lib.hid (fun (Y : World) (h : Below ((W.alloc (.cells #[.int .i64 x, .int .i64 y] 23)).alloc (.cells #[.int .i64 a, .int .i64 b] 23)).heap.size ((W.alloc (.cells #[.int .i64 x, .int .i64 y] 23)).alloc (.cells #[.int .i64 a, .int .i64 b] 23)) Y) => (⟨cell_in h (by simp; omega) (S2.alloc_cell (new_cells W x y).1 _), cell_in h (by simp; omega) (S2.alloc_cell (new_cells W x y).2 _), cell_in h (by simp) (new_cells1 W _ a b).1, cell_in h (by simp) (new_cells1 W _ a b).2⟩ : Y.cell? ⟨W.heap.size, 0, none⟩ = some (.int .i64 x) ∧ Y.cell? ⟨W.heap.size, 1, none⟩ = some (.int .i64 y) ∧ Y.cell? ⟨W.heap.size + 1, 0, none⟩ = some (.int .i64 a) ∧ Y.cell? ⟨W.heap.size + 1, 1, none⟩ = some (.int .i64 b)))
 have HB0 : Hid (Below W.heap.size W ((W.alloc (.cells #[.int .i64 x, .int .i64 y] 23)).alloc (.cells #[.int .i64 a, .int .i64 b] 23))) := Lib.hid (blAlloc (blAlloc (Below.refl _ _) _) _)
 cases hs : S1.isS (x, y)
 ·have hv : timeB (x, y) (a, b) = false := by unfold timeB; rw [hs]; rfl
  rw [hv]
  go_enter Tryz.func134, Tryz.ntmps134
  go_wp2_with (first | (go_at_call 50; go_must (refine (fitStamp_any (x, y) _).mono ?_; rw [hs]; rintro e w1 ⟨rfl, h5⟩; have HY1 := Lib.hid h5; obtain ⟨c0, c1, c2, c3⟩ := HC.out _ h5; have hw1 := h5.size; simp only [World.size_alloc] at hw1; have HB1 : Hid (Below W.heap.size W w1) := Lib.hid (blThen HB0.out h5); clear h5)))
  go_ret
  exact ⟨rfl, HB1.out⟩
 ·have hg := cmp_ge x y a b
  cases hl : S1.ltS (x, y) (a, b)
  ·have hv : timeB (x, y) (a, b) = true := by unfold timeB; rw [hs, hl]; rfl
   rw [hv]
   rw [hl] at hg
   have HG := Lib.hid hg
   have hg2 : ¬ S1.cmpS x y a b < 0 := by have := of_decide_eq_true hg; omega
   have hg3 : 0 ≤ S1.cmpS x y a b := of_decide_eq_true hg
   generalize hK : S1.cmpS x y a b = K at *
   have HK := Lib.hid hK
   clear hK
   go_enter Tryz.func134, Tryz.ntmps134
   go_wp2_with (first | (go_at_call 50; go_must (refine (fitStamp_any (x, y) _).mono ?_; rw [hs]; rintro e w1 ⟨rfl, h5⟩; have HY1 := Lib.hid h5; obtain ⟨c0, c1, c2, c3⟩ := HC.out _ h5; have hw1 := h5.size; simp only [World.size_alloc] at hw1; have HB1 : Hid (Below W.heap.size W w1) := Lib.hid (blThen HB0.out h5); clear h5)) | (go_at_call 120; go_must (refine (S1.compare_any x y a b _).mono ?_; rw [HK.out]; rintro e w3 ⟨rfl, h7⟩; have HB2 : Hid (Below W.heap.size W w3) := Lib.hid (blThen HB1.out h7); clear h7)))
   go_ret
   exact ⟨rfl, HB2.out⟩
  ·have hv : timeB (x, y) (a, b) = false := by unfold timeB; rw [hs, hl]; rfl
   rw [hv]
   rw [hl] at hg
   have hg3 : ¬ 0 ≤ S1.cmpS x y a b := of_decide_eq_false hg
   generalize hK : S1.cmpS x y a b = K at *
   have HK := Lib.hid hK
   clear hK
   go_enter Tryz.func134, Tryz.ntmps134
   go_wp2_with (first | (go_at_call 50; go_must (refine (fitStamp_any (x, y) _).mono ?_; rw [hs]; rintro e w1 ⟨rfl, h5⟩; have HY1 := Lib.hid h5; obtain ⟨c0, c1, c2, c3⟩ := HC.out _ h5; have hw1 := h5.size; simp only [World.size_alloc] at hw1; have HB1 : Hid (Below W.heap.size W w1) := Lib.hid (blThen HB0.out h5); clear h5)) | (go_at_call 120; go_must (refine (S1.compare_any x y a b _).mono ?_; rw [HK.out]; rintro e w3 ⟨rfl, h7⟩; have HB2 : Hid (Below W.heap.size W w3) := Lib.hid (blThen HB1.out h7); clear h7)))
   go_ret
   exact ⟨rfl, HB2.out⟩
end SC
end Go.Proofs.YtgipkikedacmdaaGreat

namespace Go.Proofs.YtgipkikedacmdaaGreat
open S3 SC SN SP
namespace SI
structure Mg where
 kind : Int
 frm : Int
 dst : Int
 id : Stp
 bal : Stp
 at_ : Stp
 ops : List Opr
 fast : Bool
 deps : SD.Dd
 has : Bool
 acc : Stp
 val : Vlu
 writes : List Wrt
 pairs : Al Nat
def mg0 : Mg := ⟨0, 0, 0, z2, z2, z2, [], false, [], false, z2, val0, [], []⟩
def nodeB (n : Int) : Bool := decide (1 ≤ n) && decide (n ≤ 7)
def accB (m : Mg) : Bool := if m.has = true then ballotB m.acc && valueB m.val else decide (m.acc = z2) && decide (m.val = val0)
def fitsB (m : Mg) (c : Int) : Bool :=
 if c = 97 then timeB m.at_ m.id
 else if c = 65 then decide (m.at_ = z2) || timeB m.at_ m.id
 else if c = 98 then ballotB m.bal
 else if c = 66 then S1.isS m.bal
 else if c = 100 then decide (SD.checkD m.deps = 0)
 else if c = 104 then accB m
 else if c = 111 then decide (checkP m.ops = 0)
 else if c = 103 then decide (checkP m.ops = 0) || m.val.1 && decide (m.ops = [])
 else if c = 79 then decide (checkP m.ops = 0) || decide (m.ops = [])
 else if c = 112 then dataB none m.pairs
 else if c = 118 then valueB m.val
 else if c = 86 then valueB m.val && !m.val.1
 else if c = 119 then writesB none m.writes
 else decide (c = 102)
def lessM (m : Mg) (c : Int) : Mg :=
 if c = 97 ∨ c = 65 then { m with at_ := z2 }
 else if c = 98 ∨ c = 66 then { m with bal := z2 }
 else if c = 100 then { m with deps := [] }
 else if c = 102 then { m with fast := false }
 else if c = 104 then { m with has := false, acc := z2, val := val0 }
 else if c = 111 ∨ c = 103 ∨ c = 79 then { m with ops := [] }
 else if c = 112 then { m with pairs := [] }
 else if c = 118 ∨ c = 86 then { m with val := val0 }
 else if c = 119 then { m with writes := [] }
 else m
def bareB (m : Mg) : Bool := decide (m.bal = z2) && decide (m.at_ = z2) && decide (m.acc = z2) && !m.fast && !m.has && decide (m.val = val0) && decide (m.ops = [] ∧ m.deps = [] ∧ m.writes = [] ∧ m.pairs = [])
def rowOf (k : Int) : Option (List Int) :=
 if k = 1 then some [111] else if k = 2 then some [97, 102, 100] else if k = 3 then some [98, 97, 111] else if k = 4 then some [98, 100] else if k = 5 then some [98, 118, 103]
 else if k = 6 then some [98] else if k = 14 then some [98] else if k = 7 then some [118, 103] else if k = 15 then some [118, 103] else if k = 8 then some [66, 79] else if k = 9 then some [66, 79, 65, 102, 100, 104]
 else if k = 10 then some [86, 111] else if k = 11 then some [112] else if k = 12 then some [86, 111, 119] else if k = 13 then some [] else if k = 16 then some [] else if k = 17 then some [] else none
def checkMB (m : Mg) : Bool :=
 match rowOf m.kind with
 | none => false
 | some L => nodeB m.frm && nodeB m.dst && S1.isS m.id && L.all (fitsB m) && bareB (L.foldl lessM m)
def checkM (m : Mg) : Int := if checkMB m = true then 0 else 130
structure NiceM (m : Mg) : Prop where
 kind : 1 ≤ m.kind ∧ m.kind ≤ 17
 frm : nodeB m.frm = true
 dst : nodeB m.dst = true
 id : S1.isS m.id = true
 bal : m.bal = z2 ∨ S1.isS m.bal = true
 at_ : m.at_ = z2 ∨ S1.isS m.at_ = true
 ops : m.ops = [] ∨ checkP m.ops = 0
 deps : SD.checkD m.deps = 0
 acc : m.acc = z2 ∨ S1.isS m.acc = true
 vat : m.val.2.1 = z2 ∨ S1.isS m.val.2.1 = true
 vdeps : SD.checkD m.val.2.2 = 0
 writes : writesB none m.writes = true
 pairs : dataB none m.pairs = true
theorem ballot_or {s : Stp} (h : ballotB s = true) : s = z2 ∨ S1.isS s = true := by
 unfold ballotB at h
 simpa using h
theorem time_or {s i : Stp} (h : timeB s i = true) : s = z2 ∨ S1.isS s = true := by
 unfold timeB at h
 rw [Bool.and_eq_true] at h
 exact .inr h.1
theorem value_or {v : Vlu} (h : valueB v = true) : (v.2.1 = z2 ∨ S1.isS v.2.1 = true) ∧ SD.checkD v.2.2 = 0 := by
 unfold valueB at h
 split at h
 ·simp only [Bool.and_eq_true, decide_eq_true_eq] at h
  exact ⟨.inl h.1, by rw [h.2]; exact deps_none⟩
 ·simp only [Bool.and_eq_true, decide_eq_true_eq] at h
  exact ⟨.inr h.1, h.2⟩
theorem value0_or {v : Vlu} (h : v = val0) : (v.2.1 = z2 ∨ S1.isS v.2.1 = true) ∧ SD.checkD v.2.2 = 0 := by
 subst h
 exact ⟨.inl rfl, deps_none⟩
theorem acc_or {m : Mg} (h : accB m = true) : (m.acc = z2 ∨ S1.isS m.acc = true) ∧ (m.val.2.1 = z2 ∨ S1.isS m.val.2.1 = true) ∧ SD.checkD m.val.2.2 = 0 := by
 unfold accB at h
 split at h
 ·rw [Bool.and_eq_true] at h
  exact ⟨ballot_or h.1, value_or h.2⟩
 ·simp only [Bool.and_eq_true, decide_eq_true_eq] at h
  exact ⟨.inl h.1, value0_or h.2⟩
theorem deps_or {d : SD.Dd} (h : d = []) : SD.checkD d = 0 := by rw [h]; exact deps_none
theorem writes_or {l : List Wrt} (h : l = []) : writesB none l = true := by rw [h]; rfl
theorem pairs_or {l : Al Nat} (h : l = []) : dataB none l = true := by rw [h]; rfl
theorem fold_keep {β : Type} (f : Mg → β) (b : Int → Bool) (h : ∀ m c, b c = false → f (lessM m c) = f m) : ∀ (L : List Int) (m : Mg), L.any b = false → f (L.foldl lessM m) = f m := by
 intro L
 induction L with
 | nil => intro m _; rfl
 | cons c r ih =>
  intro m hb
  rw [List.any_cons, Bool.or_eq_false_iff] at hb
  rw [List.foldl_cons, ih _ hb.2, h m c hb.1]
theorem field_of {β : Type} (f : Mg → β) (b : Int → Bool) (P : β → Prop) (m : Mg) (L : List Int) (hall : L.all (fitsB m) = true) (hbare : bareB (L.foldl lessM m) = true)
  (h : ∀ m c, b c = false → f (lessM m c) = f m) (h1 : ∀ c, b c = true → fitsB m c = true → P (f m)) (h2 : ∀ x, bareB x = true → P (f x)) : P (f m) := by
 cases hb : L.any b
 ·have := h2 _ hbare
  rwa [fold_keep f b h L m hb] at this
 ·obtain ⟨c, hc, hbc⟩ := List.any_eq_true.1 hb
  exact h1 c hbc (List.all_eq_true.1 hall c hc)
theorem bare_facts {m : Mg} (h : bareB m = true) : m.bal = z2 ∧ m.at_ = z2 ∧ m.acc = z2 ∧ m.val = val0 ∧ m.ops = [] ∧ m.deps = [] ∧ m.writes = [] ∧ m.pairs = [] := by
 unfold bareB at h
 simp only [Bool.and_eq_true, decide_eq_true_eq] at h
 obtain ⟨⟨⟨⟨⟨⟨h1, h2⟩, h3⟩, _⟩, _⟩, h4⟩, h5, h6, h7, h8⟩ := h
 exact ⟨h1, h2, h3, h4, h5, h6, h7, h8⟩
theorem row_kind {k : Int} {L : List Int} (h : rowOf k = some L) : 1 ≤ k ∧ k ≤ 17 := by
 unfold rowOf at h
 by_cases h1 : k = 1
 ·omega
 rw [if_neg h1] at h
 by_cases h2 : k = 2
 ·omega
 rw [if_neg h2] at h
 by_cases h3 : k = 3
 ·omega
 rw [if_neg h3] at h
 by_cases h4 : k = 4
 ·omega
 rw [if_neg h4] at h
 by_cases h5 : k = 5
 ·omega
 rw [if_neg h5] at h
 by_cases h6 : k = 6
 ·omega
 rw [if_neg h6] at h
 by_cases h14 : k = 14
 ·omega
 rw [if_neg h14] at h
 by_cases h7 : k = 7
 ·omega
 rw [if_neg h7] at h
 by_cases h15 : k = 15
 ·omega
 rw [if_neg h15] at h
 by_cases h8 : k = 8
 ·omega
 rw [if_neg h8] at h
 by_cases h9 : k = 9
 ·omega
 rw [if_neg h9] at h
 by_cases h10 : k = 10
 ·omega
 rw [if_neg h10] at h
 by_cases h11 : k = 11
 ·omega
 rw [if_neg h11] at h
 by_cases h12 : k = 12
 ·omega
 rw [if_neg h12] at h
 by_cases h13 : k = 13
 ·omega
 rw [if_neg h13] at h
 by_cases h16 : k = 16
 ·omega
 rw [if_neg h16] at h
 by_cases h17 : k = 17
 ·omega
 rw [if_neg h17] at h
 cases h
theorem val_of {m : Mg} {L : List Int} (h4 : L.all (fitsB m) = true) (h5 : bareB (L.foldl lessM m) = true) : (m.val.2.1 = z2 ∨ S1.isS m.val.2.1 = true) ∧ SD.checkD m.val.2.2 = 0 := by
 refine field_of (fun m => m.val) (fun c => decide (c = 118 ∨ c = 86 ∨ c = 104)) (fun x => (x.2.1 = z2 ∨ S1.isS x.2.1 = true) ∧ SD.checkD x.2.2 = 0) m L h4 h5 ?_ ?_ (fun x hx => value0_or (bare_facts hx).2.2.2.1)
 ·intro m c hc
  have := of_decide_eq_false hc
  show (lessM m c).val = m.val
  unfold lessM
  by_cases e0 : c = 97 ∨ c = 65
  ·first | (exfalso; omega) | (rw [if_pos e0])
  rw [if_neg e0]
  by_cases e1 : c = 98 ∨ c = 66
  ·first | (exfalso; omega) | (rw [if_pos e1])
  rw [if_neg e1]
  by_cases e2 : c = 100
  ·first | (exfalso; omega) | (rw [if_pos e2])
  rw [if_neg e2]
  by_cases e3 : c = 102
  ·first | (exfalso; omega) | (rw [if_pos e3])
  rw [if_neg e3]
  by_cases e4 : c = 104
  ·first | (exfalso; omega) | (rw [if_pos e4])
  rw [if_neg e4]
  by_cases e5 : c = 111 ∨ c = 103 ∨ c = 79
  ·first | (exfalso; omega) | (rw [if_pos e5])
  rw [if_neg e5]
  by_cases e6 : c = 112
  ·first | (exfalso; omega) | (rw [if_pos e6])
  rw [if_neg e6]
  by_cases e7 : c = 118 ∨ c = 86
  ·first | (exfalso; omega) | (rw [if_pos e7])
  rw [if_neg e7]
  by_cases e8 : c = 119
  ·first | (exfalso; omega) | (rw [if_pos e8])
  rw [if_neg e8]
 ·intro c hc hf
  rcases of_decide_eq_true hc with rfl | rfl | rfl
  ·exact value_or hf
  ·have hf2 : (valueB m.val && !m.val.1) = true := hf
   rw [Bool.and_eq_true] at hf2
   exact value_or hf2.1
  ·exact (acc_or hf).2
theorem nice_of {m : Mg} (h : checkMB m = true) : NiceM m := by
 unfold checkMB at h
 split at h
 ·cases h
 rename_i L hL
 simp only [Bool.and_eq_true] at h
 obtain ⟨⟨⟨⟨h1, h2⟩, h3⟩, h4⟩, h5⟩ := h
 refine ⟨row_kind hL, h1, h2, h3, ?_, ?_, ?_, ?_, ?_, ?_, ?_, ?_, ?_⟩
 ·refine field_of (fun m => m.bal) (fun c => decide (c = 98 ∨ c = 66)) (fun x => x = z2 ∨ S1.isS x = true) m L h4 h5 ?_ ?_ (fun x hx => .inl (bare_facts hx).1)
  ·intro m c hc
   have := of_decide_eq_false hc
   show (lessM m c).bal = m.bal
   unfold lessM
   by_cases e0 : c = 97 ∨ c = 65
   ·first | (exfalso; omega) | (rw [if_pos e0])
   rw [if_neg e0]
   by_cases e1 : c = 98 ∨ c = 66
   ·first | (exfalso; omega) | (rw [if_pos e1])
   rw [if_neg e1]
   by_cases e2 : c = 100
   ·first | (exfalso; omega) | (rw [if_pos e2])
   rw [if_neg e2]
   by_cases e3 : c = 102
   ·first | (exfalso; omega) | (rw [if_pos e3])
   rw [if_neg e3]
   by_cases e4 : c = 104
   ·first | (exfalso; omega) | (rw [if_pos e4])
   rw [if_neg e4]
   by_cases e5 : c = 111 ∨ c = 103 ∨ c = 79
   ·first | (exfalso; omega) | (rw [if_pos e5])
   rw [if_neg e5]
   by_cases e6 : c = 112
   ·first | (exfalso; omega) | (rw [if_pos e6])
   rw [if_neg e6]
   by_cases e7 : c = 118 ∨ c = 86
   ·first | (exfalso; omega) | (rw [if_pos e7])
   rw [if_neg e7]
   by_cases e8 : c = 119
   ·first | (exfalso; omega) | (rw [if_pos e8])
   rw [if_neg e8]
  ·intro c hc hf
   rcases of_decide_eq_true hc with rfl | rfl
   ·exact ballot_or hf
   ·exact .inr hf
 ·refine field_of (fun m => m.at_) (fun c => decide (c = 97 ∨ c = 65)) (fun x => x = z2 ∨ S1.isS x = true) m L h4 h5 ?_ ?_ (fun x hx => .inl (bare_facts hx).2.1)
  ·intro m c hc
   have := of_decide_eq_false hc
   show (lessM m c).at_ = m.at_
   unfold lessM
   by_cases e0 : c = 97 ∨ c = 65
   ·first | (exfalso; omega) | (rw [if_pos e0])
   rw [if_neg e0]
   by_cases e1 : c = 98 ∨ c = 66
   ·first | (exfalso; omega) | (rw [if_pos e1])
   rw [if_neg e1]
   by_cases e2 : c = 100
   ·first | (exfalso; omega) | (rw [if_pos e2])
   rw [if_neg e2]
   by_cases e3 : c = 102
   ·first | (exfalso; omega) | (rw [if_pos e3])
   rw [if_neg e3]
   by_cases e4 : c = 104
   ·first | (exfalso; omega) | (rw [if_pos e4])
   rw [if_neg e4]
   by_cases e5 : c = 111 ∨ c = 103 ∨ c = 79
   ·first | (exfalso; omega) | (rw [if_pos e5])
   rw [if_neg e5]
   by_cases e6 : c = 112
   ·first | (exfalso; omega) | (rw [if_pos e6])
   rw [if_neg e6]
   by_cases e7 : c = 118 ∨ c = 86
   ·first | (exfalso; omega) | (rw [if_pos e7])
   rw [if_neg e7]
   by_cases e8 : c = 119
   ·first | (exfalso; omega) | (rw [if_pos e8])
   rw [if_neg e8]
  ·intro c hc hf
   rcases of_decide_eq_true hc with rfl | rfl
   ·exact time_or (i := m.id) hf
   ·have hf2 : (decide (m.at_ = z2) || timeB m.at_ m.id) = true := hf
    rw [Bool.or_eq_true] at hf2
    rcases hf2 with hf | hf
    ·exact .inl (of_decide_eq_true hf)
    ·exact time_or (i := m.id) hf
 ·refine field_of (fun m => m.ops) (fun c => decide (c = 111 ∨ c = 103 ∨ c = 79)) (fun x => x = [] ∨ checkP x = 0) m L h4 h5 ?_ ?_ (fun x hx => .inl (bare_facts hx).2.2.2.2.1)
  ·intro m c hc
   have := of_decide_eq_false hc
   show (lessM m c).ops = m.ops
   unfold lessM
   by_cases e0 : c = 97 ∨ c = 65
   ·first | (exfalso; omega) | (rw [if_pos e0])
   rw [if_neg e0]
   by_cases e1 : c = 98 ∨ c = 66
   ·first | (exfalso; omega) | (rw [if_pos e1])
   rw [if_neg e1]
   by_cases e2 : c = 100
   ·first | (exfalso; omega) | (rw [if_pos e2])
   rw [if_neg e2]
   by_cases e3 : c = 102
   ·first | (exfalso; omega) | (rw [if_pos e3])
   rw [if_neg e3]
   by_cases e4 : c = 104
   ·first | (exfalso; omega) | (rw [if_pos e4])
   rw [if_neg e4]
   by_cases e5 : c = 111 ∨ c = 103 ∨ c = 79
   ·first | (exfalso; omega) | (rw [if_pos e5])
   rw [if_neg e5]
   by_cases e6 : c = 112
   ·first | (exfalso; omega) | (rw [if_pos e6])
   rw [if_neg e6]
   by_cases e7 : c = 118 ∨ c = 86
   ·first | (exfalso; omega) | (rw [if_pos e7])
   rw [if_neg e7]
   by_cases e8 : c = 119
   ·first | (exfalso; omega) | (rw [if_pos e8])
   rw [if_neg e8]
  ·intro c hc hf
   rcases of_decide_eq_true hc with rfl | rfl | rfl
   ·exact .inr (of_decide_eq_true hf)
   ·have hf2 : (decide (checkP m.ops = 0) || m.val.1 && decide (m.ops = [])) = true := hf
    simp only [Bool.or_eq_true, Bool.and_eq_true, decide_eq_true_eq] at hf2
    rcases hf2 with hf | hf
    ·exact .inr hf
    ·exact .inl hf.2
   ·have hf2 : (decide (checkP m.ops = 0) || decide (m.ops = [])) = true := hf
    simp only [Bool.or_eq_true, decide_eq_true_eq] at hf2
    exact hf2.symm
 ·refine field_of (fun m => m.deps) (fun c => decide (c = 100)) (fun x => SD.checkD x = 0) m L h4 h5 ?_ ?_ (fun x hx => deps_or (bare_facts hx).2.2.2.2.2.1)
  ·intro m c hc
   have := of_decide_eq_false hc
   show (lessM m c).deps = m.deps
   unfold lessM
   by_cases e0 : c = 97 ∨ c = 65
   ·first | (exfalso; omega) | (rw [if_pos e0])
   rw [if_neg e0]
   by_cases e1 : c = 98 ∨ c = 66
   ·first | (exfalso; omega) | (rw [if_pos e1])
   rw [if_neg e1]
   by_cases e2 : c = 100
   ·first | (exfalso; omega) | (rw [if_pos e2])
   rw [if_neg e2]
   by_cases e3 : c = 102
   ·first | (exfalso; omega) | (rw [if_pos e3])
   rw [if_neg e3]
   by_cases e4 : c = 104
   ·first | (exfalso; omega) | (rw [if_pos e4])
   rw [if_neg e4]
   by_cases e5 : c = 111 ∨ c = 103 ∨ c = 79
   ·first | (exfalso; omega) | (rw [if_pos e5])
   rw [if_neg e5]
   by_cases e6 : c = 112
   ·first | (exfalso; omega) | (rw [if_pos e6])
   rw [if_neg e6]
   by_cases e7 : c = 118 ∨ c = 86
   ·first | (exfalso; omega) | (rw [if_pos e7])
   rw [if_neg e7]
   by_cases e8 : c = 119
   ·first | (exfalso; omega) | (rw [if_pos e8])
   rw [if_neg e8]
  ·intro c hc hf
   obtain rfl := of_decide_eq_true hc
   exact of_decide_eq_true hf
 ·refine field_of (fun m => m.acc) (fun c => decide (c = 104)) (fun x => x = z2 ∨ S1.isS x = true) m L h4 h5 ?_ ?_ (fun x hx => .inl (bare_facts hx).2.2.1)
  ·intro m c hc
   have := of_decide_eq_false hc
   show (lessM m c).acc = m.acc
   unfold lessM
   by_cases e0 : c = 97 ∨ c = 65
   ·first | (exfalso; omega) | (rw [if_pos e0])
   rw [if_neg e0]
   by_cases e1 : c = 98 ∨ c = 66
   ·first | (exfalso; omega) | (rw [if_pos e1])
   rw [if_neg e1]
   by_cases e2 : c = 100
   ·first | (exfalso; omega) | (rw [if_pos e2])
   rw [if_neg e2]
   by_cases e3 : c = 102
   ·first | (exfalso; omega) | (rw [if_pos e3])
   rw [if_neg e3]
   by_cases e4 : c = 104
   ·first | (exfalso; omega) | (rw [if_pos e4])
   rw [if_neg e4]
   by_cases e5 : c = 111 ∨ c = 103 ∨ c = 79
   ·first | (exfalso; omega) | (rw [if_pos e5])
   rw [if_neg e5]
   by_cases e6 : c = 112
   ·first | (exfalso; omega) | (rw [if_pos e6])
   rw [if_neg e6]
   by_cases e7 : c = 118 ∨ c = 86
   ·first | (exfalso; omega) | (rw [if_pos e7])
   rw [if_neg e7]
   by_cases e8 : c = 119
   ·first | (exfalso; omega) | (rw [if_pos e8])
   rw [if_neg e8]
  ·intro c hc hf
   obtain rfl := of_decide_eq_true hc
   exact (acc_or hf).1
 ·exact (val_of h4 h5).1
 ·exact (val_of h4 h5).2
 ·refine field_of (fun m => m.writes) (fun c => decide (c = 119)) (fun x => writesB none x = true) m L h4 h5 ?_ ?_ (fun x hx => writes_or (bare_facts hx).2.2.2.2.2.2.1)
  ·intro m c hc
   have := of_decide_eq_false hc
   show (lessM m c).writes = m.writes
   unfold lessM
   by_cases e0 : c = 97 ∨ c = 65
   ·first | (exfalso; omega) | (rw [if_pos e0])
   rw [if_neg e0]
   by_cases e1 : c = 98 ∨ c = 66
   ·first | (exfalso; omega) | (rw [if_pos e1])
   rw [if_neg e1]
   by_cases e2 : c = 100
   ·first | (exfalso; omega) | (rw [if_pos e2])
   rw [if_neg e2]
   by_cases e3 : c = 102
   ·first | (exfalso; omega) | (rw [if_pos e3])
   rw [if_neg e3]
   by_cases e4 : c = 104
   ·first | (exfalso; omega) | (rw [if_pos e4])
   rw [if_neg e4]
   by_cases e5 : c = 111 ∨ c = 103 ∨ c = 79
   ·first | (exfalso; omega) | (rw [if_pos e5])
   rw [if_neg e5]
   by_cases e6 : c = 112
   ·first | (exfalso; omega) | (rw [if_pos e6])
   rw [if_neg e6]
   by_cases e7 : c = 118 ∨ c = 86
   ·first | (exfalso; omega) | (rw [if_pos e7])
   rw [if_neg e7]
   by_cases e8 : c = 119
   ·first | (exfalso; omega) | (rw [if_pos e8])
   rw [if_neg e8]
  ·intro c hc hf
   obtain rfl := of_decide_eq_true hc
   exact hf
 ·refine field_of (fun m => m.pairs) (fun c => decide (c = 112)) (fun x => dataB none x = true) m L h4 h5 ?_ ?_ (fun x hx => pairs_or (bare_facts hx).2.2.2.2.2.2.2)
  ·intro m c hc
   have := of_decide_eq_false hc
   show (lessM m c).pairs = m.pairs
   unfold lessM
   by_cases e0 : c = 97 ∨ c = 65
   ·first | (exfalso; omega) | (rw [if_pos e0])
   rw [if_neg e0]
   by_cases e1 : c = 98 ∨ c = 66
   ·first | (exfalso; omega) | (rw [if_pos e1])
   rw [if_neg e1]
   by_cases e2 : c = 100
   ·first | (exfalso; omega) | (rw [if_pos e2])
   rw [if_neg e2]
   by_cases e3 : c = 102
   ·first | (exfalso; omega) | (rw [if_pos e3])
   rw [if_neg e3]
   by_cases e4 : c = 104
   ·first | (exfalso; omega) | (rw [if_pos e4])
   rw [if_neg e4]
   by_cases e5 : c = 111 ∨ c = 103 ∨ c = 79
   ·first | (exfalso; omega) | (rw [if_pos e5])
   rw [if_neg e5]
   by_cases e6 : c = 112
   ·first | (exfalso; omega) | (rw [if_pos e6])
   rw [if_neg e6]
   by_cases e7 : c = 118 ∨ c = 86
   ·first | (exfalso; omega) | (rw [if_pos e7])
   rw [if_neg e7]
   by_cases e8 : c = 119
   ·first | (exfalso; omega) | (rw [if_pos e8])
   rw [if_neg e8]
  ·intro c hc hf
   obtain rfl := of_decide_eq_true hc
   exact hf
abbrev MgT := Int × Int × Int × Stp × Stp × Stp × List Opr × Bool × SD.Dd × Bool × Stp × Vlu × List Wrt × Al Nat
def Mg.tup (m : Mg) : MgT := (m.kind, m.frm, m.dst, m.id, m.bal, m.at_, m.ops, m.fast, m.deps, m.has, m.acc, m.val, m.writes, m.pairs)
def mgOf (t : MgT) : Mg := ⟨t.1, t.2.1, t.2.2.1, t.2.2.2.1, t.2.2.2.2.1, t.2.2.2.2.2.1, t.2.2.2.2.2.2.1, t.2.2.2.2.2.2.2.1, t.2.2.2.2.2.2.2.2.1, t.2.2.2.2.2.2.2.2.2.1, t.2.2.2.2.2.2.2.2.2.2.1, t.2.2.2.2.2.2.2.2.2.2.2.1, t.2.2.2.2.2.2.2.2.2.2.2.2.1, t.2.2.2.2.2.2.2.2.2.2.2.2.2⟩
theorem mg_tup (m : Mg) : mgOf m.tup = m := rfl
theorem tup_mg (t : MgT) : (mgOf t).tup = t := rfl
def cM : Cod MgT := cI.two (cI.two (cI.two (cS.two (cS.two (cS.two ((cO.list.upto 8).two (cB.two (cDs.two (cB.two (cS.two (cV.two (cW.list.two cP.list))))))))))))
theorem cM_ok : cM.Ok :=
 Cod.two_ok cI_ok (Cod.two_ok cI_ok (Cod.two_ok cI_ok (Cod.two_ok cS_ok (Cod.two_ok cS_ok (Cod.two_ok cS_ok (Cod.two_ok (Cod.upto_ok 8 cOs_ok) (Cod.two_ok cB_ok (Cod.two_ok cDs_ok (Cod.two_ok cB_ok (Cod.two_ok cS_ok (Cod.two_ok cV_ok (Cod.two_ok (Cod.list_ok cW_ok cW_pos) (Cod.list_ok cP_ok cP_pos)))))))))))))
def bodyM (m : Mg) : List UInt8 := cM.lay m.tup
def sumN (l : List UInt8) : Int := RowKit.wrap64 (S2.sumL l)
def layM (m : Mg) : List UInt8 := bodyM m ++ S2.i8 (sumN (bodyM m))
def readM (B : List UInt8) : Mg := mgOf (cM.val (B, false, false))
def curM (B : List UInt8) : Cur := cM.fin (B, false, false)
def wholeM (B : List UInt8) : Bool := decide ((curM B).1.length = 8) && decide (cI.val (curM B) = sumN (B.take (B.length - 8))) && decide (doneC (cI.fin (curM B)) = 0)
def parseM (B : List UInt8) : Option Mg := if wholeM B = true ∧ checkM (readM B) = 0 then some (readM B) else none
structure NumM (m : Mg) : Prop where
 ops : ∀ o ∈ m.ops, o.2.2.2 < 18446744073709551616
 writes : ∀ o ∈ m.writes, o.2.1 < 18446744073709551616
 pairs : ∀ o ∈ m.pairs, o.2 < 18446744073709551616
 wl : m.writes.length ≤ 1000000
 pl : m.pairs.length ≤ 1000000
theorem wf_small {n : Int} (h0 : -1152921504606846976 ≤ n) (h1 : n ≤ 1152921504606846976) : (Lit.int .i64 n).wf = true := by
 simp only [Lit.wf, Bool.and_eq_true, decide_eq_true_eq]
 have e1 : IntKind.i64.min = -9223372036854775808 := rfl
 have e2 : IntKind.i64.max = 9223372036854775807 := rfl
 rw [e1, e2]
 omega
theorem cS_good {s : Stp} (h : s = z2 ∨ S1.isS s = true) : cS.good s := by
 rcases h with rfl | h
 ·exact ⟨rfl, rfl⟩
 ·obtain ⟨a, b, c, d⟩ := of_decide_eq_true h
  exact ⟨wf_small (by omega) (by omega), wf_small (by omega) (by omega)⟩
theorem cDs_good {d : SD.Dd} (h : SD.checkD d = 0) : cDs.good d := ⟨SD.cD_good h, (SD.checkD_ok.1 h).1⟩
theorem ops_good {l : List Opr} (h : l = [] ∨ checkP l = 0) (hn : ∀ o ∈ l, o.2.2.2 < 18446744073709551616) : (cO.list.upto 8).good l := by
 rcases h with rfl | h
 ·exact ⟨⟨by simp, fun x hx => by cases hx⟩, by simp⟩
 ·exact good8 h hn
theorem key_size {k : ByteArray} (h : keyB k = true) : k.size ≤ 1048576 := by
 have := of_decide_eq_true h
 omega
theorem writes_keys : ∀ (l : List Wrt) (o : Option ByteArray), writesB o l = true → ∀ x ∈ l, keyB x.1 = true
 | [], _, _, x, hx => by cases hx
 | y :: l, o, h, x, hx => by
  have h2 : (keyB y.1 && decide (SN.rtN y.2.1 = y.2.1) && (!y.2.2 || decide (y.2.1 = 0)) && aheadB o y.1 && writesB (some y.1) l) = true := h
  simp only [Bool.and_eq_true] at h2
  rcases List.mem_cons.1 hx with rfl | hx
  ·exact h2.1.1.1.1
  ·exact writes_keys l _ h2.2 x hx
theorem pairs_keys {l : Al Nat} {o : Option ByteArray} (h : dataB o l = true) : ∀ x ∈ l, keyB x.1 = true := fun x hx => ((dataB_ris l o h).2.2 x hx).1
theorem good_of {m : Mg} (h : NiceM m) (hn : NumM m) : cM.good m.tup := by
 obtain ⟨k1, k2⟩ := h.kind
 have hf := h.frm
 have hd := h.dst
 unfold nodeB at hf hd
 simp only [Bool.and_eq_true, decide_eq_true_eq] at hf hd
 exact ⟨wf_small (show _ ≤ m.kind by omega) (show m.kind ≤ _ by omega), wf_small (show _ ≤ m.frm by omega) (show m.frm ≤ _ by omega), wf_small (show _ ≤ m.dst by omega) (show m.dst ≤ _ by omega), cS_good (.inr h.id), cS_good h.bal, cS_good h.at_, ops_good h.ops hn.ops, trivial, cDs_good h.deps, trivial, cS_good h.acc,
  ⟨trivial, cS_good h.vat, cDs_good h.vdeps⟩, ⟨hn.wl, fun x hx => ⟨key_size (writes_keys _ _ h.writes x hx), hn.writes x hx, trivial⟩⟩, ⟨hn.pl, fun x hx => ⟨key_size (pairs_keys h.pairs x hx), hn.pairs x hx⟩⟩⟩
theorem checkM_zero {m : Mg} : checkM m = 0 ↔ checkMB m = true := by
 unfold checkM
 split
 ·simp [*]
 ·simp [*]
theorem sumN_wf (l : List UInt8) : (Lit.int .i64 (sumN l)).wf = true := wrap64_wf _
theorem layM_len (m : Mg) : (layM m).length = (bodyM m).length + 8 := by
 unfold layM
 rw [List.length_append, S2.i8_length]
theorem bodyM_is (m : Mg) : bodyM m = cM.lay m.tup := by rw [bodyM]
theorem body_read (B : List UInt8) : bodyM (readM B) = cM.lay (cM.val (B, false, false)) := by rw [bodyM, readM, tup_mg]
theorem curM_is (B : List UInt8) : curM B = cM.fin (B, false, false) := by rw [curM]
theorem front_curM {m : Mg} (hg : cM.good m.tup) (R : List UInt8) : readM (bodyM m ++ R) = m ∧ curM (bodyM m ++ R) = (R, false, false) := by
 obtain ⟨h1, h2⟩ := cM_ok.front m.tup R hg
 rw [curM_is, bodyM_is]
 refine ⟨?_, h2⟩
 rw [readM, h1, mg_tup]
theorem whole_some {B : List UInt8} (h : wholeM B = true) : layM (readM B) = B := by
 unfold wholeM at h
 simp only [Bool.and_eq_true, decide_eq_true_eq] at h
 obtain ⟨⟨h1, h2⟩, h3⟩ := h
 obtain ⟨h4, h5⟩ := doneC_zero.1 h3
 obtain ⟨h6, h7⟩ := cI_ok.inv _ h4
 rw [curM_is] at h6
 have h9 := (cM_ok.inv (B, false, false) h6).2
 rw [← curM_is, ← body_read] at h9
 have h9 : bodyM (readM B) ++ (curM B).1 = B := h9
 rw [h5, List.append_nil] at h7
 have hl : B.length = (bodyM (readM B)).length + 8 := by
  have := congrArg List.length h9
  rw [List.length_append, h1] at this
  exact this.symm
 have ht : B.take (B.length - 8) = bodyM (readM B) := by
  rw [hl, Nat.add_sub_cancel]
  have e := List.take_left (l₁ := bodyM (readM B)) (l₂ := (curM B).1)
  rw [h9] at e
  exact e
 rw [ht] at h2
 unfold layM
 rw [← h2]
 have h7 : S2.i8 (cI.val (curM B)) = (curM B).1 := h7
 rw [h7]
 exact h9
theorem parseM_some {B : List UInt8} {y : Mg} (h : parseM B = some y) : layM y = B ∧ checkMB y = true ∧ y = readM B := by
 unfold parseM at h
 split at h
 ·rename_i h0
  have e := Option.some.inj h
  subst e
  exact ⟨whole_some h0.1, checkM_zero.1 h0.2, rfl⟩
 ·cases h
theorem parseM_front {m : Mg} (hc : checkMB m = true) (hn : NumM m) (R : List UInt8) : parseM (layM m ++ R) = if R = [] then some m else none := by
 have hg := good_of (nice_of hc) hn
 have e : layM m ++ R = bodyM m ++ (S2.i8 (sumN (bodyM m)) ++ R) := by unfold layM; rw [List.append_assoc]
 obtain ⟨h1, h2⟩ := front_curM hg (S2.i8 (sumN (bodyM m)) ++ R)
 rw [← e] at h1 h2
 unfold parseM
 rw [h1]
 by_cases hR : R = []
 ·rw [if_pos hR, if_pos]
  refine ⟨?_, checkM_zero.2 hc⟩
  subst hR
  rw [List.append_nil] at h2 ⊢
  rw [List.append_nil] at h2
  obtain ⟨h3, h4⟩ := cI_ok.front (sumN (bodyM m)) [] (sumN_wf _)
  rw [List.append_nil] at h3 h4
  unfold wholeM
  rw [h2, layM_len, Nat.add_sub_cancel]
  have ht : (layM m).take (bodyM m).length = bodyM m := by unfold layM; exact List.take_left
  rw [ht]
  have h3 : cI.val (S2.i8 (sumN (bodyM m)), false, false) = sumN (bodyM m) := h3
  have h4 : cI.fin (S2.i8 (sumN (bodyM m)), false, false) = ([], false, false) := h4
  rw [h3, h4, S2.i8_length]
  have hd : doneC (([] : List UInt8), false, false) = 0 := doneC_zero.2 ⟨rfl, rfl⟩
  rw [hd]
  simp
 ·rw [if_neg hR, if_neg]
  rintro ⟨hw, _⟩
  unfold wholeM at hw
  simp only [Bool.and_eq_true, decide_eq_true_eq] at hw
  have := hw.1.1
  rw [h2] at this
  have h5 : (S2.i8 (sumN (bodyM m)) ++ R).length = 8 := this
  rw [List.length_append, S2.i8_length] at h5
  exact hR (List.eq_nil_of_length_eq_zero (by omega))
theorem parseM_back {m : Mg} (hc : checkMB m = true) (hn : NumM m) : parseM (layM m) = some m := by
 have := parseM_front hc hn []
 rwa [List.append_nil, if_pos rfl] at this
end SI
end Go.Proofs.YtgipkikedacmdaaGreat

namespace Go.Proofs.YtgipkikedacmdaaGreat
open S3 SN SP
namespace SC
structure Act9 where
 kind : Int
 ops : List Opr
 a : Stp
 b : Stp
 fast : Bool
 deps : SD.Dd
 val : Vlu
 writes : List Wrt
 pairs : Al Nat
theorem lt_irr (x : Stp) : S1.ltS x x = false := by rw [S1.ltS_not]; omega
structure Grow9 (c x : Cm) : Prop where
 may : checkB x = true
 id : x.id = c.id
 phase : c.phase ≤ x.phase
 prom : S1.ltS x.prom c.prom = false
 bound : S1.ltS x.bound c.bound = false
 seen : c.ops ≠ [] → x.vote = c.vote ∧ x.fast = c.fast ∧ x.ops = c.ops
 val : 2 ≤ c.phase → x.val = c.val
 fin : finB c = true → x = c
theorem Grow9.refl {c : Cm} (h : checkB c = true) : Grow9 c c := ⟨h, rfl, Int.le_refl _, lt_irr _, lt_irr _, fun _ => ⟨rfl, rfl, rfl⟩, fun _ => rfl, fun _ => rfl⟩
end SC
end Go.Proofs.YtgipkikedacmdaaGreat

namespace Go.Proofs.YtgipkikedacmdaaGreat
open S3 SN SP
namespace SC
open Go.ChangeShapes Go.WideShapes Go.ChangeAt Go.RowKit Go.Joins Go.Deep
theorem cellsWr9 : Tryz.prog.cellsOf 84 = 3 := by kernel_rfl
theorem cellsBl9 : Tryz.prog.cellsOf 4 = 1 := by kernel_rfl
section
variable {H : Type} {enc : TypeId × Value → H}
theorem writes_cells {w : World} {cs : List Value} {fuel : Nat} {x : DataW H × List MemPlace} (hf' : DataW.trod enc Tryz.prog w 0 (fun _ => true) true fuel 28 cs = some x) :
  ∃ (v : Value) (l : List Wrt), cs = [v] ∧ SlG eW w v l ∧ l.length ≤ 9223372036854775807 ∧ ∀ q ∈ l, q.2.1 < 18446744073709551616 ∧ InW 28 x.1 q.1 := by
 rcases open_slice Tryz.underlying28 hf' with ⟨hcs, _⟩ | ⟨a, len, cap, m, n, D, Pl, hcs, _, hl, hm, hmm, hx, hi⟩
 ·exact ⟨_, [], hcs, SlG.nil _, Nat.zero_le _, fun q hq => by cases hq⟩
 ·subst hcs
  simp only [if_true] at hmm
  subst hmm
  have hx1 := congrArg Prod.fst hx
  simp only at hx1
  obtain ⟨l, hl1, hl2, hl3⟩ := slG_of (E := eW) (w := w) (a := a) (len := len) (cap := m) (P := fun i q => q.2.1 < 18446744073709551616 ∧ InW 84 (D i) q.1) (fun i hlt => by
   obtain ⟨cs', hc, ht⟩ := hi i (by omega)
   rw [cellsWr9] at hc
   obtain ⟨_, hlen, hat⟩ := World.cells?_some hc
   match cs', hlen with
   | [c0, c1, c2], _ =>
    obtain ⟨y0, y1, y2, k, hfs, _, h0, h1, h2⟩ := trod_struct3 Tryz.underlying84 ht
    have e0 : DataW.trod enc Tryz.prog w 0 (fun _ => true) true k 9 [c0] = some y0 := by simpa [cells_str] using h0
    have e1 : DataW.trod enc Tryz.prog w 0 (fun _ => true) true k 77 [c1] = some y1 := by simpa [cellsNm] using h1
    have e2 : DataW.trod enc Tryz.prog w 0 (fun _ => true) true k 4 [c2] = some y2 := by simpa [cellsBl9] using h2
    obtain ⟨x, hx0, hxd, _⟩ := DataW.trod_string Tryz.underlying9 e0
    obtain ⟨y, hy0, _, wy⟩ := DataW.trod_int Tryz.underlying77 e1
    obtain ⟨g, hg0, _⟩ := DataW.trod_bool Tryz.underlying4 e2
    simp only [List.cons.injEq, and_true] at hx0 hy0 hg0
    subst hx0 hy0 hg0
    obtain ⟨yn, hyn, rfl⟩ := nat8 wy
    have hD : D i = .agg [y0.1, y1.1, y2.1] := congrArg Prod.fst hfs
    refine ⟨(x, yn, g), ⟨hyn, x.data.toList.length, ?_, by rw [ba_len]; exact Nat.le_refl _⟩, fun j u hu => ?_⟩
    ·rw [hD]
     simp only [DataW.weights, Tryz.underlying84]
     refine List.mem_append_left _ ?_
     rw [hxd]
     simp [DataW.weights]
    ·match j, hu with
     | 0, hu => simp only [eW, List.getElem?_cons_zero, Option.some.injEq] at hu; subst hu; exact hat 0 (by omega)
     | 1, hu => simp only [eW, List.getElem?_cons_succ, List.getElem?_cons_zero, Option.some.injEq] at hu; subst hu; exact hat 1 (by omega)
     | 2, hu => simp only [eW, List.getElem?_cons_succ, List.getElem?_cons_zero, Option.some.injEq] at hu; subst hu; exact hat 2 (by omega)
     | j + 3, hu => simp [eW] at hu)
  unfold maxLen at hm
  refine ⟨_, l, rfl, hl2, by omega, fun q hq => ?_⟩
  obtain ⟨i, hil, h1, n, h2, h3⟩ := hl3 q hq
  refine ⟨h1, n, ?_, h3⟩
  rw [hx1]
  exact weights_elem Tryz.underlying28 (List.mem_map.2 ⟨i, List.mem_range.2 hil, rfl⟩) h2
end
end SC
end Go.Proofs.YtgipkikedacmdaaGreat
