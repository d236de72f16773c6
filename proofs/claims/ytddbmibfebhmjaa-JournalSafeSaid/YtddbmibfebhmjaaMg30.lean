/- The iterator over a file's frames: whatever a round does, so it keeps bytes and eyes, the frames come, in their order. Conditions: at most 4194304 bytes. -/
import Derived.RangeFuncNested
import Derived.RangeFuncBound
import Derived.RangeFuncCalls
import Derived.RangeFuncLeaves
import Derived.Laws.IdiomStrings
import Derived.Test.YtddbmibfebhmjaaMg29
import Derived.Test.YtddbmibfebhmjaaMg26
import Derived.Test.YtddbmibfebhmjaaMg14
set_option maxRecDepth 100000
set_option maxHeartbeats 16000000
set_option linter.unusedVariables false
set_option linter.unusedSimpArgs false
namespace Go.Proofs.Ytddbmibfebhmjaa
open S2 SZ
namespace SJ
open Go.RowKit
structure Jp where
 size : Int
 file : Int
 added : Int
 brk : Bool
deriving DecidableEq, Inhabited
def JAt (w : World) (jb db : Nat) (J : Jp) : Prop := w.heap[jb]? = some (.cells #[.pointer (some ⟨db, 0, none⟩), .int .i64 J.size, .int .i64 J.file, .int .i64 J.added, .bool J.brk] 95 (0, 0))
theorem JAt.lt {w : World} {jb db : Nat} {J : Jp} (h : JAt w jb db J) : jb < w.heap.size := lt_of_block h
theorem JAt.keep {w w' : World} {jb db : Nat} {J : Jp} {S : Nat → Prop} (h : JAt w jb db J) (hk : Keeps S w w') (hS : ¬ S jb) : JAt w' jb db J := (hk.block jb h.lt hS).trans h
theorem file_any {w : World} {jb db : Nat} {J : Jp} (h : JAt w jb db J) : Calls Try.prog 34 #[.pointer (some ⟨jb, 0, none⟩)] w fun r w' => r = .returned (.int .i64 J.file) ∧ w' = w := by
 have c2 := blk_cell h 2
 have hl := h.lt
 simp at c2
 go_enter Try.func34, Try.ntmps34
 go_wp2
 go_ret
 exact ⟨rfl, rfl⟩
theorem broken_any {w : World} {jb db : Nat} {J : Jp} (h : JAt w jb db J) : Calls Try.prog 31 #[.pointer (some ⟨jb, 0, none⟩)] w fun r w' => r = .returned (.bool J.brk) ∧ w' = w := by
 have c4 := blk_cell h 4
 have hl := h.lt
 simp at c4
 go_enter Try.func31, Try.ntmps31
 go_wp2
 go_ret
 exact ⟨rfl, rfl⟩
theorem usable_any {w : World} {jb db : Nat} {J : Jp} (h : JAt w jb db J) : Calls Try.prog 56 #[.pointer (some ⟨jb, 0, none⟩)] w fun r w' => r = .returned (.int .i64 (if J.brk then 150 else 0)) ∧ w' = w := by
 have c4 := blk_cell h 4
 have hl := h.lt
 simp at c4
 cases hb : J.brk
 ·rw [hb] at c4
  go_enter Try.func56, Try.ntmps56
  go_wp2
  go_ret
  exact ⟨rfl, rfl⟩
 ·rw [hb] at c4
  go_enter Try.func56, Try.ntmps56
  go_wp2
  go_ret
  exact ⟨rfl, rfl⟩
def fitsN (n : Nat) (file : Int) : Int := if 1048576 < n then 1 else if 1000 < file then 6 else 0
theorem fits15_any (w : World) (a : Option Addr) (n c : Nat) (file : Int) : Calls Try.prog 57 #[.slice a n c, .int .i64 file] w fun r w' => r = .returned (.int .i64 (fitsN n file)) ∧ w' = w := by
 by_cases h1 : 1048576 < n
 ·have e : fitsN n file = 1 := if_pos h1
  have h1' : (1048576 : Int) < (n : Int) := by omega
  rw [e]
  go_enter Try.func57, Try.ntmps57
  go_wp2
  go_ret
  exact ⟨rfl, rfl⟩
 ·have h1' : ¬ (1048576 : Int) < (n : Int) := by omega
  by_cases h2 : 1000 < file
  ·have e : fitsN n file = 6 := by unfold fitsN; rw [if_neg h1, if_pos h2]
   rw [e]
   go_enter Try.func57, Try.ntmps57
   go_wp2
   go_ret
   exact ⟨rfl, rfl⟩
  ·have e : fitsN n file = 0 := by unfold fitsN; rw [if_neg h1, if_neg h2]
   rw [e]
   go_enter Try.func57, Try.ntmps57
   go_wp2
   go_ret
   exact ⟨rfl, rfl⟩
def Jp.heed (J : Jp) (e : Int) : Jp := { J with brk := J.brk || (decide (e ≠ 0) && decide (e ≠ 5)) }
theorem Jp.heed_no {J : Jp} {e : Int} (h : e = 0 ∨ e = 5) : J.heed e = J := by
 unfold Jp.heed
 rcases h with rfl | rfl <;> simp
theorem heed_any {w : World} {jb db : Nat} {J : Jp} (h : JAt w jb db J) (e : Int) : Calls Try.prog 58 #[.pointer (some ⟨jb, 0, none⟩), .int .i64 e] w fun r w' => r = .returned (.int .i64 e) ∧ JAt w' jb db (J.heed e) ∧ Keeps (fun k => k = jb) w w' := by
 have c4 := blk_cell h 4
 have f4 := blk_soft h 4
 have hl := h.lt
 have H := Lib.hid h
 simp at c4
 by_cases h0 : e = 0
 ·subst h0
  clear h
  go_enter Try.func58, Try.ntmps58
  go_wp2
  go_ret
  exact ⟨rfl, by rw [Jp.heed_no (.inl rfl)]; exact H.out, Keeps.refl _ _⟩
 ·by_cases h5 : e = 5
  ·subst h5
   clear h h0
   go_enter Try.func58, Try.ntmps58
   go_wp2
   go_ret
   exact ⟨rfl, by rw [Jp.heed_no (.inr rfl)]; exact H.out, Keeps.refl _ _⟩
  ·have he : J.heed e = { J with brk := true } := by unfold Jp.heed; simp [h0, h5]
   have HE := Lib.hid he
   have b0 : (e != 0) = true := by simpa using h0
   have b5 : (e != 5) = true := by simpa using h5
   clear h he
   go_enter Try.func58, Try.ntmps58
   go_wp2
   go_ret
   exact ⟨rfl, by rw [HE.out]; exact blk_set H.out _, keeps_set _⟩
theorem bw_str15 {w : World} {g : Nat} {v : Value} {l : List UInt8} (h : Bw w g v l) : (convert 39 9 v).run Try.prog w = .ok (.string ⟨l.toArray⟩) w := by
 obtain ⟨a, c, rfl, h0, h1, h2⟩ := h
 cases a with
 | none =>
  obtain ⟨rfl, rfl⟩ := h0 rfl
  exact Lib.run_convert_nil_bytes w 39 9 5 0 Try.underlying39 Try.underlying5 Try.underlying9
 | some p =>
  refine run_convert_bytes_back w 39 9 5 p c l Try.underlying39 Try.underlying5 Try.underlying9 fun j hj => ?_
  obtain ⟨o, ho, hc⟩ := h2 (by rintro rfl; simp at hj)
  simp only [Option.some.injEq] at ho
  subst ho
  rw [add_plain]
  exact hc j _ (List.getElem?_eq_getElem hj)
theorem bw_form15 {w : World} {g : Nat} {v : Value} {l : List UInt8} (h : Bw w g v l) : ∃ a c, v = .slice a l.length c := by
 obtain ⟨a, c, hv, _⟩ := h
 exact ⟨a, c, hv⟩
theorem frame_any (w : World) (g : Nat) (b : Bool) (v : Value) (p : List UInt8) (h : Bw w g v p) (hp : p.length ≤ 1048576) : Calls Try.prog 59 #[.bool b, v] w (Made w (fr b p)) := by
 obtain ⟨a, c, rfl⟩ := (bw_form15 h)
 have HB := Lib.hid h
 clear h
 go_enter Try.func59, Try.ntmps59
 go_wp2_with fail
 have hp0 := pen_new w
 refine (bool_any _ w.heap.size none [] b hp0 (by simp)).mono ?_
 rintro e w1 ⟨rfl, r1, hp1, hs1⟩
 have HP1 := Lib.hid hp1
 have HR1 := Lib.hid (hs1.from (B := w.heap.size) (by simp) (fun _ h => by cases h))
 have HS1 : Hid (Below w.heap.size w w1) := ((Below.refl _ _).alloc (Nat.le_refl _) _).trans (hs1.below (by simp) (Nat.le_refl _) (fun _ h => by cases h))
 have HB1 := Lib.hid (HB.out.keep (.ofBelow (S := fun _ => False) HS1.out) (fun _ h => h))
 have hstr := bw_str15 HB1.out
 clear hp0 hp1 hs1
 go_wp2_with fail
 clear hstr
 refine (text_any _ w.heap.size r1 _ w1.heap.size _ 1 [⟨p.toArray⟩] (HP1.out.before (Keeps.alloc _ _ _)) (text_new w1 ⟨p.toArray⟩ _ rfl _ rfl) (HP1.out.apart (Nat.le_refl _)) (fun j s h => ?_) (by simp) (by simp only [txSum, by_size, List.nil_append, tb_len15]; omega)).mono ?_
 ·match j, h with
  | 0, h => simp at h; subst h; rw [by_size]; exact hp
 rintro e w2 ⟨rfl, r2, hp2, hs2⟩
 have e2 : [] ++ tb b ++ [(⟨p.toArray⟩ : ByteArray)].flatMap tx = hd15 b p := by simp [hd15]
 rw [e2] at hp2
 have HP2 := Lib.hid hp2
 have HS2 : Hid (Below w.heap.size w w2) := (HS1.out.alloc HS1.out.size _).trans (hs2.below (by have := HS1.out.size; simp; omega) (Nat.le_refl _) HR1.out)
 have HR2 := Lib.hid (hs2.from (B := w.heap.size) (by have := HS1.out.size; simp; omega) HR1.out)
 clear hp2 hs2 e2
 have hl5 := hd15_len b p
 go_wp2_with fail
 refine (bytes_any w2 w.heap.size r2 _ HP2.out (by omega)).mono ?_
 rintro e w3 ⟨v3, g3, rfl, hr3, hn3, hb3⟩
 obtain ⟨va, vn, vc, rfl⟩ := hr3.form
 have HB3 := Lib.hid hr3.bs
 have HP3 := Lib.hid (HP2.out.before (ofB hb3))
 have HS3 : Hid (Below w.heap.size w w3) := HS2.out.trans (hb3.mono HS2.out.size)
 clear hr3 hn3 hb3
 go_wp2_with fail
 refine (sum_any w3 _ _ _ HB3.out).mono ?_
 rintro e w' ⟨rfl, rfl⟩
 go_wp2_with fail
 refine (int_any _ w.heap.size r2 _ w3.heap.size _ 1 [wrap64 (sumL (hd15 b p))] (HP3.out.before (Keeps.alloc _ _ _)) (one_new w3 (wrap64 (sumL (hd15 b p))) _ rfl _ rfl) (HP3.out.apart (Nat.le_refl _)) (by simp; omega)).mono ?_
 rintro e w4 ⟨rfl, r4, hp4, hs4⟩
 have e4 : hd15 b p ++ [wrap64 (sumL (hd15 b p))].flatMap i8 = fr b p := by simp [fr]
 rw [e4] at hp4
 have HP4 := Lib.hid hp4
 have HS4 : Hid (Below w.heap.size w w4) := (HS3.out.alloc HS3.out.size _).trans (hs4.below (by have := HS3.out.size; simp; omega) (Nat.le_refl _) HR2.out)
 clear hp4 hs4 e4
 have hl6 := fr_len b p
 go_wp2_with fail
 refine (bytes_any w4 w.heap.size r4 _ HP4.out (by omega)).mono ?_
 rintro e w5 ⟨v5, g5, rfl, hr5, hn5, hb5⟩
 obtain ⟨ua, un, uc, rfl⟩ := hr5.form
 have HH5 := Lib.hid hr5
 go_wp2_with fail
 go_ret
 exact ⟨_, g5, rfl, HH5.out, hn5.later (.ofBelow (S := fun _ => False) HS4.out) , HS4.out.trans (hb5.mono HS4.out.size)⟩
theorem equal_any (w : World) (g g' : Nat) (v v' : Value) (l m : List UInt8) (h : Bw w g v l) (h' : Bw w g' v' m) : Calls Try.prog 95 #[v, v'] w fun r w' => r = .returned (.bool (l == m)) ∧ w' = w := by
 have s1 := bw_str15 h
 have s2 := bw_str15 h'
 obtain ⟨a, c, rfl⟩ := (bw_form15 h)
 obtain ⟨a', c', rfl⟩ := (bw_form15 h')
 clear h h'
 go_enter Try.func95, Try.ntmps95
 go_wp2
 go_ret
 exact ⟨by simp, rfl⟩
theorem slice_front15 {w : World} {g : Nat} {v : Value} {l : List UInt8} (h : Bs w g v l) {k : Nat} (hk : k ≤ l.length) :
  ∃ a c, (∀ W : World, (Instr.slice 39 v none (some (.int .i64 (k : Int))) none).run Try.prog W = .ok (.slice a k c) W) ∧ Bs w g (.slice a k c) (l.take k) := by
 rcases h with ⟨rfl, rfl⟩ | ⟨o, cap, rfl, h1, h2, h3⟩
 ·obtain rfl : k = 0 := by simpa using hk
  exact ⟨none, 0, fun W => by simp [Instr.slice, Instr.sliceBounds, Instr.sliceBound, asIntOf, run_underlying Try.underlying39], .inl ⟨rfl, rfl⟩⟩
 ·have h4 : k ≤ cap := by omega
  exact ⟨_, cap, fun W => by simp [Instr.slice, Instr.sliceBounds, Instr.sliceBound, asIntOf, run_underlying Try.underlying39, h4, Addr.add], bs_take h1 h2 h3 hk⟩
theorem slice_back15 {w : World} {g : Nat} {v : Value} {l : List UInt8} (h : Bs w g v l) {k : Nat} (hk : k ≤ l.length) :
  ∃ a c, (∀ W : World, (Instr.slice 39 v (some (.int .i64 (k : Int))) none none).run Try.prog W = .ok (.slice a (l.length - k) c) W) ∧ Bs w g (.slice a (l.length - k) c) (l.drop k) := by
 rcases h with ⟨rfl, rfl⟩ | ⟨o, cap, rfl, h1, h2, h3⟩
 ·obtain rfl : k = 0 := by simpa using hk
  exact ⟨none, 0, fun W => by simp [Instr.slice, Instr.sliceBounds, Instr.sliceBound, asIntOf, run_underlying Try.underlying39], .inl ⟨rfl, rfl⟩⟩
 ·by_cases h4 : cap = k
  ·subst h4
   exact ⟨some ⟨g, o, none⟩, 0, fun W => by simp [Instr.slice, Instr.sliceBounds, Instr.sliceBound, asIntOf, run_underlying Try.underlying39, hk], bs_none (List.drop_eq_nil_of_le (by omega)) _ (by omega)⟩
  ·have h5 : k < cap := by omega
   refine ⟨some ⟨g, o + k, none⟩, cap - k, fun W => ?_, bs_drop h1 h2 h3⟩
   have e : (⟨g, o, none⟩ : Addr).add k = ⟨g, o + k, none⟩ := add_plain g o k
   simp [Instr.slice, Instr.sliceBounds, Instr.sliceBound, asIntOf, run_underlying Try.underlying39, hk, h1, h5, h4, e]
theorem prefix_eq15 (l m : List UInt8) (h : m.length ≤ l.length) : (l.take m.length == m) = m.isPrefixOf l := by
 rw [Bool.eq_iff_iff, beq_iff_eq, List.isPrefixOf_iff_prefix, List.prefix_iff_eq_take]
 exact eq_comm
theorem prefix_no15 (l m : List UInt8) (h : l.length < m.length) : m.isPrefixOf l = false := by
 cases e : m.isPrefixOf l with
 | false => rfl
 | true => have := (List.isPrefixOf_iff_prefix.1 e).length_le; omega
theorem hasPrefix_any (w : World) (g g' : Nat) (v v' : Value) (l m : List UInt8) (h : Bs w g v l) (h' : Bw w g' v' m) : Calls Try.prog 83 #[v, v'] w fun r w' => r = .returned (.bool (m.isPrefixOf l)) ∧ w' = w := by
 obtain ⟨a, c, rfl⟩ := (bw_form15 h.bw)
 obtain ⟨a', c', rfl⟩ := (bw_form15 h')
 by_cases hl : m.length ≤ l.length
 ·obtain ⟨b, d, hrun, hb⟩ := slice_front15 h hl
  have HQ := Lib.hid (equal_any w g g' _ _ _ _ hb.bw h')
  rw [prefix_eq15 l m hl] at HQ
  have hl1 : (m.length : Int) ≤ (l.length : Int) := by omega
  have hl2 : decide (m.length ≤ l.length) = true := by simpa using hl
  generalize m.isPrefixOf l = B at *
  clear h h' hb
  go_enter Try.func83, Try.ntmps83
  go_wp2_with (go_at_call 95; refine HQ.out.mono ?_; rintro r w' ⟨rfl, rfl⟩)
  go_ret
  exact ⟨rfl, rfl⟩
 ·rw [prefix_no15 l m (by omega)]
  have hl1 : ¬ (m.length : Int) ≤ (l.length : Int) := by omega
  have hl2 : decide (m.length ≤ l.length) = false := by simpa using hl
  clear h h'
  go_enter Try.func83, Try.ntmps83
  go_wp2
  go_ret
  exact ⟨rfl, rfl⟩

theorem heap_alloc_obj15 (w : World) (o : Obj) : (w.alloc o).heap[w.heap.size]? = some o := World.alloc_heap_new w o
def Eyes (o : Obj) : Prop := ∃ c p, o = .cells c 138 p
def Books (o : Obj) : Prop := (∃ r, o = .loop r) ∨ ∃ d, o = .deferred d
structure Oth (n0 : Nat) (A B : World) : Prop where
 os : B.os = A.os
 tape : B.tape = A.tape
 output : B.output = A.output
 size : A.heap.size ≤ B.heap.size
 same : ∀ k o, A.heap[k]? = some o → (k < n0 ∨ ¬ Eyes o ∧ ¬ Books o) → B.heap[k]? = some o
structure StE (n0 : Nat) (A B : World) : Prop where
 os : B.os = A.os
 tape : B.tape = A.tape
 output : B.output = A.output
 size : A.heap.size ≤ B.heap.size
 same : ∀ k o, A.heap[k]? = some o → (k < n0 ∨ ¬ Eyes o) → B.heap[k]? = some o
theorem StE.oth {n0 : Nat} {A B : World} (h : StE n0 A B) : Oth n0 A B := ⟨h.os, h.tape, h.output, h.size, fun k o hk hc => h.same k o hk (hc.imp id fun x => x.1)⟩
theorem StE.of {n0 : Nat} {A B : World} {S : Nat → Prop} (h : Keeps S A B) (hS : ∀ k, S k → k < A.heap.size → n0 ≤ k ∧ ∃ c p, A.heap[k]? = some (.cells c 138 p)) : StE n0 A B :=
 ⟨h.os, h.tape, h.output, h.size, fun k o hk hc => (h.block k (Array.getElem?_eq_some_iff.1 hk).1 fun hs => by
  obtain ⟨h1, c, p, h2⟩ := hS k hs (Array.getElem?_eq_some_iff.1 hk).1
  rw [hk] at h2
  rcases hc with hc | hc
  ·omega
  ·exact hc ⟨c, p, Option.some.inj h2⟩).trans hk⟩
theorem StE.none {n0 : Nat} {A B : World} (h : Keeps (fun _ => False) A B) : StE n0 A B := .of h fun _ h => h.elim
theorem Oth.alloc (n0 : Nat) (A : World) (o : Obj) : Oth n0 A (A.alloc o) := (StE.none (Keeps.alloc _ A o)).oth
theorem Oth.trans {n0 : Nat} {A B C : World} (h : Oth n0 A B) (k : Oth n0 B C) : Oth n0 A C := ⟨k.os.trans h.os, k.tape.trans h.tape, k.output.trans h.output, Nat.le_trans h.size k.size, fun i o hi hc => k.same i o (h.same i o hi hc) hc⟩
theorem Oth.put {n0 : Nat} {A : World} {l : Nat} {o : Obj} (o' : Obj) (hl : A.heap[l]? = some o) (hn : n0 ≤ l) (hb : Books o) : Oth n0 A (A.putObj l o') :=
 ⟨rfl, rfl, rfl, by simp, fun k x hk hc => by
  have hne : k ≠ l := by
   rintro rfl
   rw [hl] at hk
   rcases hc with hc | hc
   ·omega
   ·exact hc.2 (Option.some.inj hk ▸ hb)
  exact (World.putObj_heap_other hne).trans hk⟩
def Bod (Bl : Nat) (A B : World) : Prop := A.heap.size ≤ B.heap.size ∧ ∀ k o, A.heap[k]? = some o → (k = Bl ∨ Eyes o ∨ Books o ∨ ∃ c p, o = .cells c 5 p) → B.heap[k]? = some o
def KpE (Bl : Nat) (A B : World) : Prop := A.heap.size ≤ B.heap.size ∧ ∀ k o, A.heap[k]? = some o → (k = Bl ∨ Eyes o ∨ ∃ c p, o = .cells c 5 p) → B.heap[k]? = some o
def SeqW {α : Type} (F : Fence) (n : Nat) (P : Program) (g : Nat) (lb : Array Value) (encs : α → Array Value) (n0 Bl : Nat) (Mem : α → World → Prop) (S : List α → Prop) (N : Nat) (w : World) : Prop :=
 ∀ (l : Nat) (J : List α → World → Prop) (W : World), Keeps (fun _ => False) w W →
  (∀ pre A B, J pre A → StE n0 A B → J pre B) →
  (∀ pre x W1, J pre W1 → Mem x W1 → pre.length < N → YieldAt F (n - 1) P l (encs x) W1 fun e W' => e = .returned (.bool true) ∧ J (pre ++ [x]) W' ∧ KpE Bl W1 W') →
  J [] W → CallsIn F n P g (#[.func (.yield l) #[] #[]] ++ lb) W fun e W' => (∃ v, e = .returned v) ∧ ∃ xs, S xs ∧ J xs W'
variable {F : Fence} {n : Nat} {P : Program}
def post15 {α : Type} (Bl : Nat) (I : List α → World → Prop) (xs : List α) (W : World) : Exit → Act → World → Prop
 | .normal, _, W' => Bod Bl W W' ∧ I xs W'
 | _, _, _ => False
theorem range15 {α : Type} {g : Operand} {ps : Array Tmp} {assign body : Code} {Q : Exit → Act → World → Prop} {a : Act} {w : World}
  (hro : F.round = none) (h1 : 1 ≤ n) {gf : Nat} {lb : Array Value} (hg : a.eval g = .func (.func gf) #[] lb) (hFg : F.fn gf) (eg : ∀ args w, (callFunc gf args).run P w = .ok (.enter gf args) w)
  {encs : α → Array Value} {n0 Bl : Nat} {Mem : α → World → Prop} {S : List α → Prop} {N : Nat} (hseq : SeqW F (n - 1) P gf lb encs n0 Bl Mem S N w) (hn0 : n0 ≤ w.heap.size) (hBl : Bl < w.heap.size) (hps : ∀ x, (encs x).size = ps.size)
  (hMem : ∀ x A B, Mem x A → Oth n0 A B → Mem x B)
  (I : List α → World → Prop) (hI : ∀ pre A B, I pre A → Oth n0 A B → I pre B) (h0 : I [] w) (a₁ : α → Act)
  (hassign : ∀ (l : Nat) (x : α) (W : World) (K : Act → World → Prop), K (a₁ x) W →
   assign.wpIn (F.inRound l) (n - 1 - 1) P (Exit.then K (fun _ _ _ => False)) { tmps := (ps.zip (encs x)).foldl (fun t (p, v) => t.setIfInBounds p v) a.tmps, defers := [] } W)
  (hbody : ∀ (l : Nat) (pre : List α) (x : α) (W : World), I pre W → Mem x W → pre.length < N → body.wpIn (F.inRound l) (n - 1 - 1) P (post15 Bl I (pre ++ [x]) W) (a₁ x) W)
  (hdone : ∀ (D : Nat) (xs : List α) (W : World), w.heap.size ≤ D → S xs → I xs W → W.heap[D]? = some (.deferred (some [])) → (∀ k : Nat, w.heap[k]? = some (Obj.deferred (some [])) → W.heap[k]? = some (Obj.deferred (some []))) → Q .normal { a with defers := { target := .collected D, args := #[] } :: a.defers } W) :
  (Code.rangeFunc g ps assign body).wpIn F n P Q a w := by
 refine wpIn_rangeFunc fun fn hfn => ?_
 rw [hro]
 -- the two blocks of the books
 obtain ⟨D, hD⟩ : ∃ D, D = w.heap.size := ⟨_, rfl⟩
 obtain ⟨rec, hrec⟩ : ∃ rec : LoopState → Loop, rec = fun st => { state := st, pending := none, fn, tmps := a.tmps, params := ps, assign, body, defers := D } := ⟨_, rfl⟩
 obtain ⟨V, hV⟩ : ∃ V, V = (w.alloc (.deferred (some []))).alloc (.loop (rec .ready)) := ⟨_, rfl⟩
 have hVk : Keeps (fun _ => False) w V := by rw [hV]; exact (Keeps.alloc _ _ _).then (Keeps.alloc _ _ _)
 have hVl : V.heap[D + 1]? = some (.loop (rec .ready)) := by
  have := heap_alloc_obj15 (w.alloc (.deferred (some []))) (.loop (rec .ready))
  rw [World.size_alloc, ← hD] at this
  rw [hV]
  exact this
 have hVd : V.heap[D]? = some (.deferred (some [])) := by
  have e := heap_alloc_obj15 w (.deferred (some []))
  rw [← hD] at e
  rw [hV]
  exact ((Keeps.alloc (fun _ => False) (w.alloc (.deferred (some []))) _).block D (by simp [hD]) (fun h => h)).trans e
 refine ⟨D + 1, [{ target := .collected D, args := #[] }], V, { target := .fn (.func gf) lb, args := #[.func (.yield (D + 1)) #[] #[]] }, V, gf, #[.func (.yield (D + 1)) #[] #[]] ++ lb, V, ?_, ?_, ?_, ?_, fun _ => h1, ?_⟩
 ·rw [hV, hrec, hD]; exact run_enterLoop_outer _ _ _ _ _
 ·simp only [resolve, hg]
  simp [go_sem]
 ·intro f' hf'; simp [Target.leads] at hf'; subst hf'; exact hFg
 ·simp [invoke, go_sem, eg]
 have keepD : ∀ {A B : World}, Bod Bl A B → ∀ (k : Nat) d, A.heap[k]? = some (Obj.deferred d) → B.heap[k]? = some (Obj.deferred d) := fun hb k d hk => hb.2 k _ hk (.inr (.inr (.inl (.inr ⟨d, rfl⟩))))
 refine (hseq (D + 1) (fun pre W => I pre W ∧ W.heap[D + 1]? = some (.loop (rec .ready)) ∧ W.heap[D]? = some (.deferred (some [])) ∧ ∀ k : Nat, w.heap[k]? = some (Obj.deferred (some [])) → W.heap[k]? = some (Obj.deferred (some []))) V hVk ?_ ?_ ⟨hI _ _ _ h0 (StE.none hVk).oth, hVl, hVd, fun k hk => (hVk.block k (Array.getElem?_eq_some_iff.1 hk).1 (fun h => h)).trans hk⟩).mono ?_
 ·-- the iterator's own steps
  rintro pre A B ⟨i1, i2, i3, i4⟩ hs
  exact ⟨hI _ _ _ i1 hs.oth, hs.same _ _ i2 (.inr (fun h => by obtain ⟨c, p, h⟩ := h; cases h)), hs.same _ _ i3 (.inr (fun h => by obtain ⟨c, p, h⟩ := h; cases h)), fun k hk => hs.same _ _ (i4 k hk) (.inr (fun h => by obtain ⟨c, p, h⟩ := h; cases h))⟩
 ·-- a round
  rintro pre x W ⟨i1, i2, i3, i4⟩ hm hlen
  have hy := run_yield (P := P) (args := encs x) i2 (by rw [hrec]; exact hps x)
  rw [hrec] at hy
  refine ⟨fn, _, assign, body, hy, roundIn_of_wpIn hfn (hassign _ x W _ ?_)⟩
  clear hy
  have hlt : D + 1 < W.heap.size := (Array.getElem?_eq_some_iff.1 i2).1
  have hoth : Oth n0 W (W.putObj (D + 1) (.loop (rec .busy))) := Oth.put _ i2 (by omega) (.inl ⟨_, rfl⟩)
  have hbl : (W.putObj (D + 1) (.loop (rec .busy))).heap[D + 1]? = some (.loop (rec .busy)) := World.putObj_heap_same hlt
  refine ⟨W.putObj (D + 1) (.loop (rec .busy)), by have := run_beginRound (P := P) i2 (by rw [hrec]); rw [hrec] at this ⊢; exact this, ?_⟩
  refine wpIn_mono (hbody _ pre x _ (hI _ _ _ i1 hoth) (hMem _ _ _ hm hoth) hlen) ?_
  rintro e a3 W3 hp
  cases e with
  | normal =>
   obtain ⟨hb3, hi3⟩ := hp
   have hl3 := hb3.2 _ _ hbl (.inr (.inr (.inl (.inl ⟨_, rfl⟩))))
   have hlt3 : D + 1 < W3.heap.size := (Array.getElem?_eq_some_iff.1 hl3).1
   have hoth3 : Oth n0 W3 (W3.putObj (D + 1) (.loop (rec .ready))) := Oth.put _ hl3 (by omega) (.inl ⟨_, rfl⟩)
   have hend := run_endRound (P := P) none hl3
   rw [hrec] at hend
   refine ⟨_, _, hend, rfl, ⟨hI _ _ _ hi3 (by rw [hrec] at hoth3; exact hoth3), by rw [hrec]; exact World.putObj_heap_same hlt3, ?_, fun k hk => ?_⟩, ?_, fun k o hk hc => ?_⟩
   ·exact (World.putObj_heap_other (by omega)).trans (keepD hb3 _ _ ((World.putObj_heap_other (by omega)).trans i3))
   ·have hkn : k ≠ D + 1 := by rintro rfl; have := (Array.getElem?_eq_some_iff.1 hk).1; omega
    exact (World.putObj_heap_other hkn).trans (keepD hb3 _ _ ((World.putObj_heap_other hkn).trans (i4 k hk)))
   ·have := hb3.1
    simp at this ⊢
    exact this
   ·have hkn : k ≠ D + 1 := by
     rintro rfl
     rw [i2] at hk
     cases hk
     rcases hc with hc | ⟨c, p, hc⟩ | ⟨c, p, hc⟩
     ·omega
     ·cases hc
     ·cases hc
    exact (World.putObj_heap_other hkn).trans (hb3.2 k o ((World.putObj_heap_other hkn).trans hk) (hc.imp id fun x => x.imp id .inr))
  | _ => exact hp.elim
 ·-- behind the iterator
  rintro e W2 ⟨⟨v, rfl⟩, xs, hS, i1, i2, i3, i4⟩
  have hlt : D + 1 < W2.heap.size := (Array.getElem?_eq_some_iff.1 i2).1
  have hend := run_endLoop (P := P) i2 (by rw [hrec]; simp)
  rw [hrec] at hend
  refine ⟨none, _, hend, ?_⟩
  refine hdone D xs _ (by omega) hS (hI _ _ _ i1 (Oth.put _ i2 (by omega) (.inl ⟨_, rfl⟩))) ((World.putObj_heap_other (by omega)).trans i3) fun k hk => ?_
  have hkn : k ≠ D + 1 := by rintro rfl; have := (Array.getElem?_eq_some_iff.1 hk).1; omega
  exact (World.putObj_heap_other hkn).trans (i4 k hk)
end SJ
end Go.Proofs.Ytddbmibfebhmjaa

namespace Go.Proofs.Ytddbmibfebhmjaa
open S2 SZ
namespace SJ
open Go.RowKit Go.Sort Go.Shelf
attribute [local go_sem] Oper.semAt_some
structure Ev where
 b : Bool
 a : Option Addr
 l : List UInt8
 c : Nat
def encE (x : Ev) : Array Value := #[.bool x.b, .slice x.a x.l.length x.c]
def MemE (n0 : Nat) (x : Ev) (W : World) : Prop := (∃ g, Bw W g (.slice x.a x.l.length x.c) x.l ∧ (x.l ≠ [] → n0 ≤ g ∧ ∃ C p, W.heap[g]? = some (.cells C 5 p))) ∧ x.l.length ≤ 1048576
theorem bw_of_block {w w' : World} {g : Nat} {v : Value} {l : List UInt8} (h : Bw w g v l) (k : l ≠ [] → w'.heap[g]? = w.heap[g]?) : Bw w' g v l := by
 obtain ⟨a, c, hv, h0, hl, hc⟩ := h
 exact ⟨a, c, hv, h0, hl, fun hne => let ⟨o, ha, hx⟩ := hc hne; ⟨o, ha, fun j x hj => (World.cell?_of_block (w := w) (a := ⟨g, o + j, none⟩) (k hne)).trans (hx j x hj)⟩⟩
theorem bs_of_block {w w' : World} {g : Nat} {v : Value} {l : List UInt8} (h : Bs w g v l) (k : l ≠ [] → w'.heap[g]? = w.heap[g]?) : Bs w' g v l := by
 rcases h with h | ⟨o, cap, hv, h1, h2, h3⟩
 ·exact .inl h
 ·exact .inr ⟨o, cap, hv, h1, h2, fun j x hx => (World.cell?_of_block (w := w) (a := ⟨g, o + j, none⟩) (k (by rintro rfl; simp at hx))).trans (h3 j x hx)⟩
theorem eye_of_block {w w' : World} {b g : Nat} {l : List UInt8} {bl : Bool} (h : EyeAt w b g l bl) (hb : w'.heap[b]? = w.heap[b]?) (k : l ≠ [] → w'.heap[g]? = w.heap[g]?) : EyeAt w' b g l bl := by
 obtain ⟨v, h1, h2, h3⟩ := h
 exact ⟨v, hb.trans h1, bs_of_block h2 k, h3⟩
theorem bytes_soft (C : Array Value) (p : Nat × Nat) : ¬ Eyes (.cells C 5 p) ∧ ¬ Books (.cells C 5 p) := by
 refine ⟨fun h => ?_, fun h => ?_⟩
 ·obtain ⟨c, q, e⟩ := h
  cases e
 ·rcases h with ⟨r, e⟩ | ⟨d, e⟩ <;> cases e
theorem MemE.oth {n0 : Nat} {x : Ev} {A B : World} (h : MemE n0 x A) (k : Oth n0 A B) : MemE n0 x B := by
 obtain ⟨⟨g, h1, h2⟩, h3⟩ := h
 refine ⟨⟨g, bw_of_block h1 fun hne => ?_, fun hne => ?_⟩, h3⟩
 ·obtain ⟨_, C, p, hb⟩ := h2 hne
  rw [hb]
  exact k.same g _ hb (.inr (bytes_soft C p))
 ·obtain ⟨h4, C, p, hb⟩ := h2 hne
  exact ⟨h4, C, p, k.same g _ hb (.inr (bytes_soft C p))⟩
theorem eye_step {n0 b g : Nat} {A C : World} {l : List UInt8} {bl : Bool} (h : EyeAt A b g l bl) (hn : n0 ≤ b) (hk : Keeps (Only b) A C) : StE n0 A C :=
 StE.of hk fun k hk' _ => by
  have e : k = b := hk'
  subst e
  obtain ⟨v, h1, _⟩ := h
  exact ⟨hn, _, _, h1⟩
theorem conv15 (W : World) (s : ByteArray) (hs : s.size ≤ 1048576) : ∃ a c W', (convert 9 39 (.string s)).run Try.prog W = .ok (.slice a s.size c) W' ∧ Keeps (fun _ => False) W W' ∧
  ∀ b n0, n0 ≤ W.heap.size → MemE n0 ⟨b, a, s.data.toList, c⟩ W' := by
 have hb := heap_alloc_new W.drew (.cells (bytesRow s (grownCap W s.size 0 5)) 5 ((bytesRow s (grownCap W s.size 0 5)).size, (bytesRow s (grownCap W s.size 0 5)).size + 1))
 refine ⟨_, _, _, run_bytes_of_string W _ _ _ s Try.underlying9 Try.underlying39 Try.underlying5, (Keeps.drew _ W).then (Keeps.alloc _ _ _), fun b n0 hn => ⟨⟨W.heap.size, ⟨_, _, rfl, (fun h => by cases h), ?_, fun hne => ⟨0, rfl, fun j x hx => ?_⟩⟩, fun hne => ⟨hn, _, _, hb⟩⟩, by rw [ba_len]; exact hs⟩⟩
 ·rw [ba_len]; unfold maxLen; omega
 ·have hc := blk_cellp hb j
  rw [Nat.zero_add]
  refine hc.trans ?_
  unfold bytesRow
  rw [Array.getElem?_append_left]
  ·have : s.data[j]? = some x := by simpa using hx
   simp [this, bv]
  ·have h2 := (List.getElem?_eq_some_iff.1 hx).1
   simpa using h2
theorem made_block {w' : World} {g : Option Nat} {v : Value} {l : List UInt8} (h : Row w' g v l) (hne : l ≠ []) : ∃ C p, w'.heap[g.getD 0]? = some (.cells C 5 p) := by
 obtain ⟨b, c, cur, _, rfl, hh, _⟩ := row_block h hne
 exact ⟨_, _, hh⟩
theorem open15_any (w : World) (g : Nat) (v : Value) (l : List UInt8) (h : Bs w g v l) (hlen : l.length ≤ 1099511627776) : Calls Try.prog 78 #[v] w fun e w' => ∃ b g, e = .returned (.pointer (some ⟨b, 0, none⟩)) ∧ EyeAt w' b g l false ∧ w.heap.size ≤ b ∧ (l ≠ [] → w.heap.size ≤ g ∧ ∃ C p, w'.heap[g]? = some (.cells C 5 p)) ∧ Keeps (fun _ => False) w w' := by
 have HB := Lib.hid h
 clear h
 go_enter Try.func78, Try.ntmps78
 go_wp2_with (go_at_call 64; refine (clone_any _ g _ l HB.out hlen).mono ?_; rintro e w1 ⟨v1, g1, rfl, h1, h2, h3⟩; obtain ⟨a1, n1, c1, rfl⟩ := h1.form; have HR := Lib.hid h1; have HN := Lib.hid h2; have HW := Lib.hid h3; clear h1 h2 h3)
 go_ret
 have hk : Keeps (fun _ => False) w1 (w1.alloc (.cells #[.slice a1 n1 c1, .bool false] 138)) := Keeps.alloc _ _ _
 refine ⟨w1.heap.size, g1.getD 0, rfl, ⟨_, heap_alloc_new w1 _, HR.out.bs.keep hk (fun _ h => h), fun hne => ?_⟩, HW.out.size, fun hne => ?_, (Keeps.ofBelow HW.out).then hk⟩
 ·obtain ⟨b, c, cur, _, hg, hh, _⟩ := row_block HR.out hne
  rw [hg]
  exact Nat.ne_of_lt (lt_of_block hh)
 ·obtain ⟨b, c, cur, _, hg, hh, _⟩ := row_block HR.out hne
  have hn := HN.out b hg
  rw [hg]
  exact ⟨hn, _, _, (hk.block b (lt_of_block hh) (fun h => h)).trans hh⟩
theorem frames_seq (n : Nat) (hn : 1 ≤ n) (w : World) (Bl g n0 : Nat) (v : Value) (B : List UInt8) (hB : Bs w g v B) (hbox : S3.Box1 w Bl 39 v) (hg : B ≠ [] → ∃ C p, w.heap[g]? = some (.cells C 5 p)) (hn0 : n0 ≤ w.heap.size) (hlen : B.length ≤ 4194304) :
  SeqW Fence.wide n Try.prog 77 #[.pointer (some ⟨Bl, 0, none⟩)] encE n0 Bl (MemE n0) (fun xs => xs.map (fun x => (x.b, x.l)) = frs B) B.length w := by
 intro y J W hW hJ hY h0
 obtain ⟨va, vc, rfl⟩ := bw_form15 hB.bw
 obtain ⟨og, hog⟩ : ∃ og : Obj, B ≠ [] → w.heap[g]? = some og ∧ ∃ C p, og = .cells C 5 p := by
  by_cases hne : B = []
  ·exact ⟨.map #[] 0, fun h => absurd hne h⟩
  ·obtain ⟨C, p, h⟩ := hg hne
   exact ⟨_, fun _ => ⟨h, _, _, rfl⟩⟩
 have hbW : W.heap[Bl]? = some (.cells #[.slice va B.length vc] 39 (0, 0)) := (hW.block Bl hbox.lt (fun h => h)).trans hbox
 have hgW : B ≠ [] → W.heap[g]? = some og := fun hne => (hW.block g (hB.lt hne) (fun h => h)).trans (hog hne).1
 have HBW := Lib.hid (hB.keep hW (fun _ h => h))
 have HOG := Lib.hid (fun hne => (hog hne).2)
 have HJ := Lib.hid hJ
 have HY := Lib.hid hY
 have HGW := Lib.hid hgW
 have HN0 : Hid (n0 ≤ W.heap.size) := Lib.hid (Nat.le_trans hn0 hW.size)
 have c0 := S3.Box1.c (w := W) (t := 39) hbW
 have hbl := lt_of_block hbW
 have HBX := Lib.hid hbW
 clear hB hbox hg hog hJ hY hgW hn0 hW hbW
 refine callsIn_of_wp Try.func77 rfl trivial ?_ rfl
 simp only [Try.ntmps77, List.size_toArray, List.length_cons, List.length_nil, Nat.reduceAdd, Nat.reduceSub, Array.replicate_succ, Array.replicate_zero, List.push_toArray, List.append_toArray, List.nil_append, List.cons_append]
 gi_wp2
 refine ⟨trivial, ?_⟩
 refine (callsIn_wide.2 (open15_any _ g _ B HBW.out (by omega))).mono ?_
 rintro e w1 ⟨eb, eg, rfl, he, heb, heg, hk1⟩
 obtain ⟨oe, hoe⟩ : ∃ oe : Obj, B ≠ [] → w1.heap[eg]? = some oe ∧ W.heap.size ≤ eg ∧ ∃ C p, oe = .cells C 5 p := by
  by_cases hne : B = []
  ·exact ⟨.map #[] 0, fun h => absurd hne h⟩
  ·obtain ⟨h1, C, p, h⟩ := heg hne
   exact ⟨_, fun _ => ⟨h, h1, _, _, rfl⟩⟩
 have HOE := Lib.hid (fun hne => (hoe hne).2)
 have hs1 : B ≠ [] → w1.heap[eg]? = some oe := fun hne => (hoe hne).1
 have hbx1 := (hk1.block Bl hbl (fun h => h)).trans HBX.out
 have hg1 : B ≠ [] → w1.heap[g]? = some og := fun hne => (hk1.block g (HBW.out.lt hne) (fun h => h)).trans (HGW.out hne)
 have hj1 := HJ.out _ _ _ h0 (StE.none hk1)
 have hz1 := hk1.size
 have HEB : Hid (n0 ≤ eb) := Lib.hid (Nat.le_trans HN0.out heb)
 have HBE : Hid (Bl ≠ eb) := Lib.hid (by omega)
 have HGE : Hid (B ≠ [] → g ≠ eb) := Lib.hid (fun hne => by have := HBW.out.lt hne; omega)
 clear h0 c0 hk1 heg hoe heb
 gi_wp2
 gi_loopw [4] (fun i wr => ∃ (k : Nat) (pre : List Ev), i = .int .i64 k ∧ k ≤ B.length ∧ 13 * pre.length ≤ k ∧ pre.map (fun x => (x.b, x.l)) ++ frsF (B.length - k) (decide (k = 0)) (B.drop k) = frs B ∧ J pre wr ∧ EyeAt wr eb eg (B.drop k) false ∧ wr.heap[Bl]? = some (.cells #[.slice va B.length vc] 39 (0, 0)) ∧ (B ≠ [] → wr.heap[g]? = some og) ∧ (B ≠ [] → wr.heap[eg]? = some oe) ∧ W.heap.size ≤ wr.heap.size) (fun i _ => B.length - (RowKit.intOf i).toNat)
 case atStart => exact ⟨0, [], rfl, Nat.zero_le _, Nat.zero_le _, rfl, hj1, he, hbx1, hg1, hs1, hz1⟩
 case round =>
  clear hj1 he hbx1 hg1 hs1
  obtain ⟨k, pre, rfl, hk, hpl, happ, hj, he, hbx, hgk, hsk, hsz⟩ := hrel
  have c0 := S3.Box1.c (w := wr) (t := 39) hbx
  have hbl2 := lt_of_block hbx
  by_cases hlt : k < B.length
  ·have hlt' : (k : Int) < (B.length : Int) := by omega
   have hne : B ≠ [] := by rintro rfl; simp at hlt
   have HE := Lib.hid he
   have HAPP := Lib.hid happ
   have HPL := Lib.hid hpl
   have HSZ := Lib.hid hsz
   have HBXR := Lib.hid hbx
   have HGR := Lib.hid (hgk hne)
   have HSR := Lib.hid (hsk hne)
   have HJR := Lib.hid hj
   have HLT := Lib.hid hlt
   clear he happ hpl hsz hbx hgk hsk hj
   have hEGE : eg ≠ eb := by
    obtain ⟨_, _, _, h⟩ := HE.out
    exact h (by intro e; have := congrArg List.length e; simp at this; omega)
   have HEGE := Lib.hid hEGE
   obtain ⟨St, hSt⟩ : ∃ St : World → Prop, St = fun X => X.heap[Bl]? = some (.cells #[.slice va B.length vc] 39 (0, 0)) ∧ X.heap[g]? = some og ∧ X.heap[eg]? = some oe ∧ J pre X ∧ W.heap.size ≤ X.heap.size := ⟨_, rfl⟩
   have HST := Lib.hid hSt
   have step : Hid (∀ X Y l bl, St X → EyeAt X eb eg l bl → Keeps (Only eb) X Y → St Y) := by
    show ∀ X Y l bl, St X → EyeAt X eb eg l bl → Keeps (Only eb) X Y → St Y
    intro X Y l bl h hE hk'
    rw [HST.out] at h ⊢
    obtain ⟨h1, h2, h3, h4, h5⟩ := h
    exact ⟨(hk'.block Bl (lt_of_block h1) (fun e => HBE.out e)).trans h1, (hk'.block g (Array.getElem?_eq_some_iff.1 h2).1 (fun e => HGE.out hne e)).trans h2, (hk'.block eg (Array.getElem?_eq_some_iff.1 h3).1 (fun e => HEGE.out e)).trans h3, HJ.out _ _ _ h4 (eye_step hE HEB.out hk'), Nat.le_trans h5 hk'.size⟩
   have stepN : Hid (∀ X Y, St X → Keeps (fun _ => False) X Y → St Y) := by
    show ∀ X Y, St X → Keeps (fun _ => False) X Y → St Y
    intro X Y h hk'
    rw [HST.out] at h ⊢
    obtain ⟨h1, h2, h3, h4, h5⟩ := h
    exact ⟨(hk'.block Bl (lt_of_block h1) (fun e => e)).trans h1, (hk'.block g (Array.getElem?_eq_some_iff.1 h2).1 (fun e => e)).trans h2, (hk'.block eg (Array.getElem?_eq_some_iff.1 h3).1 (fun e => e)).trans h3, HJ.out _ _ _ h4 (StE.none hk'), Nat.le_trans h5 hk'.size⟩
   have Q0 : Hid (St wr) := by
    show St wr
    rw [HST.out]
    exact ⟨HBXR.out, HGR.out, HSR.out, HJR.out, HSZ.out⟩
   clear hSt hEGE HBXR HGR HSR HJR HSZ
   gi_wp2
   refine ⟨trivial, ?_⟩
   refine (callsIn_wide.2 (eyeBool_any wr eb eg _ false HE.out)).mono ?_
   rintro e x1 ⟨rfl, he1, hk1⟩
   have Q1 := Lib.hid (step.out _ _ _ _ Q0.out HE.out hk1)
   have HNX : Hid (nextF (B.drop k) = if (fr (valB (B.drop k) false) (valT (behind (okB (B.drop k) false) 1 (B.drop k)) (!okB (B.drop k) false)).data.toList).isPrefixOf (B.drop k) then some (valB (B.drop k) false, (valT (behind (okB (B.drop k) false) 1 (B.drop k)) (!okB (B.drop k) false)).data.toList, (B.drop k).drop (fr (valB (B.drop k) false) (valT (behind (okB (B.drop k) false) 1 (B.drop k)) (!okB (B.drop k) false)).data.toList).length) else none) := rfl
   have HEN : Hid (∀ b p r, B.drop k = fr b p ++ r → p.length ≤ 1048576 → EyeAt x1 eb eg (behind (okB (B.drop k) false) 1 (B.drop k)) (!okB (B.drop k) false) → behind (okI (behind (okT (behind (okB (B.drop k) false) 1 (B.drop k)) (!okB (B.drop k) false)) (4 + leN ((behind (okB (B.drop k) false) 1 (B.drop k)).take 4)) (behind (okB (B.drop k) false) 1 (B.drop k))) (!okT (behind (okB (B.drop k) false) 1 (B.drop k)) (!okB (B.drop k) false))) 8 (behind (okT (behind (okB (B.drop k) false) 1 (B.drop k)) (!okB (B.drop k) false)) (4 + leN ((behind (okB (B.drop k) false) 1 (B.drop k)).take 4)) (behind (okB (B.drop k) false) 1 (B.drop k))) = r ∧ (!okI (behind (okT (behind (okB (B.drop k) false) 1 (B.drop k)) (!okB (B.drop k) false)) (4 + leN ((behind (okB (B.drop k) false) 1 (B.drop k)).take 4)) (behind (okB (B.drop k) false) 1 (B.drop k))) (!okT (behind (okB (B.drop k) false) 1 (B.drop k)) (!okB (B.drop k) false))) = false) := by
    show ∀ b p r, _ → _ → _ → _
    intro b p r hl hp _
    obtain ⟨b1, b2, b3, t1, t2, t3, i1, i3⟩ := eye_next b p r hp
    rw [hl, b1, b3, Bool.not_true, t1, t3, Bool.not_true, i1, i3]
    exact ⟨rfl, rfl⟩
   have HE1 := Lib.hid he1
   clear he1 hk1
   generalize hl1 : behind (okB (B.drop k) false) 1 (B.drop k) = l1 at *
   generalize hb1 : (!okB (B.drop k) false) = bl1 at *
   generalize hb0 : valB (B.drop k) false = b0 at *
   clear hl1 hb1 hb0
   gi_wp2
   refine ⟨trivial, ?_⟩
   refine (callsIn_wide.2 (eyeText_any x1 eb eg _ bl1 HE1.out)).mono ?_
   rintro e x2 ⟨rfl, he2, hk2⟩
   have Q2 := Lib.hid (step.out _ _ _ _ Q1.out HE1.out hk2)
   have HE2 := Lib.hid he2
   have htl : (valT l1 bl1).size ≤ 1048576 := by have := atT_le l1 bl1; rwa [ba_len] at this
   clear he2 hk2
   generalize behind (okT l1 bl1) (4 + leN (l1.take 4)) l1 = l2 at *
   generalize (!okT l1 bl1) = bl2 at *
   generalize valT l1 bl1 = s at *
   obtain ⟨pa, pc, x3, hcv, hk3, hm3⟩ := conv15 x2 s htl
   have HE3 := Lib.hid (HE2.out.before hk3)
   have Q3 := Lib.hid (stepN.out _ _ Q2.out hk3)
   have HM3 := Lib.hid (hm3 b0 n0 (by have h := Q2.out; rw [HST.out] at h; exact Nat.le_trans HN0.out h.2.2.2.2))
   have HPL2 : Hid (s.data.toList.length ≤ 1048576) := by show _ ≤ _; rw [ba_len]; exact htl
   have HSN : Hid (s.data.toList.length = s.size) := Lib.hid (ba_len s)
   clear hk3 hm3 htl
   gi_wp2
   clear hcv
   refine ⟨trivial, ?_⟩
   refine (callsIn_wide.2 (eyeInt_any x3 eb eg _ bl2 HE3.out)).mono ?_
   rintro e x4 ⟨rfl, he4, hk4⟩
   have Q4 := Lib.hid (step.out _ _ _ _ Q3.out HE3.out hk4)
   have HE4 := Lib.hid he4
   have HM4 := Lib.hid (MemE.oth HM3.out (eye_step HE3.out HEB.out hk4).oth)
   clear he4 hk4
   generalize behind (okI l2 bl2) 8 l2 = l3 at *
   generalize (!okI l2 bl2) = bl3 at *
   generalize s.data.toList = p at *
   generalize s.size = sn at *
   have hbs4 := Q4.out
   rw [HST.out] at hbs4
   have hB4 : Bs x4 g (.slice va B.length vc) B := bs_of_block HBW.out (fun hne => by rw [hbs4.2.1, HGW.out hne])
   obtain ⟨ka, kc, hsl, hkb⟩ := slice_back15 hB4 (k := k) (by omega)
   have HKB := Lib.hid hkb
   have c4 := S3.Box1.c (w := x4) (t := 39) hbs4.1
   have hbl4 := lt_of_block hbs4.1
   obtain ⟨⟨gp, hpb, hpt⟩, _⟩ := HM4.out
   have HPB := Lib.hid hpb
   clear hbs4 hB4 hkb hpb hpt
   dsimp only at HPB
   obtain ⟨isP, hisP⟩ : ∃ isP, isP = (fr b0 p).isPrefixOf (B.drop k) := ⟨_, rfl⟩
   have HISP := Lib.hid hisP
   have HFA : Hid (∀ X, Keeps (fun _ => False) x4 X → Calls Try.prog 59 #[.bool b0, .slice pa sn pc] X fun e w' => ∃ a n c g, e = .returned (.slice a n c) ∧ Bw w' g (.slice a n c) (fr b0 p) ∧ Keeps (fun _ => False) X w') := by
    show ∀ X, _ → _
    intro X hX
    rw [← HSN.out]
    refine (frame_any X gp b0 _ p (HPB.out.keep hX (fun _ h => h)) HPL2.out).mono ?_
    rintro e w' ⟨v5, g5, rfl, hr5, hn5, hb5⟩
    obtain ⟨a5, n5, c5, rfl⟩ := hr5.form
    exact ⟨a5, n5, c5, g5.getD 0, rfl, hr5.bs.bw, .ofBelow hb5⟩
   have HHP : Hid (∀ X g5 v5, Keeps (fun _ => False) x4 X → Bw X g5 v5 (fr b0 p) → Calls Try.prog 83 #[.slice ka (B.length - k) kc, v5] X fun e w' => e = .returned (.bool isP) ∧ X = w') := by
    show ∀ X g5 v5, _ → _ → _
    intro X g5 v5 hX h5
    rw [HISP.out]
    exact (hasPrefix_any X g g5 _ _ _ _ (HKB.out.keep hX (fun _ h => h)) h5).mono fun e w' h => ⟨h.1, h.2.symm⟩
   clear HPB hisP HKB
   generalize B.length - k = kn at hsl HHP
   have HK4 : Hid (Keeps (fun _ => False) x4 x4.drew) := Lib.hid (Keeps.drew _ _)
   gi_wp2
   refine wpIn_wide.2 ?_
   go_region_held3 (fun w' => w'.cell? ⟨Bl, 0, none⟩ = some (.slice va B.length vc)) (first | exact c5 | exact c4)
    (first
     | (go_at_call 59; refine (HFA.out _ HK4.out).mono ?_; rintro e x5 ⟨a5, n5, cc5, g5, rfl, h5, hk5⟩; have HK5 := Lib.hid (HK4.out.then hk5); have c5 := HK5.out.cell (fun h => h) c4; have H5 := Lib.hid h5; clear h5 hk5)
     | (go_at_call 83; refine (HHP.out _ _ _ HK5.out H5.out).mono ?_; rintro e w' ⟨rfl, rfl⟩))
   have HQ5 := Lib.hid (stepN.out _ _ Q4.out HK5.out)
   have HE5 := Lib.hid (HE4.out.before HK5.out)
   have HM5 := Lib.hid (MemE.oth HM4.out (StE.none HK5.out).oth)
   clear c4 c5 hsl hbl4
   clear H5 HFA HHP HK4
   have hPe := HISP.out
   clear HISP
   cases hP : isP
   ·have HF : Hid (pre.map (fun x => (x.b, x.l)) = frs B) := by
     have h1 := HNX.out
     rw [← hPe, hP] at h1
     have h2 := HAPP.out
     rw [frsF_none (by simpa using h1), List.append_nil] at h2
     exact Lib.hid h2
    clear hP hPe HNX HAPP
    gi_wp2
    refine bodyPost_ret (results_none rfl _ _ _) rfl ?_
    have h := HQ5.out
    rw [HST.out] at h
    exact ⟨⟨_, rfl⟩, pre, HF.out, h.2.2.2.1⟩
   ·have hnx : nextF (B.drop k) = some (b0, p, (B.drop k).drop (fr b0 p).length) := by
     have h1 := HNX.out
     rw [← hPe, hP] at h1
     simpa using h1
    obtain ⟨m, hm⟩ : ∃ m, B.length - k = m + 1 := ⟨B.length - k - 1, by omega⟩
    have HAP2 : Hid (pre.map (fun x => (x.b, x.l)) ++ (if b0 && !(decide (k = 0)) then [] else (b0, p) :: frsF m false ((B.drop k).drop (fr b0 p).length)) = frs B) := by
     have h2 := HAPP.out
     rw [hm, frsF_some hnx] at h2
     exact Lib.hid h2
    have hlen2 := next_less hnx
    have hen := HEN.out b0 p _ (next_some hnx).1 (next_some hnx).2 HE1.out
    have HLL : Hid (l3.length = B.length - (k + (13 + p.length)) ∧ k + (13 + p.length) ≤ B.length ∧ l3 = B.drop (k + (13 + p.length)) ∧ bl3 = false) := by
     have e1 : l3 = (B.drop k).drop (fr b0 p).length := hen.1
     have e2 : (B.drop k).drop (fr b0 p).length = B.drop (k + (13 + p.length)) := by rw [List.drop_drop, fr_len]
     rw [e2] at e1
     refine Lib.hid ⟨by rw [e1, List.length_drop], ?_, e1, hen.2⟩
     rw [List.length_drop, List.length_drop] at hlen2
     omega
    have HM : Hid (m = B.length - k - 1) := Lib.hid (by omega)
    clear hP hPe HNX HAPP hnx hlen2 hen hm
    cases hb : b0 && !(decide (k = 0))
    ·have HAP3 : Hid (pre.map (fun x => (x.b, x.l)) ++ (b0, p) :: frsF m false (B.drop (k + (13 + p.length))) = frs B) := by
      have h2 := HAP2.out
      rw [hb] at h2
      have e2 : (B.drop k).drop (fr b0 p).length = B.drop (k + (13 + p.length)) := by rw [List.drop_drop, fr_len]
      rw [e2] at h2
      exact Lib.hid (by simpa using h2)
     have hq5 := HQ5.out
     rw [HST.out] at hq5
     obtain ⟨fn, tmps, assign, body, hy, hR⟩ := HY.out pre ⟨b0, pa, p, pc⟩ x5 hq5.2.2.2.1 HM5.out (by have := HPL.out; have := HLT.out; omega)
     have HQ5' := Lib.hid hq5
     clear hq5 HAP2
     unfold encE at hy
     dsimp only at hy
     rw [HSN.out] at hy
     have key : b0 = false ∨ (b0 = true ∧ ¬ (0 : Int) < (k : Int)) := by
      cases b0
      ·exact .inl rfl
      ·right
       have : k = 0 := by simpa using hb
       exact ⟨rfl, by omega⟩
     clear hb
     have fin : ∀ x6, J (pre ++ [⟨b0, pa, p, pc⟩]) x6 → KpE Bl x5 x6 → EyeAt x6 eb eg l3 false ∧ x6.heap[Bl]? = some (.cells #[.slice va B.length vc] 39 (0, 0)) ∧ x6.heap[g]? = some og ∧ x6.heap[eg]? = some oe ∧ W.heap.size ≤ x6.heap.size := by
      intro x6 hj6 hk6
      obtain ⟨q1, q2, q3, q4, q5⟩ := HQ5'.out
      obtain ⟨C1, p1, e1⟩ := HOG.out hne
      obtain ⟨_, C2, p2, e2⟩ := HOE.out hne
      have he5 := HE5.out
      rw [HLL.out.2.2.2] at he5
      have hb6 : x6.heap[eb]? = x5.heap[eb]? := by
       obtain ⟨v, h1, _⟩ := he5
       rw [h1]
       exact hk6.2 eb _ h1 (.inr (.inl ⟨_, _, rfl⟩))
      have hg6 : x6.heap[eg]? = some oe := hk6.2 eg _ q3 (.inr (.inr ⟨C2, p2, e2⟩))
      exact ⟨eye_of_block he5 hb6 (fun _ => by rw [hg6, q3]), hk6.2 Bl _ q1 (.inl rfl), hk6.2 g _ q2 (.inr (.inr ⟨C1, p1, e1⟩)), hg6, Nat.le_trans q5 hk6.1⟩
     have FIN := Lib.hid fin
     clear fin
     have tail : ∀ x6, J (pre ++ [⟨b0, pa, p, pc⟩]) x6 → KpE Bl x5 x6 → True := fun _ _ _ => trivial
     have HAP4 := HAP3
     clear tail HAP3 HQ5' HQ5
     rcases key with rfl | ⟨rfl, hk0⟩
     ·gi_wp2
      refine hR.mono ?_
      rintro e x6 ⟨rfl, hj6, hk6⟩
      obtain ⟨he6, hb6, hg6, hs6, hz6⟩ := FIN.out _ hj6 hk6
      have HE6 := Lib.hid he6
      have HB6 := Lib.hid hb6
      have HG6 := Lib.hid hg6
      have HS6 := Lib.hid hs6
      have HZ6 := Lib.hid hz6
      have HJ6 := Lib.hid hj6
      have c6 := S3.Box1.c (w := x6) (t := 39) hb6
      have hbl6 := lt_of_block hb6
      have HLF : Hid (∀ q, Calls Try.prog 79 #[.pointer (some ⟨eb, 0, none⟩)] (x6.drewN q) fun e w' => e = .returned (.int .i64 l3.length) ∧ x6.drewN q = w') := Lib.hid (fun q => left_any _ eb eg l3 false (he6.before ⟨rfl, rfl, rfl, Nat.le_refl _, fun _ _ _ => rfl⟩))
      obtain ⟨r3, hr3⟩ : ∃ r3 : Nat, r3 = l3.length := ⟨_, rfl⟩
      rw [← hr3] at HLF
      have hr3' := HLL.out.1
      have hkk := HLL.out.2.1
      rw [← hr3] at hr3'
      have hw3 : wrap64 ((B.length : Int) - (r3 : Int)) = ((k + (13 + p.length) : Nat) : Int) := by unfold wrap64; omega
      have hw3' : IntKind.i64.wrap ((B.length : Int) - (r3 : Int)) = ((k + (13 + p.length) : Nat) : Int) := by rw [IntKind.wrap_i64]; omega
      clear he6 hb6 hg6 hs6 hz6 hj6 hk6 hr3 hr3' hR hy
      gi_wp2
      refine wpIn_wide.2 ?_
      go_quiet ((go_at_call 79; exact Calls.quiet_of_same ((HLF.out _).mono fun e w' h => ⟨h.1, h.2.symm⟩)))
      gi_wp2
      go_roundw
      case rel =>
       have hd : ∀ q, Keeps (fun _ => False) x6 (x6.drewN q) := fun q => ⟨rfl, rfl, rfl, Nat.le_refl _, fun _ _ _ => rfl⟩
       refine ⟨k + (13 + p.length), pre ++ [⟨_, pa, p, pc⟩], by go_num, hkk, ?_, ?_, HJ.out _ _ _ HJ6.out (StE.none (hd _)), ?_, HB6.out, fun _ => HG6.out, fun _ => HS6.out, HZ6.out⟩
       ·have := HPL.out; simp; omega
       ·have h4 := HAP4.out
        rw [List.map_append, List.append_assoc]
        have hf : frsF (B.length - (k + (13 + p.length))) (decide (k + (13 + p.length) = 0)) (B.drop (k + (13 + p.length))) = frsF m false (B.drop (k + (13 + p.length))) := by
         have e0 : decide (k + (13 + p.length) = 0) = false := by simp
         rw [e0]
         exact frsF_fuel (by rw [List.length_drop]; omega) (by have := HM.out; rw [List.length_drop]; omega)
        rw [hf]
        simpa using h4
       ·rw [← HLL.out.2.2.1]
        exact HE6.out.before (hd _)
      case measure => simp [RowKit.intOf]; omega
     ·gi_wp2
      refine hR.mono ?_
      rintro e x6 ⟨rfl, hj6, hk6⟩
      obtain ⟨he6, hb6, hg6, hs6, hz6⟩ := FIN.out _ hj6 hk6
      have HE6 := Lib.hid he6
      have HB6 := Lib.hid hb6
      have HG6 := Lib.hid hg6
      have HS6 := Lib.hid hs6
      have HZ6 := Lib.hid hz6
      have HJ6 := Lib.hid hj6
      have c6 := S3.Box1.c (w := x6) (t := 39) hb6
      have hbl6 := lt_of_block hb6
      have HLF : Hid (∀ q, Calls Try.prog 79 #[.pointer (some ⟨eb, 0, none⟩)] (x6.drewN q) fun e w' => e = .returned (.int .i64 l3.length) ∧ x6.drewN q = w') := Lib.hid (fun q => left_any _ eb eg l3 false (he6.before ⟨rfl, rfl, rfl, Nat.le_refl _, fun _ _ _ => rfl⟩))
      obtain ⟨r3, hr3⟩ : ∃ r3 : Nat, r3 = l3.length := ⟨_, rfl⟩
      rw [← hr3] at HLF
      have hr3' := HLL.out.1
      have hkk := HLL.out.2.1
      rw [← hr3] at hr3'
      have hw3 : wrap64 ((B.length : Int) - (r3 : Int)) = ((k + (13 + p.length) : Nat) : Int) := by unfold wrap64; omega
      have hw3' : IntKind.i64.wrap ((B.length : Int) - (r3 : Int)) = ((k + (13 + p.length) : Nat) : Int) := by rw [IntKind.wrap_i64]; omega
      clear he6 hb6 hg6 hs6 hz6 hj6 hk6 hr3 hr3' hR hy
      gi_wp2
      refine wpIn_wide.2 ?_
      go_quiet ((go_at_call 79; exact Calls.quiet_of_same ((HLF.out _).mono fun e w' h => ⟨h.1, h.2.symm⟩)))
      gi_wp2
      go_roundw
      case rel =>
       have hd : ∀ q, Keeps (fun _ => False) x6 (x6.drewN q) := fun q => ⟨rfl, rfl, rfl, Nat.le_refl _, fun _ _ _ => rfl⟩
       refine ⟨k + (13 + p.length), pre ++ [⟨_, pa, p, pc⟩], by go_num, hkk, ?_, ?_, HJ.out _ _ _ HJ6.out (StE.none (hd _)), ?_, HB6.out, fun _ => HG6.out, fun _ => HS6.out, HZ6.out⟩
       ·have := HPL.out; simp; omega
       ·have h4 := HAP4.out
        rw [List.map_append, List.append_assoc]
        have hf : frsF (B.length - (k + (13 + p.length))) (decide (k + (13 + p.length) = 0)) (B.drop (k + (13 + p.length))) = frsF m false (B.drop (k + (13 + p.length))) := by
         have e0 : decide (k + (13 + p.length) = 0) = false := by simp
         rw [e0]
         exact frsF_fuel (by rw [List.length_drop]; omega) (by have := HM.out; rw [List.length_drop]; omega)
        rw [hf]
        simpa using h4
       ·rw [← HLL.out.2.2.1]
        exact HE6.out.before (hd _)
      case measure => simp [RowKit.intOf]; omega
    ·have HF : Hid (pre.map (fun x => (x.b, x.l)) = frs B) := by
      have h2 := HAP2.out
      rw [hb] at h2
      exact Lib.hid (by simpa using h2)
     have hq5 := HQ5.out
     rw [HST.out] at hq5
     have hb0 : b0 = true := by cases b0 <;> simp_all
     have hk0 : (0 : Int) < (k : Int) := by
      have : k ≠ 0 := by rintro rfl; simp at hb
      omega
     subst hb0
     clear hb HAP2
     have HJ5 := Lib.hid hq5.2.2.2.1
     clear hq5
     gi_wp2
     refine bodyPost_ret (results_none rfl _ _ _) rfl ?_
     exact ⟨⟨_, rfl⟩, pre, HF.out, HJ5.out⟩
  ·obtain rfl : k = B.length := by omega
   have HF : Hid (pre.map (fun x => (x.b, x.l)) = frs B) := by
    rw [List.drop_length, frsF_none next_nil, List.append_nil] at happ
    exact Lib.hid happ
   have HJR := Lib.hid hj
   clear happ hj he hbx hgk hsk hsz hpl
   gi_wp2
   go_end0
   exact ⟨⟨_, rfl⟩, pre, HF.out, HJR.out⟩
end SJ
end Go.Proofs.Ytddbmibfebhmjaa
