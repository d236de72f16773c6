/- Contracts of stamp's clock: New, Now, Tick, See, Last, on a clock and on a nil one. Conditions: a clock's cells hold a node and a time from 0 to MaxTime; lists of at most a million stamps. -/
import Derived.Test.YtnicdbkjgicliaaSb
namespace Go.Proofs.Ytnicdbkjgicliaa
open Go.RowKit Go.Sort

/-- Block b is a clock: its node, its last time. -/
def Clk (w : World) (b : Nat) (n t : Int) : Prop := w.heap[b]? = some (.cells #[.int .i64 n, .int .i64 t] 76 (0, 0))
theorem Clk.lt {w : World} {b : Nat} {x y : Int} (h : Clk w b x y) : b < w.heap.size := lt_of_block h
theorem Clk.c0 {w : World} {b : Nat} {x y : Int} (h : Clk w b x y) : w.cell? ⟨b, 0, none⟩ = some (.int .i64 x) := by unfold Clk at h; simp [World.cell?, h]
theorem Clk.c1 {w : World} {b : Nat} {x y : Int} (h : Clk w b x y) : w.cell? ⟨b, 1, none⟩ = some (.int .i64 y) := by unfold Clk at h; simp [World.cell?, h]
theorem Clk.f1 {w : World} {b : Nat} {x y : Int} (h : Clk w b x y) : w.frozen? ⟨b, 1, none⟩ = false := by unfold Clk at h; simp [World.frozen?, h]
theorem Clk.later {w wr : World} {b B : Nat} {x y : Int} (h : Clk w b x y) (hb : Below B w wr) (hB : b < B) : Clk wr b x y := (hb.block b hB).trans h
theorem Clk.set_other {w : World} {b : Nat} {x y : Int} (h : Clk w b x y) {p : Addr} (hp : b ≠ p.block) (u : Value) : Clk (w.setCell p u) b x y := (Below.heap_setCell _ _ _ _ hp).trans h
theorem Clk.set {w : World} {b : Nat} {x y : Int} (h : Clk w b x y) (y' : Int) : Clk (w.setCell ⟨b, 1, none⟩ (.int .i64 y')) b x y' := block_setCell h _
theorem clk_new (w : World) (x y : Int) : Clk (w.alloc (Obj.cells #[Value.int IntKind.i64 x, Value.int IntKind.i64 y] 76)) w.heap.size x y := by
  show (w.heap.push _)[w.heap.size]? = _
  simp
/-- w' is w but for block b, and what is new. -/
def But (b : Nat) (w w' : World) : Prop := w.grownBy w' (some b)
theorem But.refl (b : Nat) (w : World) : But b w w := ⟨rfl, rfl, rfl, Nat.le_refl _, fun _ _ _ => rfl⟩
theorem But.trans {b : Nat} {x y z : World} (h : But b x y) (k : But b y z) : But b x z := ⟨k.os.trans h.os, k.tape.trans h.tape, k.output.trans h.output, Nat.le_trans h.size k.size, fun i hi hn => (k.block i (Nat.lt_of_lt_of_le hi h.size) hn).trans (h.block i hi hn)⟩
theorem But.set (b i : Nat) (w : World) (u : Value) : But b w (w.setCell ⟨b, i, none⟩ u) := ⟨rfl, rfl, rfl, by simp, fun k _ hn => Below.heap_setCell _ _ _ _ (fun e => hn (by rw [e]))⟩
theorem But.of_below {b : Nat} {w w' : World} (h : Below w.heap.size w w') : But b w w' := ⟨h.os, h.tape, h.output, h.size, fun i hi _ => h.block i hi⟩
/-- A block that the call itself has made may be written. -/
theorem But.below {b B : Nat} {x y z : World} (h : Below B x y) (k : But b y z) (hb : B ≤ b) (hB : B ≤ y.heap.size) : Below B x z := h.grown k hB (fun j hj => by simp at hj; omega)
theorem Own2.but {w wr : World} {b c : Nat} {x y : Int} (h : Own2 w b x y) (hb : But c w wr) (hne : b ≠ c) : Own2 wr b x y := (hb.block b h.lt (by simpa using hne)).trans h
theorem But.lst {c b o : Nat} {w wr : World} {l : List (Int × Int)} (hw : But c w wr) (h : Lst w b o l) (hb : b < w.heap.size) (hne : b ≠ c) : Lst wr b o l :=
  fun i x y hi => ⟨(World.cell?_of_block (a := ⟨b, o + i * 2, none⟩) (hw.block b hb (by simpa using hne))).trans (h i x y hi).1, (World.cell?_of_block (a := ⟨b, o + i * 2 + 1, none⟩) (hw.block b hb (by simpa using hne))).trans (h i x y hi).2⟩

theorem But.alloc {b : Nat} {w x : World} (h : But b w x) (ob : Obj) : But b w (x.alloc ob) := h.trans (But.of_below ((Below.refl _ _).alloc (Nat.le_refl _) _))
theorem But.grown {b : Nat} {w x : World} (h : But b w x) (q : Nat) (os : Array Obj) : But b w (grow (x.drewN q) os) := h.trans (But.of_below (grow_below x q os))
theorem But.drew {b : Nat} {w x : World} (h : But b w x) : But b w x.drew := ⟨h.os, h.tape, h.output, h.size, h.block⟩
theorem But.drewN {b : Nat} {w x : World} (h : But b w x) (n : Nat) : But b w (x.drewN n) := ⟨h.os, h.tape, h.output, h.size, h.block⟩
theorem But.setb {b : Nat} {w x : World} (h : But b w x) (i : Nat) (u : Value) : But b w (x.setCell ⟨b, i, none⟩ u) := h.trans (But.set b i x u)
theorem But.setn {b : Nat} {w x : World} (h : But b w x) {p : Addr} (hp : w.heap.size ≤ p.block) (u : Value) : But b w (x.setCell p u) :=
  ⟨h.os, h.tape, h.output, Nat.le_trans h.size (by simp), fun k hk hn => (Below.heap_setCell _ _ _ _ (by omega)).trans (h.block k hk hn)⟩
theorem Clk.alloc {w : World} {b : Nat} {x y : Int} (h : Clk w b x y) (ob : Obj) : Clk (w.alloc ob) b x y := h.later ((Below.refl _ _).alloc (Nat.le_refl _) _) h.lt
theorem Clk.grown {w : World} {b : Nat} {x y : Int} (h : Clk w b x y) (q : Nat) (os : Array Obj) : Clk (grow (w.drewN q) os) b x y := h.later (grow_below w q os) h.lt

def newOk (n t : Int) : Bool := decide (1 ≤ n ∧ n ≤ 7 ∧ 0 ≤ t ∧ t ≤ 1099511627776)

set_option maxHeartbeats 400000 in
theorem new_yes (n t : Int) (h : newOk n t = true) (w : World) :
    Calls Try.prog 32 #[.int .i64 n, .int .i64 t] w fun e w' => e = .returned (.tuple #[.pointer (some ⟨w.heap.size, 0, none⟩), .int .i64 0]) ∧ w' = w.alloc (Obj.cells #[Value.int IntKind.i64 n, Value.int IntKind.i64 t] 76) := by
  simp [newOk] at h
  obtain ⟨h1, h2, h3, h4⟩ := h
  have hn : nodeS n = true := by simp [nodeS, h1, h2]
  have H := Lib.hid hn
  clear hn h1 h2
  go_enter Try.func32, Try.ntmps32
  go_wp2_with (go_at_call 41; refine (isNode_any _ _).mono ?_; rintro e w' ⟨rfl, rfl⟩; rw [H.out])
  go_ret2
  exact ⟨rfl, rfl⟩

set_option maxHeartbeats 400000 in
theorem new_no (n t : Int) (h : newOk n t = false) (w : World) :
    Calls Try.prog 32 #[.int .i64 n, .int .i64 t] w fun e w' => e = .returned (.tuple #[.pointer none, .int .i64 2]) ∧ w = w' := by
  simp [newOk] at h
  cases hn : nodeS n
  · have H := Lib.hid hn
    clear hn h
    go_enter Try.func32, Try.ntmps32
    go_wp2_with (go_at_call 41; refine (isNode_any _ _).mono ?_; rintro e w' ⟨rfl, rfl⟩; rw [H.out])
    go_ret2
    exact ⟨rfl, rfl⟩
  · have hh := hn
    simp [nodeS] at hh
    have H := Lib.hid hn
    clear hn
    by_cases h0 : t < 0
    · clear h
      go_enter Try.func32, Try.ntmps32
      go_wp2_with (go_at_call 41; refine (isNode_any _ _).mono ?_; rintro e w' ⟨rfl, rfl⟩; rw [H.out])
      go_ret2
      exact ⟨rfl, rfl⟩
    · have h4 : 1099511627776 < t := h hh.1 hh.2 (by omega)
      clear h hh
      go_enter Try.func32, Try.ntmps32
      go_wp2_with (go_at_call 41; refine (isNode_any _ _).mono ?_; rintro e w' ⟨rfl, rfl⟩; rw [H.out])
      go_ret2
      exact ⟨rfl, rfl⟩

set_option maxHeartbeats 400000 in
theorem last_nil (w : World) :
    Calls Try.prog 39 #[.pointer none] w fun e w' => e = .returned (.int .i64 0) ∧ w = w' := by
  go_enter Try.func39, Try.ntmps39
  go_wp2
  go_ret
  exact ⟨rfl, rfl⟩
set_option maxHeartbeats 400000 in
theorem last_any (b : Nat) (n t : Int) (w : World) (h : Clk w b n t) :
    Calls Try.prog 39 #[.pointer (some ⟨b, 0, none⟩)] w fun e w' => e = .returned (.int .i64 t) ∧ w = w' := by
  have h1 := h.c1
  clear h
  go_enter Try.func39, Try.ntmps39
  go_wp2
  go_ret
  exact ⟨rfl, rfl⟩

set_option maxHeartbeats 400000 in
theorem tick_nil (to : Int) (w : World) :
    Calls Try.prog 37 #[.pointer none, .int .i64 to] w fun e w' => e = .returned (.tuple #[]) ∧ w = w' := by
  go_enter Try.func37, Try.ntmps37
  go_wp2
  refine bodyPost_ret (results_none rfl _ _ _) rfl ?_
  exact ⟨rfl, rfl⟩

def tickT (t to : Int) : Int := if t < to ∧ to ≤ 1099511627776 then to else t
set_option maxHeartbeats 400000 in
theorem tick_any (b : Nat) (n t to : Int) (w : World) (h : Clk w b n t) :
    Calls Try.prog 37 #[.pointer (some ⟨b, 0, none⟩), .int .i64 to] w fun e w' => e = .returned (.tuple #[]) ∧ But b w w' ∧ Clk w' b n (tickT t to) := by
  have h1 := h.c1
  have hf := h.f1
  have H := Lib.hid h
  clear h
  by_cases c1 : t < to
  · by_cases c2 : to ≤ 1099511627776
    · have hv : tickT t to = to := by simp [tickT, c1, c2]
      rw [hv]
      go_enter Try.func37, Try.ntmps37
      go_wp2
      go_end0
      exact ⟨rfl, But.set _ _ _ _, H.out.set _⟩
    · have hv : tickT t to = t := by simp [tickT, c2]
      rw [hv]
      go_enter Try.func37, Try.ntmps37
      go_wp2
      refine bodyPost_ret (results_none rfl _ _ _) rfl ?_
      exact ⟨rfl, But.refl _ _, H.out⟩
  · have hv : tickT t to = t := by simp [tickT, c1]
    rw [hv]
    go_enter Try.func37, Try.ntmps37
    go_wp2
    refine bodyPost_ret (results_none rfl _ _ _) rfl ?_
    exact ⟨rfl, But.refl _ _, H.out⟩

set_option maxHeartbeats 400000 in
theorem now_nil (w : World) :
    Calls Try.prog 33 #[.pointer none] w fun e w' => e = .returned (.tuple #[.agg #[.int .i64 0, .int .i64 0], .int .i64 7]) ∧ Below w.heap.size w w' := by
  go_enter Try.func33, Try.ntmps33
  go_wp2
  exact bodyPost_ret (v := .tuple #[.agg #[.int .i64 0, .int .i64 0], .int .i64 7]) (by simp [results, Try.results33, go_sem]) rfl ⟨rfl, (Below.refl _ _).alloc (Nat.le_refl _) _⟩

set_option maxHeartbeats 400000 in
theorem now_any (b : Nat) (n t : Int) (w : World) (h : Clk w b n t) (h0 : 0 ≤ t) :
    Calls Try.prog 33 #[.pointer (some ⟨b, 0, none⟩)] w fun e w' => e = .returned (.tuple #[.agg #[.int .i64 (nextS n t).1, .int .i64 (nextS n t).2.1], .int .i64 (nextS n t).2.2]) ∧ But b w w' ∧ Clk w' b n (if 1099511627776 ≤ t then t else t + 1) := by
  have h0' := h.c0
  have h1 := h.c1
  have hf := h.f1
  have hlt := h.lt
  have H := Lib.hid h
  clear h
  by_cases c : 1099511627776 ≤ t
  · rw [if_pos c]
    have hv : nextS n t = (0, 0, 11) := by simp [nextS, c]
    rw [hv]
    go_enter Try.func33, Try.ntmps33
    go_wp2_with fail
    have hB0 : Below w.heap.size w (w.alloc (Obj.cells #[Value.int IntKind.i64 0, Value.int IntKind.i64 0] 23)) := (Below.refl _ _).alloc (Nat.le_refl _) _
    have hR0 := own2_new w 0 0
    generalize w.alloc (Obj.cells #[Value.int IntKind.i64 0, Value.int IntKind.i64 0] 23) = W at *
    have HB := Lib.hid hB0
    have HR := Lib.hid hR0
    have H1 := Lib.hid (H.out.later hB0 hlt)
    have g0 := H1.out.c0
    have g1 := H1.out.c1
    have gf := H1.out.f1
    clear hB0 hR0 h0' h1 hf
    have r0 := HR.out.c0
    have r1 := HR.out.c1
    have rf0 := HR.out.f0
    have rf1 := HR.out.f1
    have hbw : b < W.heap.size := H1.out.lt
    have hrw : w.heap.size < W.heap.size := HR.out.lt
    have hbw1 : ∀ m, b < W.heap.size + m := fun m => by omega
    have hrw1 : ∀ m, w.heap.size < W.heap.size + m := fun m => by omega
    go_region_held3 (fun w' => w'.cell? ⟨b, 0, none⟩ = some (.int .i64 n) ∧ w'.cell? ⟨b, 1, none⟩ = some (.int .i64 t)) (first | go_keep | (go_simp; done) | (simp [cell?_grown_past, *]; done))
      (first | (go_at_call 45; refine (next_any _ _ h0 _).mono ?_; rintro e w' ⟨rfl, q, os, rfl⟩))
    all_goals
      go_wp2
      refine bodyPost_ret (v := .tuple #[.agg #[.int .i64 0, .int .i64 0], .int .i64 11]) (by go_simp; simp [results, Try.results33, go_sem, *]) rfl ⟨rfl, ?_, ?_⟩
      · repeat (first | with_reducible exact But.of_below HB.out | with_reducible refine But.alloc ?_ _ | with_reducible refine But.grown ?_ _ _ | with_reducible refine But.setb ?_ _ _ | (with_reducible refine But.setn ?_ ?_ _; rotate_left; (first | exact Nat.le_refl _ | exact HB.out.size)))
      · repeat (first | with_reducible exact H1.out | with_reducible refine Clk.alloc ?_ _ | with_reducible refine Clk.grown ?_ _ _ | with_reducible refine Clk.set (y := t) ?_ _ | (with_reducible refine Clk.set_other ?_ ?_ _; rotate_left; (first | exact Nat.ne_of_lt hlt | exact Nat.ne_of_lt hbw)))
  · rw [if_neg c]
    have hv : nextS n t = (t + 1, n, 0) := by simp [nextS, c]
    rw [hv]
    go_enter Try.func33, Try.ntmps33
    go_wp2_with fail
    have hB0 : Below w.heap.size w (w.alloc (Obj.cells #[Value.int IntKind.i64 0, Value.int IntKind.i64 0] 23)) := (Below.refl _ _).alloc (Nat.le_refl _) _
    have hR0 := own2_new w 0 0
    generalize w.alloc (Obj.cells #[Value.int IntKind.i64 0, Value.int IntKind.i64 0] 23) = W at *
    have HB := Lib.hid hB0
    have HR := Lib.hid hR0
    have H1 := Lib.hid (H.out.later hB0 hlt)
    have g0 := H1.out.c0
    have g1 := H1.out.c1
    have gf := H1.out.f1
    clear hB0 hR0 h0' h1 hf
    have r0 := HR.out.c0
    have r1 := HR.out.c1
    have rf0 := HR.out.f0
    have rf1 := HR.out.f1
    have hbw : b < W.heap.size := H1.out.lt
    have hrw : w.heap.size < W.heap.size := HR.out.lt
    have hbw1 : ∀ m, b < W.heap.size + m := fun m => by omega
    have hrw1 : ∀ m, w.heap.size < W.heap.size + m := fun m => by omega
    go_region_held3 (fun w' => w'.cell? ⟨b, 0, none⟩ = some (.int .i64 n) ∧ w'.cell? ⟨b, 1, none⟩ = some (.int .i64 t)) (first | go_keep | (go_simp; done) | (simp [cell?_grown_past, *]; done))
      (first | (go_at_call 45; refine (next_any _ _ h0 _).mono ?_; rintro e w' ⟨rfl, q, os, rfl⟩))
    all_goals
      go_wp2
      refine bodyPost_ret (v := .tuple #[.agg #[.int .i64 (t + 1), .int .i64 n], .int .i64 0]) (by go_simp; simp [results, Try.results33, go_sem, *]) rfl ⟨rfl, ?_, ?_⟩
      · repeat (first | with_reducible exact But.of_below HB.out | with_reducible refine But.alloc ?_ _ | with_reducible refine But.grown ?_ _ _ | with_reducible refine But.setb ?_ _ _ | (with_reducible refine But.setn ?_ ?_ _; rotate_left; (first | exact Nat.le_refl _ | exact HB.out.size)))
      · repeat (first | with_reducible exact H1.out | with_reducible refine Clk.alloc ?_ _ | with_reducible refine Clk.grown ?_ _ _ | with_reducible refine Clk.set (y := t) ?_ _ | (with_reducible refine Clk.set_other ?_ ?_ _; rotate_left; (first | exact Nat.ne_of_lt hlt | exact Nat.ne_of_lt hbw)))

def seeT (t : Int) (l : List (Int × Int)) : Int := l.foldl (fun t s => tickT t s.1) t
theorem seeT_take (t : Int) (l : List (Int × Int)) (k : Nat) (x y : Int) (h : l[k]? = some (x, y)) : seeT t (l.take (k + 1)) = tickT (seeT t (l.take k)) x := by
  unfold seeT
  rw [List.take_add_one, h]
  simp [List.foldl_append]
theorem seeT_all (t : Int) (l : List (Int × Int)) (k : Nat) (h : l.length ≤ k) : seeT t (l.take k) = seeT t l := by rw [List.take_of_length_le h]

set_option maxHeartbeats 400000 in
theorem see_any (b : Nat) (n t : Int) (a : Option Addr) (cap : Nat) (l : List (Int × Int)) (w : World) (hlen : l.length ≤ 1000000) (hl : SL w a l) (hx : ∀ bl o, a = some ⟨bl, o, none⟩ → bl ≠ b) (h : Clk w b n t) :
    Calls Try.prog 35 #[.pointer (some ⟨b, 0, none⟩), .slice a l.length cap] w fun e w' => e = .returned (.tuple #[]) ∧ But b w w' ∧ Clk w' b n (seeT t l) := by
  have HL := Lib.hid hl
  have HX := Lib.hid hx
  have H := Lib.hid h
  have hlt := h.lt
  clear hl hx h
  go_enter Try.func35, Try.ntmps35
  go_wp2
  go_loopw [8, 5] (fun i _ wr => ∃ k : Nat, k ≤ l.length ∧ i = .int .i64 k ∧ But b w wr ∧ Clk wr b n (seeT t (l.take k))) (fun i _ _ => l.length - (intOf i).toNat)
  case atStart => exact ⟨0, Nat.zero_le _, rfl, But.refl _ _, H.out⟩
  case round =>
    obtain ⟨k, hk, rfl, hbut, hclk⟩ := hrel
    have HB := Lib.hid hbut
    have HC := Lib.hid hclk
    clear hbut hclk
    by_cases hlt' : k < l.length
    · obtain ⟨x, y, hxy⟩ := at_lt hlt'
      obtain ⟨bl, o, rfl, hb, hl⟩ := HL.out (ne_of_lt hlt')
      obtain ⟨hx, hy⟩ := HB.out.lst hl hb (HX.out bl o rfl) k x y hxy
      have HXY := Lib.hid hxy
      clear hxy hl
      go_wp2_with (go_at_call 37; refine (tick_any _ _ _ _ _ (HC.out.alloc _)).mono ?_; rintro e w' ⟨rfl, hbw, hcw⟩; have HBW := Lib.hid hbw; have HCW := Lib.hid hcw; clear hbw hcw)
      go_roundw
      case rel => exact ⟨k + 1, hlt', by go_num, (HB.out.alloc _).trans HBW.out, by rw [seeT_take _ _ _ _ _ HXY.out]; exact HCW.out⟩
      case measure => simp [intOf]; omega
    · go_wp2
      go_end0
      exact ⟨rfl, HB.out, by rw [← seeT_all t l k (by omega)]; exact HC.out⟩

set_option maxHeartbeats 400000 in
theorem see_nil (a : Option Addr) (cap : Nat) (l : List (Int × Int)) (w : World) (hlen : l.length ≤ 1000000) (hl : SL w a l) :
    Calls Try.prog 35 #[.pointer none, .slice a l.length cap] w fun e w' => e = .returned (.tuple #[]) ∧ Below w.heap.size w w' := by
  have HL := Lib.hid hl
  clear hl
  go_enter Try.func35, Try.ntmps35
  go_wp2
  go_loopw [8, 5] (fun i _ wr => ∃ k : Nat, k ≤ l.length ∧ i = .int .i64 k ∧ Below w.heap.size w wr) (fun i _ _ => l.length - (intOf i).toNat)
  case atStart => exact ⟨0, Nat.zero_le _, rfl, Below.refl _ _⟩
  case round =>
    obtain ⟨k, hk, rfl, hbut⟩ := hrel
    have HB := Lib.hid hbut
    clear hbut
    by_cases hlt' : k < l.length
    · obtain ⟨x, y, hxy⟩ := at_lt hlt'
      obtain ⟨bl, o, rfl, hb, hl⟩ := HL.out (ne_of_lt hlt')
      obtain ⟨hx, hy⟩ := hl.later hb HB.out k x y hxy
      clear hxy hl
      go_wp2_with (go_at_call 37; refine (tick_nil _ _).mono ?_; rintro e w' ⟨rfl, rfl⟩)
      go_roundw
      case rel => exact ⟨k + 1, hlt', by go_num, HB.out.alloc HB.out.size _⟩
      case measure => simp [intOf]; omega
    · go_wp2
      go_end0
      exact ⟨rfl, HB.out⟩

end Go.Proofs.Ytnicdbkjgicliaa
