/- The reference's clock, and a law's argument that is a list of acts. Conditions: times from 0 to MaxTime; lists of at most a million stamps. -/
import Derived.Test.YtnicdbkjgicliaaSw
import Derived.Deep.Strs
namespace Go.Proofs.Ytnicdbkjgicliaa
open Go.ChangeShapes Go.WideShapes Go.ChangeAt Go.RowKit Go.Joins Go.Deep Go.Sort

/-- Block b holds these cells, of which none is frozen. -/
def Blk (w : World) (b : Nat) (c : Array Value) (t : TypeId) : Prop := w.heap[b]? = some (.cells c t (0, 0))
theorem Blk.lt {w : World} {b : Nat} {c : Array Value} {t : TypeId} (h : Blk w b c t) : b < w.heap.size := lt_of_block h
theorem Blk.cell {w : World} {b : Nat} {c : Array Value} {t : TypeId} (h : Blk w b c t) (i : Nat) (v : Value) (hi : c[i]? = some v) : w.cell? ⟨b, i, none⟩ = some v := by unfold Blk at h; simp [World.cell?, h, hi]
theorem Blk.free {w : World} {b : Nat} {c : Array Value} {t : TypeId} (h : Blk w b c t) (i : Nat) : w.frozen? ⟨b, i, none⟩ = false := by unfold Blk at h; simp [World.frozen?, h]
theorem Blk.later {w wr : World} {b B : Nat} {c : Array Value} {t : TypeId} (h : Blk w b c t) (hb : Below B w wr) (hB : b < B) : Blk wr b c t := (hb.block b hB).trans h
theorem Blk.aft {w wr : World} {b : Nat} {c : Array Value} {t : TypeId} (h : Blk w b c t) (hb : Below w.heap.size w wr) : Blk wr b c t := h.later hb h.lt
theorem Blk.alloc {w : World} {b : Nat} {c : Array Value} {t : TypeId} (h : Blk w b c t) (ob : Obj) : Blk (w.alloc ob) b c t := h.aft ((Below.refl _ _).alloc (Nat.le_refl _) _)
theorem Blk.but {w wr : World} {b d : Nat} {c : Array Value} {t : TypeId} (h : Blk w b c t) (hb : But d w wr) (hne : b ≠ d) : Blk wr b c t := (hb.block b h.lt (by simpa using hne)).trans h
theorem Blk.set_other {w : World} {b : Nat} {c : Array Value} {t : TypeId} (h : Blk w b c t) {p : Addr} (hp : b ≠ p.block) (u : Value) : Blk (w.setCell p u) b c t := (Below.heap_setCell _ _ _ _ hp).trans h
theorem Blk.set {w : World} {b : Nat} {c : Array Value} {t : TypeId} (h : Blk w b c t) (i : Nat) (u : Value) : Blk (w.setCell ⟨b, i, none⟩ u) b (c.setIfInBounds i u) t := block_setCell h u
theorem Blk.drew {w : World} {b : Nat} {c : Array Value} {t : TypeId} (h : Blk w b c t) : Blk w.drew b c t := h
theorem blk_new (w : World) (c : Array Value) (t : TypeId) : Blk (w.alloc (.cells c t)) w.heap.size c t := by
  show (w.heap.push _)[w.heap.size]? = _
  simp
theorem blk_new' (w : World) (c : Array Value) (t : TypeId) (n : Nat) (hn : n = w.heap.size) : Blk (w.alloc (.cells c t)) n c t := by subst hn; exact blk_new w c t
theorem Clk.but {w wr : World} {b d : Nat} {x y : Int} (h : Clk w b x y) (hb : But d w wr) (hne : b ≠ d) : Clk wr b x y := (hb.block b h.lt (by simpa using hne)).trans h
theorem Clk.aft {w wr : World} {b : Nat} {x y : Int} (h : Clk w b x y) (hb : Below w.heap.size w wr) : Clk wr b x y := h.later hb h.lt

/-- Block b is a clock of the reference. -/
def Rck (w : World) (b : Nat) (n t : Int) : Prop := Blk w b #[.int .i64 n, .int .i64 t] 52

set_option maxHeartbeats 1000000 in
theorem reftick_any (b : Nat) (n t to : Int) (w : World) (h : Rck w b n t) :
    Calls Try.prog 38 #[.pointer (some ⟨b, 0, none⟩), .int .i64 to] w fun e w' => e = .returned (.tuple #[]) ∧ But b w w' ∧ Rck w' b n (tickT t to) := by
  have h1 : w.cell? ⟨b, 1, none⟩ = some (.int .i64 t) := h.cell 1 _ rfl
  have hf : w.frozen? ⟨b, 1, none⟩ = false := h.free 1
  have H := Lib.hid h
  clear h
  by_cases c2 : to ≤ 1099511627776
  · by_cases c1 : t < to
    · have hv : tickT t to = to := by simp [tickT, c1, c2]
      rw [hv]
      go_enter Try.func38, Try.ntmps38
      go_wp2
      go_end0
      exact ⟨rfl, But.set _ _ _ _, H.out.set 1 _⟩
    · have hv : tickT t to = t := by simp [tickT, c1]
      rw [hv]
      go_enter Try.func38, Try.ntmps38
      go_wp2
      go_end0
      exact ⟨rfl, But.set _ _ _ _, H.out.set 1 _⟩
  · have hv : tickT t to = t := by simp [tickT, c2]
    rw [hv]
    go_enter Try.func38, Try.ntmps38
    go_wp2
    go_end0
    exact ⟨rfl, But.refl _ _, H.out⟩

set_option maxHeartbeats 1000000 in
theorem refsee_any (b : Nat) (n t : Int) (a : Option Addr) (cap : Nat) (l : List (Int × Int)) (w : World) (hlen : l.length ≤ 1000000) (hl : SL w a l) (hx : ∀ bl o, a = some ⟨bl, o, none⟩ → l ≠ [] → bl ≠ b) (h : Rck w b n t) :
    Calls Try.prog 36 #[.pointer (some ⟨b, 0, none⟩), .slice a l.length cap] w fun e w' => e = .returned (.tuple #[]) ∧ But b w w' ∧ Rck w' b n (seeT t l) := by
  have HL := Lib.hid hl
  have HX := Lib.hid hx
  have H := Lib.hid h
  have hlt := h.lt
  clear hl hx h
  go_enter Try.func36, Try.ntmps36
  go_wp2
  go_loopw [4] (fun i wr => ∃ k : Nat, k ≤ l.length ∧ i = .int .i64 k ∧ But b w wr ∧ Rck wr b n (seeT t (l.take k))) (fun i _ => l.length - (intOf i).toNat)
  case atStart => exact ⟨0, Nat.zero_le _, rfl, But.refl _ _, H.out⟩
  case round =>
    obtain ⟨k, hk, rfl, hbut, hclk⟩ := hrel
    have HB := Lib.hid hbut
    have HC := Lib.hid hclk
    clear hbut hclk
    by_cases hlt' : k < l.length
    · obtain ⟨x, y, hxy⟩ := at_lt hlt'
      obtain ⟨bl, o, rfl, hb, hl⟩ := HL.out (ne_of_lt hlt')
      obtain ⟨hx, hy⟩ := HB.out.lst hl hb (HX.out bl o rfl (ne_of_lt hlt')) k x y hxy
      have HXY := Lib.hid hxy
      clear hxy hl
      go_wp2_with (go_at_call 38; refine (reftick_any _ _ _ _ _ HC.out).mono ?_; rintro e w' ⟨rfl, hbw, hcw⟩; have HBW := Lib.hid hbw; have HCW := Lib.hid hcw; clear hbw hcw)
      go_roundw
      case rel => exact ⟨k + 1, hlt', by go_num, HB.out.trans HBW.out, by rw [seeT_take _ _ _ _ _ HXY.out]; exact HCW.out⟩
      case measure => simp [intOf]; omega
    · go_wp2
      go_end0
      exact ⟨rfl, HB.out, by rw [← seeT_all t l k (by omega)]; exact HC.out⟩

set_option maxHeartbeats 1000000 in
theorem refnow_any (b : Nat) (n t : Int) (w : World) (h : Rck w b n t) (h0 : 0 ≤ t) (hM : t ≤ 1099511627776) :
    Calls Try.prog 34 #[.pointer (some ⟨b, 0, none⟩)] w fun e w' => e = .returned (.tuple #[.agg #[.int .i64 (nextS n t).1, .int .i64 (nextS n t).2.1], .int .i64 (nextS n t).2.2]) ∧ But b w w' ∧ Rck w' b n (if 1099511627776 ≤ t then t else t + 1) := by
  have g0 : w.cell? ⟨b, 0, none⟩ = some (.int .i64 n) := h.cell 0 _ rfl
  have g1 : w.cell? ⟨b, 1, none⟩ = some (.int .i64 t) := h.cell 1 _ rfl
  have hf : w.frozen? ⟨b, 1, none⟩ = false := h.free 1
  have hlt := h.lt
  have H := Lib.hid h
  clear h
  by_cases c : 1099511627776 ≤ t
  · rw [if_pos c]
    have hv : nextS n t = (0, 0, 11) := by simp [nextS, c]
    rw [hv]
    obtain rfl : t = 1099511627776 := by omega
    clear hv c
    go_enter Try.func34, Try.ntmps34
    go_wp2
    exact bodyPost_ret (v := .tuple #[.agg #[.int .i64 0, .int .i64 0], .int .i64 11]) (by simp [results, Try.results34, go_sem]) rfl ⟨rfl, (But.refl _ _).alloc _, H.out.alloc _⟩
  · rw [if_neg c]
    have hv : nextS n t = (t + 1, n, 0) := by simp [nextS, c]
    rw [hv]
    have hcb : (t == 1099511627776) = false := by
      simp only [beq_eq_false_iff_ne]
      omega
    clear hv
    go_enter Try.func34, Try.ntmps34
    go_wp2
    have hR : Own2 ((w.setCell ⟨b, 1, none⟩ (.int .i64 (t + 1))).alloc (Obj.cells #[Value.int IntKind.i64 0, Value.int IntKind.i64 0] 23)) w.heap.size 0 0 := by
      have h := own2_new (w.setCell ⟨b, 1, none⟩ (.int .i64 (t + 1))) 0 0
      rwa [World.size_setCell] at h
    have hC : Rck ((w.setCell ⟨b, 1, none⟩ (.int .i64 (t + 1))).alloc (Obj.cells #[Value.int IntKind.i64 0, Value.int IntKind.i64 0] 23)) b n (t + 1) := (H.out.set 1 (.int .i64 (t + 1))).alloc _
    have hB : But b w ((w.setCell ⟨b, 1, none⟩ (.int .i64 (t + 1))).alloc (Obj.cells #[Value.int IntKind.i64 0, Value.int IntKind.i64 0] 23)) := ((But.refl _ _).setb _ _).alloc _
    generalize (w.setCell ⟨b, 1, none⟩ (.int .i64 (t + 1))).alloc (Obj.cells #[Value.int IntKind.i64 0, Value.int IntKind.i64 0] 23) = W at *
    have HR := Lib.hid hR
    have HC := Lib.hid hC
    have HB := Lib.hid hB
    have r0 := hR.c0
    have r1 := hR.c1
    have rf0 := hR.f0
    have rf1 := hR.f1
    have k0 : W.cell? ⟨b, 0, none⟩ = some (.int .i64 n) := hC.cell 0 _ rfl
    have k1 : W.cell? ⟨b, 1, none⟩ = some (.int .i64 (t + 1)) := hC.cell 1 _ rfl
    have hne : ¬ w.heap.size = b := by omega
    clear hR hC hB g0 g1 hf
    go_region_held3 (fun w' => w'.cell? ⟨b, 0, none⟩ = some (.int .i64 n) ∧ w'.cell? ⟨b, 1, none⟩ = some (.int .i64 (t + 1))) (first | (simp [*, World.cell?_setCell_other]; done) | (go_keep; done)) (first | fail)
    all_goals
      go_wp2
      exact bodyPost_ret (v := .tuple #[.agg #[.int .i64 (t + 1), .int .i64 n], .int .i64 0]) (by simp [results, Try.results34, go_sem, ((HR.out.set (t + 1) n).c0), ((HR.out.set (t + 1) n).c1)]) rfl ⟨rfl, (((HB.out.setn (p := ⟨w.heap.size, 0, none⟩) (Nat.le_refl _) _).setn (p := ⟨w.heap.size, 1, none⟩) (Nat.le_refl _) _)).drew, Blk.drew ((HC.out.set_other (by simpa using fun h => hne h.symm) _).set_other (by simpa using fun h => hne h.symm) _)⟩

end Go.Proofs.Ytnicdbkjgicliaa
