/- A drum's New, Read; what a file loses when the power fails. Conditions: none. -/
import Derived.Carry
import Derived.Test.YtddbmibfebhmjaaMg24
import Derived.Test.YtddbmibfebhmjaaMg21
set_option maxRecDepth 100000
set_option maxHeartbeats 16000000
set_option linter.unusedVariables false
namespace Go.Proofs.Ytddbmibfebhmjaa
open S2
namespace SZ
open Go.RowKit
def NewD (w : World) (room : Int) (e : Ending) (w' : World) : Prop := ∃ b, e = .returned (.tuple #[.pointer (some ⟨b, 0, none⟩), .int .i64 0]) ∧ w.heap.size ≤ b ∧ Keeps (fun _ => False) w w' ∧ PAt w' b (Grow (fun _ => False) w w') (newD room)
theorem new_good (room : Int) (h0 : 0 ≤ room) (h1 : room ≤ 4194304) (w : World) : Calls Try.prog 10 #[.int .i64 room] w (NewD w room) := by
 have hmm := @run_makeMap Try.prog
 have hwf : (Lit.int .i64 room).wf = true := WalkArith.wf_i64 (by omega)
 go_enter Try.func10, Try.ntmps10
 go_wp2
 refine bodyPost_ret (results_tmp2 rfl _ _ _) rfl ?_
 have hk1 : Keeps (fun _ => False) w (w.alloc (.map #[] 0)) := Keeps.alloc _ _ _
 have hk2 : Keeps (fun _ => False) (w.alloc (.map #[] 0)) ((w.alloc (.map #[] 0)).alloc (.cells #[.map (some w.heap.size), .int .i64 room, .int .i64 (-1), .bool false, .int .i64 0] 73)) := Keeps.alloc _ _ _
 have hb := heap_alloc_new (w.alloc (.map #[] 0)) (.cells #[.map (some w.heap.size), .int .i64 room, .int .i64 (-1), .bool false, .int .i64 0] 73)
 have hm := (mapT_new w).of (hk2.block _ (mapT_new w).lt (fun h => h))
 have hz : (w.alloc (.map #[] 0)).heap.size = w.heap.size + 1 := World.size_alloc _ _
 have hz2 : ((w.alloc (.map #[] 0)).alloc (.cells #[.map (some w.heap.size), .int .i64 room, .int .i64 (-1), .bool false, .int .i64 0] 73)).heap.size = w.heap.size + 1 + 1 := by rw [World.size_alloc, hz]
 rw [hz] at hb
 refine ⟨w.heap.size + 1, rfl, by omega, hk1.then hk2, w.heap.size, 0, -1, .map [], fun _ => none, fun _ => .slice none 0 0, ⟨newD_good h0 h1, ?_, fun _ => rfl, by decide, hm, repP_nil, fun _ => rfl, (fun f hf => by cases hf), (fun f hf => by cases hf), (fun s s' t h => by cases h), (fun f hf => by cases hf), .inr ⟨by omega, by omega⟩, .inr ⟨by omega, by omega⟩, fun k hk => ?_⟩, Nat.le_refl _⟩
 ·rw [hb]
  have e : Dm.free (newD room) = room := by show room - ((0 : Nat) : Int) = room; omega
  rw [e]
  rfl
 ·rcases hk with hk | hk
  ·exact hk.elim
  ·exact hk.2
def ReadR (w : World) (r : List UInt8 × Int) (e : Ending) (w' : World) : Prop := ∃ v g, e = .returned (.tuple #[v, .int .i64 r.2]) ∧ Row w' g v r.1 ∧ New w g ∧ Keeps (fun _ => False) w w'
theorem read_any {w : World} {b : Nat} {S : Nat → Prop} {D : Dm} {m nn : Nat} {lf : Int} {M : DataW Value} {tb : Int → Option Nat} {rv : Int → Value} (n : Int) (h : PMem w b S D m nn lf M tb rv) :
  Calls Try.prog 36 #[.pointer (some ⟨b, 0, none⟩), .int .i64 n] w (ReadR w (readD D n)) := by
 have hck := check_any b n
 cases hg : goodN n
 ·rw [hg] at hck
  have HCK := Lib.hid hck
  have hr : readD D n = ([], 2) := by unfold readD; rw [if_pos hg]
  rw [hr]
  clear hck h hr
  go_enter Try.func36, Try.ntmps36
  go_wp2_with (go_at_call 63; refine (HCK.out _).mono ?_; rintro r w' ⟨rfl, rfl⟩)
  refine bodyPost_ret (results_tmp2 rfl _ _ _) rfl ?_
  exact ⟨_, none, rfl, Row.nil _, New.none _, Keeps.refl _ _⟩
 ·rw [hg] at hck
  have HCK := Lib.hid hck
  have hng : ¬ (goodN n = false) := by rw [hg]; decide
  have c0 := blk_cell h.blk 0
  have c3 := blk_cell h.blk 3
  have hlb := lt_of_block h.blk
  simp at c0 c3
  clear hck
  cases hoff : D.off
  ·rw [hoff] at c3
   have hlk := mapT_look h.map h.rep (goodN_wf hg)
   cases ht : tb n with
   | none =>
    rw [ht] at hlk
    simp only [ptO, Option.map_none] at hlk
    have hr : readD D n = ([], 7) := by unfold readD; rw [if_neg hng, if_neg (by rw [hoff]; decide), h.tb_none ht]
    rw [hr]
    clear h hr
    go_enter Try.func36, Try.ntmps36
    go_wp2_with (go_at_call 63; refine (HCK.out _).mono ?_; rintro r w' ⟨rfl, rfl⟩)
    refine bodyPost_ret (results_tmp2 rfl _ _ _) rfl ?_
    exact ⟨_, none, rfl, Row.nil _, New.none _, Keeps.refl _ _⟩
   | some t =>
    rw [ht] at hlk
    simp only [ptO, Option.map_some] at hlk
    obtain ⟨f, hgf⟩ := h.tb_get ht
    obtain ⟨hf, hfn⟩ := getF_some hgf
    have htn : tb f.n = some t := by rw [hfn]; exact ht
    have t0 := blk_cell (h.trk f hf t htn).1 0
    have hlt := lt_of_block (h.trk f hf t htn).1
    simp at t0
    have hr : readD D n = (f.b, 0) := by unfold readD; rw [if_neg hng, if_neg (by rw [hoff]; decide), hgf]
    rw [hr]
    have HCL := Lib.hid (clone_any w _ _ _ (h.row f hf).1.bs (by have := h.good.blen hf; omega))
    obtain ⟨va, vc, hva⟩ := row_slice (h.row f hf).1
    rw [hva] at t0 HCL
    clear h hr hgf hf hfn htn ht hva
    go_enter Try.func36, Try.ntmps36
    go_wp2_with (first
     | (go_at_call 63; refine (HCK.out _).mono ?_; rintro r w' ⟨rfl, rfl⟩)
     | (go_at_call 64; refine HCL.out.mono ?_; rintro r w1 ⟨v, g, rfl, h1, h2, h3⟩; have H1 := Lib.hid h1; have H2 := Lib.hid h2; have H3 := Lib.hid h3; clear h1 h2 h3))
    refine bodyPost_ret (results_tmp2 rfl _ _ _) rfl ?_
    exact ⟨_, g, rfl, H1.out, H2.out, Keeps.ofBelow H3.out⟩
  ·rw [hoff] at c3
   have hr : readD D n = ([], 140) := by unfold readD; rw [if_neg hng, if_pos hoff]
   rw [hr]
   clear h hr
   go_enter Try.func36, Try.ntmps36
   go_wp2_with (go_at_call 63; refine (HCK.out _).mono ?_; rintro r w' ⟨rfl, rfl⟩)
   refine bodyPost_ret (results_tmp2 rfl _ _ _) rfl ?_
   exact ⟨_, none, rfl, Row.nil _, New.none _, Keeps.refl _ _⟩
end SZ
end Go.Proofs.Ytddbmibfebhmjaa
