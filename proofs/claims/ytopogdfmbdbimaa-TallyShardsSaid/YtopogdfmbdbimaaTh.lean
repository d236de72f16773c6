/- A crew: eight truths in a block of their own; add, has, rising, crewOf; Keeps, Nodes. Conditions: lists of at most a million. -/
import Derived.Test.YtopogdfmbdbimaaTf
import Derived.Test.YtopogdfmbdbimaaKe
set_option linter.unusedVariables false
namespace Go.Proofs.Ytopogdfmbdbimaa
open Go.RowKit

def crewA (f : Nat → Bool) : Array Value := #[.bool (f 0), .bool (f 1), .bool (f 2), .bool (f 3), .bool (f 4), .bool (f 5), .bool (f 6), .bool (f 7)]
/-- Block b is a crew's: of each number below 8 whether it is one of them. -/
def Crew (w : World) (b : Nat) (f : Nat → Bool) : Prop := w.heap[b]? = some (.cells (crewA f) 62 (0, 0))
theorem below8 {m : Nat} (h : m < 8) : m = 0 ∨ m = 1 ∨ m = 2 ∨ m = 3 ∨ m = 4 ∨ m = 5 ∨ m = 6 ∨ m = 7 := by omega
theorem Crew.lt {w : World} {b : Nat} {f : Nat → Bool} (h : Crew w b f) : b < w.heap.size := lt_of_block h
theorem Crew.cell {w : World} {b : Nat} {f : Nat → Bool} (h : Crew w b f) {m : Nat} (hm : m < 8) : w.cell? ⟨b, m, none⟩ = some (.bool (f m)) := by
  rw [cell_of_row w b _ _ _ _ h]
  rcases below8 hm with rfl | rfl | rfl | rfl | rfl | rfl | rfl | rfl <;> rfl
theorem Crew.frozen {w : World} {b : Nat} {f : Nat → Bool} (h : Crew w b f) (m : Nat) : w.frozen? ⟨b, m, none⟩ = false := by unfold Crew at h; simp [World.frozen?, h]
theorem Crew.congr {w : World} {b : Nat} {f g : Nat → Bool} (h : Crew w b f) (e : ∀ m, m < 8 → f m = g m) : Crew w b g := by
  unfold Crew crewA at *
  rw [← e 0 (by decide), ← e 1 (by decide), ← e 2 (by decide), ← e 3 (by decide), ← e 4 (by decide), ← e 5 (by decide), ← e 6 (by decide), ← e 7 (by decide)]
  exact h
theorem Crew.set {w : World} {b : Nat} {f : Nat → Bool} (h : Crew w b f) {m : Nat} (hm : m < 8) : Crew (w.setCell ⟨b, m, none⟩ (.bool true)) b (fun n => f n || n == m) := by
  have h2 := block_setCell (i := m) h (.bool true)
  unfold Crew
  rw [h2]
  congr 2
  rcases below8 hm with rfl | rfl | rfl | rfl | rfl | rfl | rfl | rfl <;> simp [crewA]
theorem Crew.later {w wr : World} {b B : Nat} {f : Nat → Bool} (h : Crew w b f) (hb : Below B w wr) (hB : b < B) : Crew wr b f := (hb.block b hB).trans h
theorem crew_new (w : World) (f : Nat → Bool) : Crew (w.alloc (.cells (crewA f) 62)) w.heap.size f := heap_alloc_new w _
theorem Crew.beside {w wr : World} {b k : Nat} {f : Nat → Bool} (h : Crew w b f) (hg : w.grownBy wr (some k)) (hne : b ≠ k) : Crew wr b f := (hg.block b h.lt (fun e => hne (by simpa using e))).trans h
theorem cell_grown {w wr : World} {b g o : Nat} {v : Value} (h : w.grownBy wr (some b)) (hg : g < w.heap.size) (hne : g ≠ b) (hc : w.cell? ⟨g, o, none⟩ = some v) : wr.cell? ⟨g, o, none⟩ = some v := by
  have hb := h.block g hg (fun e => hne (by simpa using e))
  simp only [World.cell?, hb] at *
  exact hc
theorem grown_refl (w : World) (r : Option Nat) : w.grownBy w r := ⟨rfl, rfl, rfl, Nat.le_refl _, fun _ _ _ => rfl⟩
theorem grown_set {x w : World} {b i : Nat} (h : x.grownBy w (some b)) (u : Value) : x.grownBy (w.setCell ⟨b, i, none⟩ u) (some b) :=
  ⟨h.os, h.tape, h.output, by simpa using h.size, fun k hk hne => by
    rw [← h.block k hk hne]
    have hkb : b ≠ k := fun e => hne (by rw [e])
    show (w.heap.modify b _)[k]? = _
    rw [Array.getElem?_modify, if_neg hkb]⟩
theorem grown_trans {x y z : World} {r : Option Nat} (h : x.grownBy y r) (k : y.grownBy z r) : x.grownBy z r :=
  ⟨k.os.trans h.os, k.tape.trans h.tape, k.output.trans h.output, Nat.le_trans h.size k.size, fun n hn hne => (k.block n (Nat.lt_of_lt_of_le hn h.size) hne).trans (h.block n hn hne)⟩
/-- Whether a node is one of a list, as a crew tells it. -/
def inC (l : List Int) (n : Nat) : Bool := nodeB (n : Int) && hasN l (n : Int)
theorem inC_take {l : List Int} {k : Nat} {x : Int} (h : l[k]? = some x) (n : Nat) : inC (l.take (k + 1)) n = (inC (l.take k) n || (nodeB x && (n : Int) == x)) := by
  unfold inC hasN
  rw [List.take_add_one, h, List.any_append]
  simp only [Option.toList_some, List.any_cons, List.any_nil, Bool.or_false]
  cases h1 : (x == (n : Int))
  · have h2 : ((n : Int) == x) = false := by
      have : x ≠ (n : Int) := by simpa using h1
      simpa using fun e => this e.symm
    rw [h2]; simp
  · have e : x = (n : Int) := by simpa using h1
    subst e
    cases nodeB (n : Int) <;> simp
theorem nat_beq (a b : Nat) : ((a : Int) == (b : Int)) = (a == b) := by
  rw [Bool.eq_iff_iff, beq_iff_eq, beq_iff_eq]
  omega

set_option maxRecDepth 100000 in
set_option maxHeartbeats 1000000 in
theorem add_any (b : Nat) (f : Nat → Bool) (a : Option Addr) (c : Nat) (l : List Int) (w : World) (hlen : l.length ≤ 1000000) (hc : Crew w b f) (ha : Il w a c l) (hne : l ≠ [] → ∀ g o, a = some ⟨g, o, none⟩ → g ≠ b) :
    Calls Try.prog 53 #[.pointer (some ⟨b, 0, none⟩), .slice a l.length c] w fun e w' => e = .returned (.tuple #[]) ∧ Crew w' b (fun n => f n || inC l n) ∧ w.grownBy w' (some b) := by
  have HC := Lib.hid hc
  have HA := Lib.hid ha
  have HNE := Lib.hid hne
  clear hc ha hne
  go_enter Try.func53, Try.ntmps53
  go_wp2
  go_loopw [8] (fun i wr => ∃ k : Nat, k ≤ l.length ∧ i = .int .i64 k ∧ Crew wr b (fun n => f n || inC (l.take k) n) ∧ w.grownBy wr (some b)) (fun i _ => l.length - (intOf i).toNat)
  case atStart => exact ⟨0, Nat.zero_le _, rfl, HC.out.congr (fun m _ => by simp [inC, hasN]), grown_refl _ _⟩
  case round =>
    obtain ⟨k, hk, rfl, hcr, hg⟩ := hrel
    by_cases hlt : k < l.length
    · obtain ⟨x, hx⟩ := at_lt hlt
      obtain ⟨g, o, rfl, hgl, d0⟩ := HA.out.at hx
      have c0 := cell_grown hg hgl (HNE.out (ne_of_lt hlt) g o rfl) d0
      have hgw := Nat.lt_of_lt_of_le hgl hg.size
      have hk0 : (0 : Int) ≤ (k : Int) := by omega
      have hk1 : (k : Int) < (l.length : Int) := by omega
      have hdk : decide ((k : Int) < (l.length : Int)) = true := decide_eq_true hk1
      have HX := Lib.hid hx
      have HG := Lib.hid hg
      have HCR := Lib.hid hcr
      clear hx hg hcr d0
      cases hb : nodeB x
      · have HBB := Lib.hid hb
        clear hb
        go_wp2_with (go_at_call 58; refine (isNode_any _ _).mono ?_; rintro r w' ⟨rfl, rfl⟩; rw [HBB.out])
        go_roundw
        case rel => exact ⟨k + 1, hlt, by go_num, HCR.out.congr (fun m _ => by rw [inC_take HX.out, HBB.out]; simp), HG.out⟩
        case measure => simp [intOf]; omega
      · have HBB := Lib.hid hb
        have h17 := nodeB_iff.1 hb
        obtain ⟨m, rfl⟩ := Int.eq_ofNat_of_zero_le (show 0 ≤ x by omega)
        have hm : m < 8 := by omega
        have hm0 : (0 : Int) ≤ (m : Int) := by omega
        have hm1 : (m : Int) < 8 := by omega
        have e0 := HCR.out.cell hm
        have f0 := HCR.out.frozen m
        have hbl := HCR.out.lt
        clear hb h17
        go_wp2_with (go_at_call 58; refine (isNode_any _ _).mono ?_; rintro r w' ⟨rfl, rfl⟩; rw [HBB.out])
        go_roundw
        case rel => exact ⟨k + 1, hlt, by go_num, (HCR.out.set hm).congr (fun n _ => by rw [inC_take HX.out, HBB.out, Bool.or_assoc, Bool.true_and]; rw [nat_beq]), grown_set HG.out _⟩
        case measure => simp [intOf]; omega
    · have hdk : decide ((k : Int) < (l.length : Int)) = false := decide_eq_false (by omega)
      have HCF : Hid (Crew wr b (fun n => f n || inC l n)) := by have h := hcr; rwa [List.take_of_length_le (by omega)] at h
      have HG := Lib.hid hg
      clear hcr hg
      go_wp2
      go_end0
      exact ⟨rfl, HCF.out, HG.out⟩

end Go.Proofs.Ytopogdfmbdbimaa
