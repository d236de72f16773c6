/- Has; lists of numbers: where one is, a clone, what a tally has not of them. Conditions: lists of at most a million numbers. -/
import Derived.Test.YtopogdfmbdbimaaWc
import Derived.Lib.SliceRun
import Derived.Maps.OwnOps
set_option linter.unusedVariables false
namespace Go.Proofs.Ytopogdfmbdbimaa
open Go.RowKit Go.Sort Go.Shelf Go.Maps

theorem zeroU (w : World) : (zeroValue 58).run Try.prog w = .ok (.agg #[]) w := by kernel_rfl
/-- Block b is a tally of the program's: its shards, its nodes, its map. -/
def Tly (w : World) (b : Nat) (vs vn : Value) (mb : Nat) : Prop := w.heap[b]? = some (.cells #[vs, vn, .map (some mb)] 48 (0, 0))
theorem Tly.lt {w : World} {b : Nat} {vs vn : Value} {mb : Nat} (h : Tly w b vs vn mb) : b < w.heap.size := lt_of_block h
theorem Tly.c0 {w : World} {b : Nat} {vs vn : Value} {mb : Nat} (h : Tly w b vs vn mb) : w.cell? ⟨b, 0, none⟩ = some vs := by rw [cell_of_row w b _ _ _ _ h]; rfl
theorem Tly.c1 {w : World} {b : Nat} {vs vn : Value} {mb : Nat} (h : Tly w b vs vn mb) : w.cell? ⟨b, 1, none⟩ = some vn := by rw [cell_of_row w b _ _ _ _ h]; rfl
theorem Tly.c2 {w : World} {b : Nat} {vs vn : Value} {mb : Nat} (h : Tly w b vs vn mb) : w.cell? ⟨b, 2, none⟩ = some (.map (some mb)) := by rw [cell_of_row w b _ _ _ _ h]; rfl
theorem Tly.f {w : World} {b : Nat} {vs vn : Value} {mb : Nat} (h : Tly w b vs vn mb) (i : Nat) : w.frozen? ⟨b, i, none⟩ = false := by unfold Tly at h; simp [World.frozen?, h]
theorem Tly.later {B : Nat} {w wr : World} {b : Nat} {vs vn : Value} {mb : Nat} (h : Tly w b vs vn mb) (hw : Below B w wr) (hb : b < B) : Tly wr b vs vn mb := (hw.block b hb).trans h
/-- Whether a node has answered. -/
def inD (D : DataW Unit) (n : Int) : Bool := Maps.has D (.int .i64 n)

set_option maxHeartbeats 1000000 in
theorem thas_any (b mb k : Nat) (vs vn : Value) (D : DataW Unit) (n : Int) (w : World) (hwf : (Lit.int .i64 n).wf = true) (hb : Tly w b vs vn mb) (hm : MapI w mb k D) :
    Calls Try.prog 24 #[.pointer (some ⟨b, 0, none⟩), .int .i64 n] w fun e w' => e = .returned (.bool (inD D n)) ∧ Below w.heap.size w w' := by
  have c2 := hb.c2
  have hbl := hb.lt
  have HM := Lib.hid hm
  have HK := Lib.hid (keyOf_int_mk Try.underlying3 hwf)
  clear hb hm hwf
  go_enter Try.func24, Try.ntmps24
  go_wp2_with (at_lookup; refine wpList_lookup_own_unit _ rfl _ _ 46 rfl 3 58 lawI Try.underlying46 (zeroU _) mb k D rfl HM.out _ _ rfl HK.out ?_)
  go_ret
  exact ⟨rfl, blAlloc (Below.refl _ w) _⟩

set_option maxHeartbeats 1000000 in
theorem cloneI_any (a : Option Addr) (c : Nat) (l : List Int) (w : World) (hlen : l.length ≤ 1000000) (hl : Il w a c l) :
    Calls Try.prog 51 #[.slice a l.length c] w (RetI w l) := by
  have q22 : ∀ (w : World) (a : Option Addr) (n c n' c' : Nat), (binOp .eql 23 (.slice a n c) (.slice none n' c')).run Try.prog w = .ok (.bool a.isNone) w := fun w a n c n' c' => Lib.run_eql_slice_nil w _ _ a n c n' c' Try.underlying23
  have HL := Lib.hid hl
  cases a with
  | none =>
    obtain rfl : l = [] := by
      apply Classical.byContradiction
      intro hne
      obtain ⟨_, _, h, _⟩ := hl.2 hne
      cases h
    clear hl
    go_enter Try.func51, Try.ntmps51
    go_wp2
    go_ret
    exact ⟨_, rfl, OwnI.nil _ _, Below.refl _ _⟩
  | some a =>
    clear hl
    go_enter Try.func51, Try.ntmps51
    go_wp2_with (at_builtin; refine append_i rfl _ _ rfl w.heap.size _ [] rfl (own_emptyI _ _ _ rfl (Nat.le_refl _)) _ _ _ l rfl rfl (HL.out.later (blAlloc (Below.refl _ _) _)) (by simp; omega) (by simp) ?_; intro v1 w3 h1 h2; have H1 := Lib.hid h1; have H2 := Lib.hid (grown_belowI (blAlloc (Below.refl _ w) _) (own_emptyI w _ w.heap.size rfl (Nat.le_refl _)) (Nat.le_refl _) (by simp) h2); clear h1 h2)
    go_ret
    exact ⟨v1, rfl, H1.out, H2.out⟩

/-- Where the first one is that p holds of, or -1. -/
def idxP (p : Int → Bool) (l : List Int) : Int := if l.any p then (l.findIdx p : Int) else -1
theorem idx_hit {p : Int → Bool} {l : List Int} {k : Nat} {x : Int} (hx : l[k]? = some x) (hp : p x = true) (hn : (l.take k).any p = false) : idxP p l = (k : Int) := by
  obtain ⟨h, rfl⟩ := List.getElem?_eq_some_iff.1 hx
  have ha : l.any p = true := List.any_eq_true.2 ⟨_, List.getElem_mem h, hp⟩
  unfold idxP
  rw [if_pos ha]
  congr 1
  refine (List.findIdx_eq h).2 ⟨hp, fun j hj => ?_⟩
  have hj2 : j < (l.take k).length := by rw [List.length_take]; omega
  have := List.any_eq_false.1 hn (l.take k)[j] (List.getElem_mem hj2)
  rw [List.getElem_take] at this
  simpa using this
theorem idx_miss {p : Int → Bool} {l : List Int} (hn : l.any p = false) : idxP p l = -1 := by simp [idxP, hn]
theorem any_take_s {p : Int → Bool} {l : List Int} {k : Nat} {x : Int} (hx : l[k]? = some x) (hn : (l.take k).any p = false) (hp : p x = false) : (l.take (k + 1)).any p = false := by
  rw [List.take_add_one, hx, List.any_append, hn]
  simp [hp]

set_option maxHeartbeats 1000000 in
theorem index_any (a : Option Addr) (c : Nat) (l : List Int) (n : Int) (w : World) (hlen : l.length ≤ 1000000) (hl : Il w a c l) :
    Calls Try.prog 52 #[.slice a l.length c, .int .i64 n] w fun e w' => e = .returned (.int .i64 (idxP (· == n) l)) ∧ Below w.heap.size w w' := by
  have HL := Lib.hid hl
  clear hl
  go_enter Try.func52, Try.ntmps52
  go_wp2
  go_loopw [8] (fun i wr => ∃ k : Nat, k ≤ l.length ∧ i = .int .i64 k ∧ (l.take k).any (· == n) = false ∧ Below w.heap.size w wr) (fun i _ => l.length - (intOf i).toNat)
  case atStart => exact ⟨0, Nat.zero_le _, rfl, rfl, Below.refl _ _⟩
  case round =>
    obtain ⟨k, hk, rfl, hn, hb⟩ := hrel
    by_cases hlt : k < l.length
    · obtain ⟨x, hx⟩ := at_lt hlt
      obtain ⟨g, o, rfl, hg, d0⟩ := HL.out.at hx
      have c0 := cell_in hb hg d0
      have hgw := Nat.lt_of_lt_of_le hg hb.size
      have hk0 : (0 : Int) ≤ (k : Int) := by omega
      have hk1 : (k : Int) < (l.length : Int) := by omega
      have hdk : decide ((k : Int) < (l.length : Int)) = true := decide_eq_true hk1
      have HX := Lib.hid hx
      have HB := Lib.hid hb
      have HN := Lib.hid hn
      clear hx hb hn d0
      by_cases he : n = x
      · subst he
        have HE := Lib.hid (idx_hit (p := fun y => y == n) HX.out (by simp) HN.out)
        go_wp2
        go_ret
        exact ⟨ret_int HE.out.symm, HB.out⟩
      · have hbe : ((n : Int) == x) = false := by simpa using he
        go_wp2
        go_roundw
        case rel => exact ⟨k + 1, hlt, by go_num, any_take_s HX.out HN.out (by simpa using fun e => he e.symm), HB.out⟩
        case measure => simp [intOf]; omega
    · have hdk : decide ((k : Int) < (l.length : Int)) = false := decide_eq_false (by omega)
      rw [List.take_of_length_le (by omega)] at hn
      have HE := Lib.hid (idx_miss hn)
      clear hn
      go_wp2
      go_ret
      exact ⟨ret_int HE.out.symm, hb⟩

theorem idx_ge (p : Int → Bool) (l : List Int) : decide ((0 : Int) ≤ idxP p l) = l.any p := by
  unfold idxP
  cases h : l.any p <;> simp
set_option maxHeartbeats 1000000 in
theorem contains_any (a : Option Addr) (c : Nat) (l : List Int) (n : Int) (w : World) (hlen : l.length ≤ 1000000) (hl : Il w a c l) :
    Calls Try.prog 43 #[.slice a l.length c, .int .i64 n] w fun e w' => e = .returned (.bool (hasN l n)) ∧ Below w.heap.size w w' := by
  have HL := Lib.hid hl
  have HE := Lib.hid (idx_ge (· == n) l)
  clear hl
  have HI := Lib.hid (index_any a c l n w hlen HL.out)
  clear hlen
  go_enter Try.func43, Try.ntmps43
  go_wp2_with (go_at_call 52; refine HI.out.mono ?_; rintro e w' ⟨rfl, hb⟩; have HB := Lib.hid hb; clear hb)
  go_ret
  exact ⟨ret_bool HE.out, HB.out⟩

end Go.Proofs.Ytopogdfmbdbimaa
