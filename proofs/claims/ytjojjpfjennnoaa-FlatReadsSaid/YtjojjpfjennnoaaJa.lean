/- The reference's eye: taking, numbers, opening, the sum. Conditions: as each theorem states. -/
import Derived.Test.YtjojjpfjennnoaaHb
namespace Go.Proofs.Ytjojjpfjennnoaa
open Go.RowKit Go.Deep

/-- The reference's eye: in block b, upon the bytes B in block g, at the i-th. -/
def RAt (w : World) (b g : Nat) (B : List UInt8) (i : Nat) (bl : Bool) : Prop :=
  ∃ v, w.heap[b]? = some (.cells #[v, .int .i64 (i : Int), .bool bl] 56 (0, 0)) ∧ Bs w g v B ∧ i ≤ B.length ∧ B.length ≤ 20000 ∧ (B ≠ [] → g ≠ b)
theorem RAt.lt {w : World} {b g : Nat} {B : List UInt8} {i : Nat} {bl : Bool} (h : RAt w b g B i bl) : b < w.heap.size := by
  obtain ⟨v, hv, _⟩ := h
  exact lt_of_block hv
theorem RAt.keep {S : Nat → Prop} {w w' : World} {b g : Nat} {B : List UInt8} {i : Nat} {bl : Bool} (h : RAt w b g B i bl) (k : Keeps S w w') (hb : ¬ S b) (hg : B ≠ [] → ¬ S g) : RAt w' b g B i bl := by
  obtain ⟨v, hv, h1, h2⟩ := h
  exact ⟨v, (k.block b (lt_of_block hv) hb).trans hv, h1.keep k hg, h2⟩
theorem RAt.before {w x : World} {b g : Nat} {B : List UInt8} {i : Nat} {bl : Bool} (h : RAt w b g B i bl) (k : Keeps (fun _ => False) w x) : RAt x b g B i bl := h.keep k (fun h => h) (fun _ h => h)
theorem RAt.set {w : World} {b g : Nat} {B : List UInt8} {i : Nat} {bl : Bool} (h : RAt w b g B i bl) (j : Nat) (hj : j ≤ B.length) : RAt (w.setCell ⟨b, 1, none⟩ (.int .i64 (j : Int))) b g B j bl := by
  obtain ⟨v, hv, h1, _, h3, h4⟩ := h
  exact ⟨v, block_setCell hv _, h1.keep (S := Only b) (Keeps.setCell (S := Only b) (p := ⟨b, 1, none⟩) (fun _ => rfl) _) (fun hne e => h4 hne e), hj, h3, h4⟩
theorem RAt.dim {w : World} {b g : Nat} {B : List UInt8} {i : Nat} {bl : Bool} (h : RAt w b g B i bl) : RAt (w.setCell ⟨b, 2, none⟩ (.bool true)) b g B i true := by
  obtain ⟨v, hv, h1, h2, h3, h4⟩ := h
  exact ⟨v, block_setCell hv _, h1.keep (S := Only b) (Keeps.setCell (S := Only b) (p := ⟨b, 2, none⟩) (fun _ => rfl) _) (fun hne e => h4 hne e), h2, h3, h4⟩
/-- The eye's three cells. -/
theorem RAt.cells {w : World} {b g : Nat} {B : List UInt8} {i : Nat} {bl : Bool} (h : RAt w b g B i bl) :
    ∃ a c, Bs w g (.slice a B.length c) B ∧ w.cell? ⟨b, 0, none⟩ = some (.slice a B.length c) ∧ w.cell? ⟨b, 1, none⟩ = some (.int .i64 (i : Int)) ∧ w.cell? ⟨b, 2, none⟩ = some (.bool bl) ∧ w.frozen? ⟨b, 1, none⟩ = false ∧ w.frozen? ⟨b, 2, none⟩ = false ∧ b < w.heap.size ∧ i ≤ B.length ∧ B.length ≤ 20000 := by
  obtain ⟨v, hv, h1, h2, h3, h4⟩ := h
  have hf : ∃ a c, v = .slice a B.length c := by
    rcases h1 with ⟨rfl, rfl⟩ | ⟨o, cap, rfl, _⟩
    · exact ⟨_, _, rfl⟩
    · exact ⟨_, _, rfl⟩
  obtain ⟨a, c, rfl⟩ := hf
  exact ⟨a, c, h1, by rw [cell_of_row _ _ _ _ _ _ hv]; rfl, by rw [cell_of_row _ _ _ _ _ _ hv]; rfl, by rw [cell_of_row _ _ _ _ _ _ hv]; rfl, frozen_of_row _ _ _ _ _ hv, frozen_of_row _ _ _ _ _ hv, lt_of_block hv, h2, h3⟩

theorem leN_cons (x : UInt8) (r : List UInt8) (h : r.length < 8) : bits .or .u64 (IntKind.u64.wrap ((leN r : Int) * 2 ^ 8)) (IntKind.u64.wrap (x.toNat : Int)) = (leN (x :: r) : Int) := by
  have hx : x.toNat < 256 := x.toNat_lt
  have h1 := leN_lt r
  have h2 : leN r * 256 < 18446744073709551616 := by
    have h5 := pow_le64 (k := r.length + 1) (by omega)
    have e3 : 2 ^ (8 * (r.length + 1)) = 256 * 2 ^ (8 * r.length) := by rw [Nat.mul_add, Nat.pow_add, Nat.mul_comm]
    omega
  have e1 : IntKind.u64.wrap ((leN r : Int) * 2 ^ 8) = ((leN r * 256 : Nat) : Int) := by
    have e : IntKind.u64.wrap ((leN r : Int) * 2 ^ 8) = ((leN r : Int) * 2 ^ 8) % 18446744073709551616 := rfl
    rw [e]
    omega
  rw [wrap_byte, e1, u64_or_nat _ _ h2 (by omega)]
  have := Nat.shiftLeft_add_eq_or_of_lt (i := 8) (b := x.toNat) (by omega) (leN r)
  rw [Nat.shiftLeft_eq] at this
  simp only [leN]
  have e8 : (2 : Nat) ^ 8 = 256 := rfl
  rw [e8] at this
  rw [← this]
  omega

set_option maxRecDepth 100000 in
set_option maxHeartbeats 1000000 in
theorem rnumber_any (w : World) (g : Nat) (v : Value) (l : List UInt8) (h : Bs w g v l) (h8 : l.length ≤ 8) : Calls Try.prog 52 #[v] w fun e w' => e = .returned (.int .u64 (leN l)) ∧ w = w' := by
  have HB := Lib.hid h
  have hf : ∃ a c, v = .slice a l.length c := by
    rcases h with ⟨rfl, rfl⟩ | ⟨o, cap, rfl, _⟩
    · exact ⟨_, _, rfl⟩
    · exact ⟨_, _, rfl⟩
  obtain ⟨a, c, rfl⟩ := hf
  clear h
  go_enter Try.func52, Try.ntmps52
  go_wp2
  go_loop [3, 4] (fun n i => ∃ j : Nat, j ≤ l.length ∧ i = .int .i64 ((j : Int) - 1) ∧ n = .int .u64 (leN (l.drop j))) (fun _ i => (intOf i + 1).toNat)
  case atStart => exact ⟨l.length, Nat.le_refl _, by go_num, by rw [List.drop_length]; rfl⟩
  case round =>
    obtain ⟨j, hj, rfl, rfl⟩ := hrel
    by_cases hlt : 0 < j
    · obtain ⟨j, rfl⟩ : ∃ k, j = k + 1 := ⟨j - 1, by omega⟩
      have e1 : (((j + 1 : Nat) : Int) - 1) = (j : Int) := by omega
      rw [e1]
      obtain ⟨x, hx⟩ := get_lt (l := l) (j := j) (by omega)
      rcases HB.out with ⟨_, h0⟩ | ⟨o, cap, he, _, _, h3⟩
      · rw [h0] at hj; simp at hj
      · simp only [Value.slice.injEq, true_and] at he
        obtain ⟨rfl, rfl⟩ := he
        have cx := h3 j x hx
        unfold bv at cx
        have hor := leN_cons x (l.drop (j + 1)) (by rw [List.length_drop]; omega)
        have hd : x :: l.drop (j + 1) = l.drop j := by
          obtain ⟨hj', rfl⟩ := List.getElem?_eq_some_iff.1 hx
          exact List.getElem_cons_drop hj'
        rw [hd] at hor
        have HO := Lib.hid hor
        clear h3 hx hor hd e1
        go_wp2_with fail
        go_round
        case rel => exact ⟨j, by omega, by go_num, by rw [← HO.out]; first | rfl | go_num⟩
        case measure => simp [intOf]
    · obtain rfl : j = 0 := by omega
      go_wp2
      go_ret
      exact ⟨rfl, rfl⟩

set_option maxRecDepth 100000 in
set_option maxHeartbeats 1000000 in
theorem rsum_any (w : World) (g : Nat) (v : Value) (l : List UInt8) (h : Bw w g v l) : Calls Try.prog 23 #[v] w fun e w' => e = .returned (.int .u64 (sumL l)) ∧ w = w' := by
  obtain ⟨a, c, rfl, _, hmax, hc⟩ := h
  have HC := Lib.hid hc
  unfold maxLen at hmax
  clear hc
  go_enter Try.func23, Try.ntmps23
  go_wp2
  go_loop [3, 4] (fun s i => ∃ j : Nat, j ≤ l.length ∧ i = .int .i64 j ∧ s = .int .u64 (sumL (l.take j))) (fun _ i => l.length - (intOf i).toNat)
  case atStart => exact ⟨0, Nat.zero_le _, rfl, rfl⟩
  case round =>
    obtain ⟨j, hj, rfl, rfl⟩ := hrel
    by_cases hlt : j < l.length
    · obtain ⟨x, hx⟩ := get_lt hlt
      obtain ⟨o, rfl, h3⟩ := HC.out (not_nil hlt)
      have cx := h3 j x hx
      unfold bv at cx
      have HS : Hid (sumL (l.take (j + 1)) = sumStep (sumL (l.take j)) x) := by show _ = _; rw [take_snoc' hx, sumL_snoc]
      clear h3 hx
      go_wp2
      go_round
      case rel => exact ⟨j + 1, hlt, by go_num, by rw [HS.out]; rfl⟩
      case measure => simp [intOf]; omega
    · obtain rfl : j = l.length := by omega
      go_wp2
      go_ret
      exact ⟨by first | rfl | rw [List.take_length], rfl⟩

/-- What the reference's take comes to. -/
def RTook (w : World) (b g : Nat) (B : List UInt8) (i n : Nat) (e : Ending) (w' : World) : Prop :=
  ∃ v, e = .returned (.tuple #[v, .bool true]) ∧ Bs w' g v ((B.drop i).take n) ∧ RAt w' b g B (i + n) false ∧ Keeps (Only b) w w'
def RNot (w : World) (b g : Nat) (B : List UInt8) (i : Nat) (e : Ending) (w' : World) : Prop :=
  e = .returned (.tuple #[.slice none 0 0, .bool false]) ∧ RAt w' b g B i true ∧ Keeps (Only b) w w'
theorem aftK {S : Nat → Prop} {w : World} (z : Aft w) : Keeps S w z.x := .ofBelow z.h

set_option maxRecDepth 100000 in
set_option maxHeartbeats 2000000 in
theorem rtake_blind (w : World) (b g : Nat) (B : List UInt8) (i n : Nat) (he : RAt w b g B i true) :
    Calls Try.prog 51 #[.pointer (some ⟨b, 0, none⟩), .int .i64 n] w (RNot w b g B i) := by
  have HE := Lib.hid he
  obtain ⟨a, c, hbs, c0, c1, c2, f1, f2, hlt, hi, hB⟩ := he.cells
  clear he hbs
  go_enter Try.func51, Try.ntmps51
  go_wp2_with fail
  refine region_aft (by kernel_rfl) (by kernel_rfl) ?_
  repeat (go_big_quiet_step (fail))
  refine wpQuiet_nil ?_
  rintro w2 ⟨z, rfl⟩
  have HE2 := Lib.hid ((HE.out.before (aftK z)).dim)
  have HK2 : Hid (Keeps (Only b) w (z.x.setCell ⟨b, 2, none⟩ (.bool true))) := (aftK z).then (Keeps.setCell (S := Only b) (p := ⟨b, 2, none⟩) (fun _ => rfl) _)
  go_wp2
  go_ret2
  exact ⟨rfl, HE2.out, HK2.out⟩

set_option maxRecDepth 100000 in
set_option maxHeartbeats 2000000 in
theorem rtake_no (w : World) (b g : Nat) (B : List UInt8) (i n : Nat) (he : RAt w b g B i false) (h : B.length < i + n) :
    Calls Try.prog 51 #[.pointer (some ⟨b, 0, none⟩), .int .i64 n] w (RNot w b g B i) := by
  have HE := Lib.hid he
  obtain ⟨a, c, hbs, c0, c1, c2, f1, f2, hlt, hi, hB⟩ := he.cells
  have hd : decide ((B.length : Int) - (i : Int) < (n : Int)) = true := by simp; omega
  clear he hbs h
  go_enter Try.func51, Try.ntmps51
  go_wp2_with fail
  refine region_aft (by kernel_rfl) (by kernel_rfl) ?_
  repeat (go_big_quiet_step (fail))
  refine wpQuiet_nil ?_
  rintro w2 ⟨z, rfl⟩
  have HE2 := Lib.hid ((HE.out.before (aftK z)).dim)
  have HK2 : Hid (Keeps (Only b) w (z.x.setCell ⟨b, 2, none⟩ (.bool true))) := (aftK z).then (Keeps.setCell (S := Only b) (p := ⟨b, 2, none⟩) (fun _ => rfl) _)
  go_wp2
  go_ret2
  exact ⟨rfl, HE2.out, HK2.out⟩

theorem bs_mid {w : World} {g o cap : Nat} {l : List UInt8} {i n : Nat} (h1 : l.length ≤ cap) (h2 : cap ≤ maxLen) (h3 : ∀ (j : Nat) (x : UInt8), l[j]? = some x → w.cell? ⟨g, o + j, none⟩ = some (bv x)) (hn : i + n ≤ l.length) :
    Bs w g (.slice (some ⟨g, o + i, none⟩) n (cap - i)) ((l.drop i).take n) := by
  have hl : ((l.drop i).take n).length = n := by rw [List.length_take, List.length_drop]; omega
  refine .inr ⟨o + i, cap - i, by rw [hl], by omega, by omega, fun j x hx => ?_⟩
  have hj : j < n := by
    have := (List.getElem?_eq_some_iff.1 hx).1
    omega
  rw [List.getElem?_take_of_lt hj, List.getElem?_drop] at hx
  have := h3 (i + j) x hx
  rwa [← Nat.add_assoc] at this

set_option maxRecDepth 100000 in
set_option maxHeartbeats 2000000 in
theorem rtake_yes (w : World) (b g : Nat) (B : List UInt8) (i n : Nat) (he : RAt w b g B i false) (hn : n ≤ 1048576) (h : i + n ≤ B.length) :
    Calls Try.prog 51 #[.pointer (some ⟨b, 0, none⟩), .int .i64 n] w (RTook w b g B i n) := by
  have HE := Lib.hid he
  obtain ⟨a, c, hbs, c0, c1, c2, f1, f2, hlt, hi, hB⟩ := he.cells
  have hd : decide ((B.length : Int) - (i : Int) < (n : Int)) = false := by simp; omega
  have HBS := Lib.hid hbs
  clear he hbs
  go_enter Try.func51, Try.ntmps51
  go_wp2_with fail
  refine region_aft (by kernel_rfl) (by kernel_rfl) ?_
  repeat (go_big_quiet_step (fail))
  refine wpQuiet_nil ?_
  rintro w2 ⟨z, rfl⟩
  have HE2 : Hid (RAt (z.x.setCell ⟨b, 1, none⟩ (.int .i64 ((i : Int) + (n : Int)))) b g B (i + n) false) := by
    have h2 := (HE.out.before (aftK z)).set (i + n) h
    rwa [Int.natCast_add] at h2
  have HK2 : Hid (Keeps (Only b) w (z.x.setCell ⟨b, 1, none⟩ (.int .i64 ((i : Int) + (n : Int))))) := (aftK z).then (Keeps.setCell (S := Only b) (p := ⟨b, 1, none⟩) (fun _ => rfl) _)
  go_wp2_with fail
  clear hd c0 c1 c2 f1 f2 hlt hi hB HBS HE
  generalize z.x.setCell ⟨b, 1, none⟩ (.int .i64 ((i : Int) + (n : Int))) = W at *
  obtain ⟨a2, c2, hbs, d0, d1, d2, _, _, hlt, hi, hB⟩ := HE2.out.cells
  rw [Int.natCast_add] at d1
  have HBS := Lib.hid hbs
  clear hbs
  rcases HBS.out with ⟨hnil, h0⟩ | ⟨o, cap, hv, h1, h2, h3⟩
  · simp only [Value.slice.injEq] at hnil
    obtain ⟨rfl, hbl, rfl⟩ := hnil
    obtain rfl : i = 0 := by omega
    obtain rfl : n = 0 := by omega
    rw [hbl] at d0
    refine region_aft (by kernel_rfl) (by kernel_rfl) ?_
    repeat (go_big_quiet_step (fail))
    refine wpQuiet_nil ?_
    rintro w2 ⟨y, rfl⟩
    go_wp2
    go_ret2
    exact ⟨_, rfl, .inl ⟨rfl, by simp⟩, HE2.out.before (aftK y), HK2.out.then (aftK y)⟩
  · simp only [Value.slice.injEq, true_and] at hv
    obtain ⟨rfl, rfl⟩ := hv
    have HM : Hid (Bs W g (.slice (some ⟨g, o + i, none⟩) (i + n - i) (c2 - i)) ((B.drop i).take n)) := by show Bs _ _ _ _; rw [Nat.add_sub_cancel_left]; exact bs_mid h1 h2 h3 h
    unfold maxLen at h2
    clear h3
    by_cases hc : c2 = i
    · subst hc
      obtain rfl : n = 0 := by omega
      refine region_aft (by kernel_rfl) (by kernel_rfl) ?_
      repeat (go_big_quiet_step (fail))
      refine wpQuiet_nil ?_
      rintro w2 ⟨y, rfl⟩
      go_wp2
      go_ret2
      exact ⟨_, rfl, bs_none (by simp) _ (by omega), HE2.out.before (aftK y), HK2.out.then (aftK y)⟩
    · refine region_aft (by kernel_rfl) (by kernel_rfl) ?_
      repeat (go_big_quiet_step (fail))
      refine wpQuiet_nil ?_
      rintro w2 ⟨y, rfl⟩
      go_wp2
      go_ret2
      exact ⟨_, rfl, HM.out.keep (S := fun _ => False) (aftK y) (fun _ h => h), HE2.out.before (aftK y), HK2.out.then (aftK y)⟩

end Go.Proofs.Ytjojjpfjennnoaa
