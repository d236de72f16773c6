/- An eye in memory, and the contracts of its inner methods take and number. Conditions: as each theorem states. -/
import Derived.Laws.BitsAllLaws
import Derived.Test.YtddbmibfebhmjaaMg03
set_option maxRecDepth 100000
set_option maxHeartbeats 16000000
namespace Go.Proofs.Ytddbmibfebhmjaa
namespace S2
open Go.RowKit
def EyeAt (w : World) (b g : Nat) (l : List UInt8) (bl : Bool) : Prop := ∃ v, w.heap[b]? = some (.cells #[v, .bool bl] 138 (0, 0)) ∧ Bs w g v l ∧ (l ≠ [] → g ≠ b)
def Only (b x : Nat) : Prop := x = b
theorem EyeAt.lt {w : World} {b g : Nat} {l : List UInt8} {bl : Bool} (h : EyeAt w b g l bl) : b < w.heap.size := by
 obtain ⟨_, h, _⟩ := h
 exact lt_of_block h
theorem EyeAt.keep {S : Nat → Prop} {w w' : World} {b g : Nat} {l : List UInt8} {bl : Bool} (h : EyeAt w b g l bl) (k : Keeps S w w') (hb : ¬ S b) (hg : l ≠ [] → ¬ S g) : EyeAt w' b g l bl := by
 obtain ⟨v, h1, h2, h3⟩ := h
 exact ⟨v, (k.block b (lt_of_block h1) hb).trans h1, h2.keep k hg, h3⟩
theorem EyeAt.before {w x : World} {b g : Nat} {l : List UInt8} {bl : Bool} (h : EyeAt w b g l bl) (k : Keeps (fun _ => False) w x) : EyeAt x b g l bl := h.keep k (fun h => h) (fun _ h => h)
theorem take_ne {l : List UInt8} {n : Nat} (h : l.take n ≠ []) : l ≠ [] := by rintro rfl; simp at h
theorem drop_ne {l : List UInt8} {n : Nat} (h : l.drop n ≠ []) : l ≠ [] := by rintro rfl; simp at h
theorem block_setCell {w : World} {b i : Nat} {c : Array Value} {t : TypeId} (h : w.heap[b]? = some (.cells c t (0, 0))) (u : Value) : (w.setCell ⟨b, i, none⟩ u).heap[b]? = some (.cells (c.setIfInBounds i u) t (0, 0)) := by
 have hlt := lt_of_block h
 have h' : w.heap[b] = .cells c t (0, 0) := by simpa [Array.getElem?_eq_getElem hlt] using h
 show (w.heap.modify b _)[b]? = _
 rw [Array.getElem?_eq_getElem (by simpa using hlt), Array.getElem_modify_self, h']
 rfl
theorem Bs.form {w : World} {g : Nat} {v : Value} {l : List UInt8} (h : Bs w g v l) : ∃ a n c, v = .slice a n c := by
 rcases h with ⟨hn, _⟩ | ⟨o, cap, rfl, _⟩
 ·exact ⟨_, _, _, hn⟩
 ·exact ⟨_, _, _, rfl⟩
def blindCh : List PanicEntry := [{ v := .iface 157 (.agg #[]), recovered := false }]
def Took (w : World) (b g : Nat) (l : List UInt8) (bl : Bool) (n : Nat) (e : Ending) (w' : World) : Prop :=
 ∃ v, e = .returned v ∧ Bs w' g v (l.take n) ∧ EyeAt w' b g (l.drop n) bl ∧ Keeps (Only b) w w'
theorem took_end {w : World} {b g : Nat} {l : List UInt8} {bl : Bool} {n : Nat} {v v1 v2 : Value} (hv : w.heap[b]? = some (.cells #[v, .bool bl] 138 (0, 0))) (hne : l ≠ [] → g ≠ b) (h1 : Bs w g v1 (l.take n)) (h2 : Bs w g v2 (l.drop n)) :
  Took w b g l bl n (.returned v1) (w.setCell ⟨b, 0, none⟩ v2) := by
 have hk : Keeps (Only b) w (w.setCell ⟨b, 0, none⟩ v2) := Keeps.setCell (S := Only b) (p := ⟨b, 0, none⟩) (fun _ => rfl) v2
 exact ⟨v1, rfl, h1.keep hk (fun h => hne (take_ne h)), ⟨v2, block_setCell hv v2, h2.keep hk (fun h => hne (drop_ne h)), fun h => hne (drop_ne h)⟩, hk⟩
theorem bs_take {w : World} {g o cap : Nat} {l : List UInt8} {n : Nat} (h1 : l.length ≤ cap) (h2 : cap ≤ maxLen) (h3 : ∀ (j : Nat) (x : UInt8), l[j]? = some x → w.cell? ⟨g, o + j, none⟩ = some (bv x)) (hn : n ≤ l.length) :
  Bs w g (.slice (some ⟨g, o, none⟩) n cap) (l.take n) := by
 have hl : (l.take n).length = n := by rw [List.length_take]; omega
 refine .inr ⟨o, cap, by rw [hl], by omega, h2, fun j x hx => h3 j x ?_⟩
 have hj : j < n := by
  have := (List.getElem?_eq_some_iff.1 hx).1
  omega
 rwa [List.getElem?_take_of_lt hj] at hx
theorem bs_drop {w : World} {g o cap : Nat} {l : List UInt8} {n : Nat} (h1 : l.length ≤ cap) (h2 : cap ≤ maxLen) (h3 : ∀ (j : Nat) (x : UInt8), l[j]? = some x → w.cell? ⟨g, o + j, none⟩ = some (bv x)) :
  Bs w g (.slice (some ⟨g, o + n, none⟩) (l.length - n) (cap - n)) (l.drop n) := by
 have hl : (l.drop n).length = l.length - n := List.length_drop
 refine .inr ⟨o + n, cap - n, by rw [hl], by omega, by omega, fun j x hx => ?_⟩
 rw [List.getElem?_drop] at hx
 have := h3 (n + j) x hx
 rwa [← Nat.add_assoc] at this
theorem bs_none {w : World} {g o : Nat} {l : List UInt8} (h : l = []) (k : Nat) (hk : k = 0) : Bs w g (.slice (some ⟨g, o, none⟩) k 0) l := by
 subst h hk
 exact .inr ⟨o, 0, rfl, Nat.le_refl _, Nat.zero_le _, fun j x hx => by simp at hx⟩
theorem take_yes (w : World) (b g : Nat) (l : List UInt8) (bl : Bool) (n : Nat) (he : EyeAt w b g l bl) (hn : n ≤ l.length) :
  Calls Try.prog 110 #[.pointer (some ⟨b, 0, none⟩), .int .i64 n] w (Took w b g l bl n) := by
 obtain ⟨v, hv, hb, hne⟩ := he
 have hmax := hb.len
 have c0 : w.cell? ⟨b, 0, none⟩ = some v := by rw [cell_of_row w _ _ _ _ _ hv]; rfl
 have f0 : w.frozen? ⟨b, 0, none⟩ = false := frozen_of_row w _ _ _ _ hv
 have HV := Lib.hid hv
 have HB := Lib.hid hb
 clear hv hb
 rcases HB.out with ⟨rfl, rfl⟩ | ⟨o, cap, rfl, h1, h2, h3⟩
 ·obtain rfl : n = 0 := by simpa using hn
  go_enter Try.func110, Try.ntmps110
  go_wp2
  go_ret
  exact took_end HV.out hne HB.out HB.out
 ·have H1 := Lib.hid (bs_take h1 h2 h3 hn)
  have H2 := Lib.hid (bs_drop (n := n) h1 h2 h3)
  clear h3
  unfold maxLen at h2 hmax
  by_cases hc : cap = n
  ·have HZ : Hid (l.drop n = []) := List.drop_eq_nil_of_le (by omega)
   have hz : l.length - n = 0 := by omega
   subst hc
   clear hz
   go_enter Try.func110, Try.ntmps110
   go_wp2
   go_ret
   exact took_end HV.out hne H1.out (bs_none HZ.out _ (by omega))
  ·go_enter Try.func110, Try.ntmps110
   go_wp2
   go_ret
   exact took_end HV.out hne H1.out H2.out
theorem take_no (w : World) (b g : Nat) (l : List UInt8) (bl : Bool) (n : Nat) (he : EyeAt w b g l bl) (hn : l.length < n) :
  Calls Try.prog 110 #[.pointer (some ⟨b, 0, none⟩), .int .i64 n] w fun e w' => e = .panicked blindCh ∧ w = w' := by
 obtain ⟨v, hv, hb, hne⟩ := he
 have hmax := hb.len
 have c0 : w.cell? ⟨b, 0, none⟩ = some v := by rw [cell_of_row w _ _ _ _ _ hv]; rfl
 have hf : ∃ a c, v = .slice a l.length c := by
  rcases hb with ⟨rfl, rfl⟩ | ⟨o, cap, rfl, _⟩
  ·exact ⟨_, _, rfl⟩
  ·exact ⟨_, _, rfl⟩
 obtain ⟨a, c, rfl⟩ := hf
 clear hv hb
 go_enter Try.func110, Try.ntmps110
 go_wp2
 exact ⟨rfl, rfl, rfl⟩
def leN : List UInt8 → Nat
 | [] => 0
 | x :: r => x.toNat + 256 * leN r
theorem leN_lt (l : List UInt8) : leN l < 2 ^ (8 * l.length) := by
 induction l with
 | nil => simp [leN]
 | cons x r ih =>
  have hx : x.toNat < 256 := x.toNat_lt
  have e : 2 ^ (8 * (x :: r).length) = 256 * 2 ^ (8 * r.length) := by
   rw [List.length_cons, Nat.mul_add, Nat.pow_add, Nat.mul_comm]
  rw [e]
  simp only [leN]
  omega
theorem leN_snoc (l : List UInt8) (x : UInt8) : leN (l ++ [x]) = leN l + x.toNat * 2 ^ (8 * l.length) := by
 induction l with
 | nil => simp [leN]
 | cons y r ih =>
  have e : 2 ^ (8 * (y :: r).length) = 256 * 2 ^ (8 * r.length) := by
   rw [List.length_cons, Nat.mul_add, Nat.pow_add, Nat.mul_comm]
  rw [List.cons_append]
  simp only [leN]
  rw [ih, e, Nat.mul_add, Nat.add_assoc, Nat.mul_left_comm]
theorem pow_le64 {k : Nat} (h : k ≤ 8) : 2 ^ (8 * k) ≤ 18446744073709551616 := by
 have : (2 : Nat) ^ (8 * k) ≤ 2 ^ 64 := Nat.pow_le_pow_right (by decide) (by omega)
 simpa using this
theorem leN_or (l : List UInt8) (x : UInt8) (h : l.length < 8) : bits .or .u64 (leN l : Int) ((x.toNat * 2 ^ (8 * l.length) : Nat) : Int) = (leN (l ++ [x]) : Int) := by
 have h1 := leN_lt l
 have h2 := leN_lt (l ++ [x])
 have h3 := leN_snoc l x
 have h4 := pow_le64 (k := (l ++ [x]).length) (by simp; omega)
 have h5 := pow_le64 (k := l.length) (by omega)
 rw [u64_or_nat _ _ (by omega) (by omega), h3]
 have := Nat.shiftLeft_add_eq_or_of_lt h1 x.toNat
 rw [Nat.shiftLeft_eq] at this
 rw [Nat.or_comm, ← this, Nat.add_comm]
theorem wrap_byte (x : UInt8) : IntKind.u64.wrap (x.toNat : Int) = (x.toNat : Int) := by
 have hx : x.toNat < 256 := x.toNat_lt
 show ((x.toNat : Int) % (2 ^ 64 : Int)) = _
 omega
theorem shl_val (x : UInt8) (j : Nat) (hj : j < 8) : IntKind.u64.wrap (IntKind.u64.wrap (x.toNat : Int) * 2 ^ (8 * j)) = ((x.toNat * 2 ^ (8 * j) : Nat) : Int) := by
 have hx : x.toNat < 256 := x.toNat_lt
 have h1 : x.toNat * 2 ^ (8 * j) < 18446744073709551616 := by
  have h2 := pow_le64 (k := j + 1) (by omega)
  have e3 : 2 ^ (8 * (j + 1)) = 256 * 2 ^ (8 * j) := by rw [Nat.mul_add, Nat.pow_add, Nat.mul_comm]
  have h3 : x.toNat * 2 ^ (8 * j) < 256 * 2 ^ (8 * j) := Nat.mul_lt_mul_of_pos_right hx (Nat.pow_pos (by decide))
  omega
 have e4 : ((x.toNat : Int) * 2 ^ (8 * j)) = ((x.toNat * 2 ^ (8 * j) : Nat) : Int) := by simp
 rw [wrap_byte, e4]
 show (((x.toNat * 2 ^ (8 * j) : Nat) : Int) % (2 ^ 64 : Int)) = _
 generalize x.toNat * 2 ^ (8 * j) = m at h1
 omega
def Numbered (w : World) (b g : Nat) (l : List UInt8) (bl : Bool) (k : Nat) (e : Ending) (w' : World) : Prop :=
 e = .returned (.int .u64 (leN (l.take k))) ∧ EyeAt w' b g (l.drop k) bl ∧ Keeps (Only b) w w'
theorem number_yes (w : World) (b g : Nat) (l : List UInt8) (bl : Bool) (k : Nat) (hk : k ≤ 8) (he : EyeAt w b g l bl) (hn : k ≤ l.length) :
  Calls Try.prog 108 #[.pointer (some ⟨b, 0, none⟩), .int .i64 k] w (Numbered w b g l bl k) := by
 have HE := Lib.hid he
 clear he
 go_enter Try.func108, Try.ntmps108
 go_wp2_with (go_at_call 110; refine (take_yes _ b g l bl k HE.out hn).mono ?_; rintro e w1 ⟨v, rfl, hb1, he1, hk1⟩; have HB1 := Lib.hid hb1; have HE1 := Lib.hid he1; have HK1 := Lib.hid hk1; clear hb1 he1 hk1)
 go_loop [6, 12] (fun n i => ∃ j : Nat, j ≤ k ∧ i = .int .i64 j ∧ n = .int .u64 (leN (l.take j))) (fun _ i => k - (RowKit.intOf i).toNat)
 case atStart => exact ⟨0, Nat.zero_le _, rfl, rfl⟩
 case round =>
  obtain ⟨j, hj, rfl, rfl⟩ := hrel
  by_cases hlt : j < k
  ·obtain ⟨x, hx⟩ := get_lt (l := l) (j := j) (by omega)
   have hx' : (l.take k)[j]? = some x := by rw [List.getElem?_take_of_lt hlt]; exact hx
   rcases HB1.out with ⟨_, h0⟩ | ⟨o, cap, rfl, h1, h2, h3⟩
   ·rw [h0] at hx'; simp at hx'
   ·have cx := h3 j x hx'
    have hlk : (l.take k).length = k := by rw [List.length_take]; omega
    have hlj : (l.take j).length = j := by rw [List.length_take]; omega
    have hor := leN_or (l.take j) x (by omega)
    rw [hlj, ← shl_val x j (by omega)] at hor
    have HL : Hid (l.take j ++ [x] = l.take (j + 1)) := by
     show _ = _
     obtain ⟨h, rfl⟩ := List.getElem?_eq_some_iff.1 hx
     rw [List.take_succ_eq_append_getElem h]
    rw [HL.out] at hor
    rw [hlk]
    unfold bv at cx
    have HO := Lib.hid hor
    clear h1 h2 h3 hlk hlj hx hx' hor
    go_wp2_with fail
    go_round
    case rel => exact ⟨j + 1, hlt, by go_num, by rw [HO.out]⟩
    case measure => simp [RowKit.intOf]; omega
  ·obtain rfl : j = k := by omega
   go_wp2
   go_ret
   exact ⟨rfl, HE1.out, HK1.out⟩
theorem number_no (w : World) (b g : Nat) (l : List UInt8) (bl : Bool) (k : Nat) (he : EyeAt w b g l bl) (hn : l.length < k) :
  Calls Try.prog 108 #[.pointer (some ⟨b, 0, none⟩), .int .i64 k] w fun e w' => e = .panicked blindCh ∧ w = w' := by
 have HE := Lib.hid he
 clear he
 go_enter Try.func108, Try.ntmps108
 go_wp2_with (go_at_call 110; refine (take_no _ b g l bl k HE.out hn).mono ?_; rintro e w1 ⟨rfl, rfl⟩)
 exact ⟨rfl, rfl, rfl⟩
end S2
end Go.Proofs.Ytddbmibfebhmjaa
