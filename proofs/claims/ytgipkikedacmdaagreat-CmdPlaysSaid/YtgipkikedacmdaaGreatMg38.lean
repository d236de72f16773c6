/- points, between, reads, writes of package txn. Conditions: ops that may be. -/
import Derived.Deep.RegionHeld3
import Derived.WalkSpells
import Derived.Deep.QuietTactic
import Derived.Maps.AppendAt
import Derived.Test.YtgipkikedacmdaaGreatProg
import Derived.Test.YtgipkikedacmdaaGreatMg37
import Derived.Test.YtgipkikedacmdaaGreatMg11
import Derived.Test.YtgipkikedacmdaaGreatMg08
import Derived.Test.YtgipkikedacmdaaGreatMg36
import Derived.Test.YtgipkikedacmdaaGreatMg10
import Derived.Test.YtgipkikedacmdaaGreatMg05
set_option maxRecDepth 100000
set_option maxHeartbeats 16000000
set_option linter.unusedVariables false
set_option linter.unusedSimpArgs false
namespace Go.Proofs.YtgipkikedacmdaaGreat
open Go.Lib renaming hid → hI
open S3 SN
namespace SP
open Go.ChangeShapes Go.WideShapes Go.ChangeAt Go.RowKit Go.Joins Go.Deep
def opV (o : Opr) : Value := .agg #[.int .i64 o.1, .string o.2.1, .string o.2.2.1, .int .u64 (o.2.2.2 : Int)]
def eO : Enc Opr := ⟨fun o => [.int .i64 o.1, .string o.2.1, .string o.2.2.1, .int .u64 (o.2.2.2 : Int)], 4, fun _ => rfl, fun x u hu => by
 simp only [List.mem_cons, List.not_mem_nil, or_false] at hu
 rcases hu with rfl | rfl | rfl | rfl <;> rfl, by decide⟩
def prV (p : ByteArray × Nat) : Value := .agg #[.string p.1, .int .u64 (p.2 : Int)]
def eP : Enc (ByteArray × Nat) := ⟨fun p => [.string p.1, .int .u64 (p.2 : Int)], 2, fun _ => rfl, fun x u hu => by
 simp only [List.mem_cons, List.not_mem_nil, or_false] at hu
 rcases hu with rfl | rfl <;> rfl, by decide⟩
def wrV (x : Wrt) : Value := .agg #[.string x.1, .int .u64 (x.2.1 : Int), .bool x.2.2]
def eW : Enc Wrt := ⟨fun x => [.string x.1, .int .u64 (x.2.1 : Int), .bool x.2.2], 3, fun _ => rfl, fun x u hu => by
 simp only [List.mem_cons, List.not_mem_nil, or_false] at hu
 rcases hu with rfl | rfl | rfl <;> rfl, by decide⟩
structure AnR where
 yes : Bool
 num : Nat
 at_ : Option Addr
 cap : Nat
 prs : Al Nat
def eA : Enc AnR := ⟨fun r => [.bool r.yes, .int .u64 (r.num : Int), .slice r.at_ r.prs.length r.cap], 3, fun _ => rfl, fun x u hu => by
 simp only [List.mem_cons, List.not_mem_nil, or_false] at hu
 rcases hu with rfl | rfl | rfl <;> rfl, by decide⟩
theorem ops_at {w : World} {a : Option Addr} {n cap : Nat} {l : List Opr} (h : SlG eO w (.slice a n cap) l) {k : Nat} {x : Opr} (hs : l[k]? = some x) :
  ∃ g o, a = some ⟨g, o, none⟩ ∧ g < w.heap.size ∧ w.cell? ⟨g, o + k * 4, none⟩ = some (.int .i64 x.1) ∧ w.cell? ⟨g, o + k * 4 + 1, none⟩ = some (.string x.2.1) ∧ w.cell? ⟨g, o + k * 4 + 2, none⟩ = some (.string x.2.2.1) ∧ w.cell? ⟨g, o + k * 4 + 3, none⟩ = some (.int .u64 (x.2.2.2 : Int)) := by
 obtain ⟨g, o, ha, hg, hc⟩ := h.at hs
 exact ⟨g, o, ha, hg, hc 0 _ rfl, hc 1 _ rfl, hc 2 _ rfl, hc 3 _ rfl⟩
theorem prs_at {w : World} {a : Option Addr} {n cap : Nat} {l : Al Nat} (h : SlG eP w (.slice a n cap) l) {k : Nat} {x : ByteArray × Nat} (hs : l[k]? = some x) :
  ∃ g o, a = some ⟨g, o, none⟩ ∧ g < w.heap.size ∧ w.cell? ⟨g, o + k * 2, none⟩ = some (.string x.1) ∧ w.cell? ⟨g, o + k * 2 + 1, none⟩ = some (.int .u64 (x.2 : Int)) := by
 obtain ⟨g, o, ha, hg, hc⟩ := h.at hs
 exact ⟨g, o, ha, hg, hc 0 _ rfl, hc 1 _ rfl⟩
theorem wrs_at {w : World} {a : Option Addr} {n cap : Nat} {l : List Wrt} (h : SlG eW w (.slice a n cap) l) {k : Nat} {x : Wrt} (hs : l[k]? = some x) :
  ∃ g o, a = some ⟨g, o, none⟩ ∧ g < w.heap.size ∧ w.cell? ⟨g, o + k * 3, none⟩ = some (.string x.1) ∧ w.cell? ⟨g, o + k * 3 + 1, none⟩ = some (.int .u64 (x.2.1 : Int)) ∧ w.cell? ⟨g, o + k * 3 + 2, none⟩ = some (.bool x.2.2) := by
 obtain ⟨g, o, ha, hg, hc⟩ := h.at hs
 exact ⟨g, o, ha, hg, hc 0 _ rfl, hc 1 _ rfl, hc 2 _ rfl⟩
def suitB (o : Opr) : Bool :=
 if o.1 = 1 ∨ o.1 = 5 then noT o.2.2.1 && decide (o.2.2.2 = 0)
 else if o.1 = 2 then (noT o.2.2.1 || (keyB o.2.2.1 && ltT o.2.1 o.2.2.1)) && decide (o.2.2.2 = 0)
 else if o.1 = 3 ∨ o.1 = 4 then noT o.2.2.1
 else if o.1 = 6 then keyB o.2.2.1 && !(o.2.2.1.toList == o.2.1.toList)
 else false
def okB (o : Opr) : Bool := keyB o.2.1 && decide (rtN o.2.2.2 = o.2.2.2) && suitB o
def checkP (l : List Opr) : Int := if 8 < l.length then 6 else if l = [] then 80 else if l.all okB = true then 0 else 80
theorem iskey_any (k : ByteArray) (w : World) : Calls Tryz.prog 183 #[.string k] w fun e w' => e = .returned (.bool (keyB k)) ∧ w = w' := by
 cases h : keyB k
 ·go_enter Tryz.func183, Tryz.ntmps183
  go_wp2_with (go_at_call 205; refine (key_any k _).mono ?_; rw [h]; rintro e w' ⟨rfl, rfl⟩)
  go_ret
  exact ⟨rfl, rfl⟩
 ·go_enter Tryz.func183, Tryz.ntmps183
  go_wp2_with (go_at_call 205; refine (key_any k _).mono ?_; rw [h]; rintro e w' ⟨rfl, rfl⟩)
  go_ret
  exact ⟨rfl, rfl⟩
theorem suits_any (o : Opr) (w : World) : Calls Tryz.prog 185 #[opV o] w fun e w' => e = .returned (.bool (suitB o)) ∧ Below w.heap.size w w' := by
 obtain ⟨kd, key, to, n⟩ := o
 generalize hv : suitB (kd, key, to, n) = v
 unfold suitB at hv
 simp only at hv
 have HV := hI hv
 clear hv
 unfold opV
 simp only
 have HK : Hid (keyB to = keyB to) := rfl
 by_cases k1 : kd = 1
 ·subst k1
  cases hT : noT to
  ·have t2 : to.toList.isEmpty = false := hT
   have HVV : v = false := by
    have := HV.out
    rw [← this]
    simp [*]
   clear HV
   subst HVV
   go_enter Tryz.func185, Tryz.ntmps185
   go_wp2_with (go_at_call 183; refine (iskey_any to _).mono ?_; rw [HK.out]; rintro e w' ⟨rfl, rfl⟩)
   go_ret
   exact ⟨by rfl, blAlloc (Below.refl _ _) _⟩
  ·have t2 : to.toList.isEmpty = true := hT
   by_cases hn : n = 0
   ·subst hn
    have HVV : v = true := by
     have := HV.out
     rw [← this]
     simp [*]
    clear HV
    subst HVV
    go_enter Tryz.func185, Tryz.ntmps185
    go_wp2_with (go_at_call 183; refine (iskey_any to _).mono ?_; rw [HK.out]; rintro e w' ⟨rfl, rfl⟩)
    go_ret
    exact ⟨by rfl, blAlloc (Below.refl _ _) _⟩
   ·have hnI : ¬ (n : Int) = 0 := by omega
    have hnB : ((n : Int) == 0) = false := by simpa using hn
    have HVV : v = false := by
     have := HV.out
     rw [← this]
     simp [*]
    clear HV
    subst HVV
    go_enter Tryz.func185, Tryz.ntmps185
    go_wp2_with (go_at_call 183; refine (iskey_any to _).mono ?_; rw [HK.out]; rintro e w' ⟨rfl, rfl⟩)
    go_ret
    exact ⟨by rfl, blAlloc (Below.refl _ _) _⟩
 by_cases k5 : kd = 5
 ·subst k5
  cases hT : noT to
  ·have t2 : to.toList.isEmpty = false := hT
   have HVV : v = false := by
    have := HV.out
    rw [← this]
    simp [*]
   clear HV
   subst HVV
   go_enter Tryz.func185, Tryz.ntmps185
   go_wp2_with (go_at_call 183; refine (iskey_any to _).mono ?_; rw [HK.out]; rintro e w' ⟨rfl, rfl⟩)
   go_ret
   exact ⟨by rfl, blAlloc (Below.refl _ _) _⟩
  ·have t2 : to.toList.isEmpty = true := hT
   by_cases hn : n = 0
   ·subst hn
    have HVV : v = true := by
     have := HV.out
     rw [← this]
     simp [*]
    clear HV
    subst HVV
    go_enter Tryz.func185, Tryz.ntmps185
    go_wp2_with (go_at_call 183; refine (iskey_any to _).mono ?_; rw [HK.out]; rintro e w' ⟨rfl, rfl⟩)
    go_ret
    exact ⟨by rfl, blAlloc (Below.refl _ _) _⟩
   ·have hnI : ¬ (n : Int) = 0 := by omega
    have hnB : ((n : Int) == 0) = false := by simpa using hn
    have HVV : v = false := by
     have := HV.out
     rw [← this]
     simp [*]
    clear HV
    subst HVV
    go_enter Tryz.func185, Tryz.ntmps185
    go_wp2_with (go_at_call 183; refine (iskey_any to _).mono ?_; rw [HK.out]; rintro e w' ⟨rfl, rfl⟩)
    go_ret
    exact ⟨by rfl, blAlloc (Below.refl _ _) _⟩
 by_cases k2 : kd = 2
 ·subst k2
  cases hT : noT to
  ·have t2 : to.toList.isEmpty = false := hT
   cases hK : keyB to
   ·have HK := hI hK
    have HVV : v = false := by
     have := HV.out
     rw [← this]
     simp [*]
    clear HV
    subst HVV
    go_enter Tryz.func185, Tryz.ntmps185
    go_wp2_with (go_at_call 183; refine (iskey_any to _).mono ?_; rw [HK.out]; rintro e w' ⟨rfl, rfl⟩)
    go_ret
    exact ⟨by rfl, blAlloc (Below.refl _ _) _⟩
   ·have HK := hI hK
    cases hL : ltT key to
    ·have t3 : Op.bytesLess key.toList to.toList = false := hL
     cases hM : ltT to key
     ·have t4 : Op.bytesLess to.toList key.toList = false := hM
      have t5 : (to.toList == key.toList) = true := by rw [lt_total hM hL]; exact beq_self_eq_true _
      have HVV : v = false := by
       have := HV.out
       rw [← this]
       simp [*]
      clear HV
      subst HVV
      go_enter Tryz.func185, Tryz.ntmps185
      go_wp2_with (go_at_call 183; refine (iskey_any to _).mono ?_; rw [HK.out]; rintro e w' ⟨rfl, rfl⟩)
      go_ret
      exact ⟨by rfl, blAlloc (Below.refl _ _) _⟩
     ·have t4 : Op.bytesLess to.toList key.toList = true := hM
      have HVV : v = false := by
       have := HV.out
       rw [← this]
       simp [*]
      clear HV
      subst HVV
      go_enter Tryz.func185, Tryz.ntmps185
      go_wp2_with (go_at_call 183; refine (iskey_any to _).mono ?_; rw [HK.out]; rintro e w' ⟨rfl, rfl⟩)
      go_ret
      exact ⟨by rfl, blAlloc (Below.refl _ _) _⟩
    ·have t3 : Op.bytesLess key.toList to.toList = true := hL
     have t4 : Op.bytesLess to.toList key.toList = false := lt_asymm hL
     have t5 : (to.toList == key.toList) = false := by
      rw [beq_eq_false_iff_ne]
      intro e
      exact lt_ne hL (text_ext e).symm
     by_cases hn : n = 0
     ·subst hn
      have HVV : v = true := by
       have := HV.out
       rw [← this]
       simp [*]
      clear HV
      subst HVV
      go_enter Tryz.func185, Tryz.ntmps185
      go_wp2_with (go_at_call 183; refine (iskey_any to _).mono ?_; rw [HK.out]; rintro e w' ⟨rfl, rfl⟩)
      go_ret
      exact ⟨by rfl, blAlloc (Below.refl _ _) _⟩
     ·have hnI : ¬ (n : Int) = 0 := by omega
      have hnB : ((n : Int) == 0) = false := by simpa using hn
      have HVV : v = false := by
       have := HV.out
       rw [← this]
       simp [*]
      clear HV
      subst HVV
      go_enter Tryz.func185, Tryz.ntmps185
      go_wp2_with (go_at_call 183; refine (iskey_any to _).mono ?_; rw [HK.out]; rintro e w' ⟨rfl, rfl⟩)
      go_ret
      exact ⟨by rfl, blAlloc (Below.refl _ _) _⟩
  ·have t2 : to.toList.isEmpty = true := hT
   by_cases hn : n = 0
   ·subst hn
    have HVV : v = true := by
     have := HV.out
     rw [← this]
     simp [*]
    clear HV
    subst HVV
    go_enter Tryz.func185, Tryz.ntmps185
    go_wp2_with (go_at_call 183; refine (iskey_any to _).mono ?_; rw [HK.out]; rintro e w' ⟨rfl, rfl⟩)
    go_ret
    exact ⟨by rfl, blAlloc (Below.refl _ _) _⟩
   ·have hnI : ¬ (n : Int) = 0 := by omega
    have hnB : ((n : Int) == 0) = false := by simpa using hn
    have HVV : v = false := by
     have := HV.out
     rw [← this]
     simp [*]
    clear HV
    subst HVV
    go_enter Tryz.func185, Tryz.ntmps185
    go_wp2_with (go_at_call 183; refine (iskey_any to _).mono ?_; rw [HK.out]; rintro e w' ⟨rfl, rfl⟩)
    go_ret
    exact ⟨by rfl, blAlloc (Below.refl _ _) _⟩
 by_cases k3 : kd = 3
 ·subst k3
  cases hT : noT to
  ·have t2 : to.toList.isEmpty = false := hT
   have HVV : v = false := by
    have := HV.out
    rw [← this]
    simp [*]
   clear HV
   subst HVV
   go_enter Tryz.func185, Tryz.ntmps185
   go_wp2_with (go_at_call 183; refine (iskey_any to _).mono ?_; rw [HK.out]; rintro e w' ⟨rfl, rfl⟩)
   go_ret
   exact ⟨by rfl, blAlloc (Below.refl _ _) _⟩
  ·have t2 : to.toList.isEmpty = true := hT
   have HVV : v = true := by
    have := HV.out
    rw [← this]
    simp [*]
   clear HV
   subst HVV
   go_enter Tryz.func185, Tryz.ntmps185
   go_wp2_with (go_at_call 183; refine (iskey_any to _).mono ?_; rw [HK.out]; rintro e w' ⟨rfl, rfl⟩)
   go_ret
   exact ⟨by rfl, blAlloc (Below.refl _ _) _⟩
 by_cases k4 : kd = 4
 ·subst k4
  cases hT : noT to
  ·have t2 : to.toList.isEmpty = false := hT
   have HVV : v = false := by
    have := HV.out
    rw [← this]
    simp [*]
   clear HV
   subst HVV
   go_enter Tryz.func185, Tryz.ntmps185
   go_wp2_with (go_at_call 183; refine (iskey_any to _).mono ?_; rw [HK.out]; rintro e w' ⟨rfl, rfl⟩)
   go_ret
   exact ⟨by rfl, blAlloc (Below.refl _ _) _⟩
  ·have t2 : to.toList.isEmpty = true := hT
   have HVV : v = true := by
    have := HV.out
    rw [← this]
    simp [*]
   clear HV
   subst HVV
   go_enter Tryz.func185, Tryz.ntmps185
   go_wp2_with (go_at_call 183; refine (iskey_any to _).mono ?_; rw [HK.out]; rintro e w' ⟨rfl, rfl⟩)
   go_ret
   exact ⟨by rfl, blAlloc (Below.refl _ _) _⟩
 by_cases k6 : kd = 6
 ·subst k6
  cases hK : keyB to
  ·have HK := hI hK
   have HVV : v = false := by
    have := HV.out
    rw [← this]
    simp [*]
   clear HV
   subst HVV
   go_enter Tryz.func185, Tryz.ntmps185
   go_wp2_with (go_at_call 183; refine (iskey_any to _).mono ?_; rw [HK.out]; rintro e w' ⟨rfl, rfl⟩)
   go_ret
   exact ⟨by rfl, blAlloc (Below.refl _ _) _⟩
  ·have HK := hI hK
   cases hE : to.toList == key.toList
   ·
    have HVV : v = true := by
     have := HV.out
     rw [← this]
     simp [*]
    clear HV
    subst HVV
    go_enter Tryz.func185, Tryz.ntmps185
    go_wp2_with (go_at_call 183; refine (iskey_any to _).mono ?_; rw [HK.out]; rintro e w' ⟨rfl, rfl⟩)
    go_ret
    exact ⟨by rfl, blAlloc (Below.refl _ _) _⟩
   ·
    have HVV : v = false := by
     have := HV.out
     rw [← this]
     simp [*]
    clear HV
    subst HVV
    go_enter Tryz.func185, Tryz.ntmps185
    go_wp2_with (go_at_call 183; refine (iskey_any to _).mono ?_; rw [HK.out]; rintro e w' ⟨rfl, rfl⟩)
    go_ret
    exact ⟨by rfl, blAlloc (Below.refl _ _) _⟩
 have HVV : v = false := by
  have := HV.out
  rw [← this]
  simp [*]
 clear HV
 subst HVV
 go_enter Tryz.func185, Tryz.ntmps185
 go_wp2_with (go_at_call 183; refine (iskey_any to _).mono ?_; rw [HK.out]; rintro e w' ⟨rfl, rfl⟩)
 go_ret
 exact ⟨by rfl, blAlloc (Below.refl _ _) _⟩

theorem ret_i {a b : Int} (h : a = b) : Ending.returned (.int .i64 a) = .returned (.int .i64 b) := by rw [h]
theorem check_bad {l : List Opr} (h8 : ¬ 8 < l.length) {k : Nat} {x : Opr} (hx : l[k]? = some x) (hb : okB x = false) : checkP l = 80 := by
 unfold checkP
 rw [if_neg h8]
 split
 ·rfl
 ·rw [if_neg]
  intro h
  rw [List.all_eq_true] at h
  rw [h x (List.mem_of_getElem? hx)] at hb
  cases hb
theorem take_ok {l : List Opr} {k : Nat} {x : Opr} (hx : l[k]? = some x) (h : ∀ y ∈ l.take k, okB y = true) (hb : okB x = true) : ∀ y ∈ l.take (k + 1), okB y = true := by
 intro y hy
 rw [List.take_add_one, hx, List.mem_append] at hy
 rcases hy with hy | hy
 ·exact h y hy
 ·simp only [Option.toList, List.mem_singleton] at hy
  subst hy
  exact hb
theorem check_good {l : List Opr} (h8 : ¬ 8 < l.length) (hne : l ≠ []) {k : Nat} (hk : l.length ≤ k) (h : ∀ y ∈ l.take k, okB y = true) : checkP l = 0 := by
 unfold checkP
 rw [if_neg h8, if_neg hne, if_pos]
 rw [List.all_eq_true]
 intro x hx
 refine h x ?_
 rw [List.take_of_length_le hk]
 exact hx
theorem ok_kd {o : Opr} (h : okB o = true) : Kd o ∧ keyB o.2.1 = true ∧ rtN o.2.2.2 = o.2.2.2 ∧ (o.1 = 6 → keyB o.2.2.1 = true ∧ o.2.2.1 ≠ o.2.1) ∧ (o.1 = 2 → noT o.2.2.1 = true ∨ ltT o.2.1 o.2.2.1 = true) := by
 unfold okB at h
 simp only [Bool.and_eq_true, decide_eq_true_eq] at h
 obtain ⟨⟨h1, h2⟩, h3⟩ := h
 unfold suitB at h3
 refine ⟨?_, h1, h2, fun h6 => ?_, fun h6 => ?_⟩
 ·unfold Kd
  split at h3
  ·omega
  ·split at h3
   ·omega
   ·split at h3
    ·omega
    ·split at h3
     ·omega
     ·cases h3
 ·rw [if_neg (by omega), if_neg (by omega), if_neg (by omega), if_pos h6] at h3
  simp only [Bool.and_eq_true, Bool.not_eq_true', beq_eq_false_iff_ne, ne_eq] at h3
  exact ⟨h3.1, fun e => h3.2 (by rw [e])⟩
 ·rw [if_neg (by omega), if_pos h6] at h3
  simp only [Bool.and_eq_true, Bool.or_eq_true] at h3
  rcases h3.1 with h | h
  ·exact .inl h
  ·exact .inr h.2
theorem check8_any (va : Value) (l : List Opr) (w : World) (hlen : l.length ≤ 1000000) (h : SlG eO w va l) : Calls Tryz.prog 133 #[va] w fun e w' => e = .returned (.int .i64 (checkP l)) ∧ Below w.heap.size w w' := by
 obtain ⟨a, cap, rfl⟩ := h.form
 have HL := hI h
 clear h
 by_cases h8 : 8 < l.length
 ·have HV : Hid (checkP l = 6) := by unfold checkP; exact if_pos h8
  have h8I : (8 : Int) < (l.length : Int) := by omega
  go_enter Tryz.func133, Tryz.ntmps133
  go_wp2
  go_ret
  exact ⟨ret_i HV.out.symm, Below.refl _ _⟩
 ·have h8I : ¬ (8 : Int) < (l.length : Int) := by omega
  by_cases h0 : l = []
  ·subst h0
   go_enter Tryz.func133, Tryz.ntmps133
   go_wp2
   go_ret
   exact ⟨rfl, Below.refl _ _⟩
  ·have h0n : ¬ l.length = 0 := fun e => h0 (List.eq_nil_of_length_eq_zero e)
   have h0I : ¬ (l.length : Int) = 0 := by omega
   go_enter Tryz.func133, Tryz.ntmps133
   go_wp2_with fail
   go_loopw [13] (fun i wr => ∃ k : Nat, k ≤ l.length ∧ i = .int .i64 k ∧ (∀ x ∈ l.take k, okB x = true) ∧ Below w.heap.size w wr) (fun i _ => l.length - (RowKit.intOf i).toNat)
   case atStart => exact ⟨0, Nat.zero_le _, rfl, fun x hx => by simp at hx, Below.refl _ _⟩
   case round =>
    obtain ⟨k, hk, rfl, hok, hb⟩ := hrel
    have HB := hI hb
    have HOK := hI hok
    clear hb hok
    by_cases hlt : k < l.length
    ·obtain ⟨⟨kd, key, to, n⟩, hx⟩ := at_lt hlt
     have HX := hI hx
     have HLr := HL.out.later HB.out
     obtain ⟨g, o, hA, hg, c0, c1, c2, c3⟩ := ops_at HLr hx
     simp only at c0 c1 c2 c3
     have hk1 : (k : Int) < (l.length : Int) := by omega
     have hdk : decide ((k : Int) < (l.length : Int)) = true := decide_eq_true hk1
     have hdn : decide (k < l.length) = true := decide_eq_true hlt
     clear hx HLr
     subst hA
     cases hk : keyB key
     ·have HV := hI (check_bad h8 HX.out (by unfold okB; simp only; rw [hk]; rfl))
      go_wp2_with (first | (go_at_call 183; refine (iskey_any key _).mono ?_; rw [hk]; rintro e w' ⟨rfl, rfl⟩) | (go_at_call 184; refine (SN.check_any n _).mono ?_; rw [hn]; rintro e w' ⟨rfl, rfl⟩) | (go_at_call 185; refine (suits_any (kd, key, to, n) _).mono ?_; rw [hs]; rintro e w2 ⟨rfl, h5⟩; have HB2 : Hid (Below w.heap.size w w2) := blThen (blAlloc HB.out _) h5; clear h5))
      go_ret
      exact ⟨ret_i HV.out.symm, blAlloc HB.out _⟩
     ·by_cases hr : rtN n = n
      ·have hn : chN n = 0 := by unfold chN; exact if_pos hr
       cases hs : suitB (kd, key, to, n)
       ·have HV := hI (check_bad h8 HX.out (by unfold okB; rw [hs, Bool.and_false]))
        go_wp2_with (first | (go_at_call 183; refine (iskey_any key _).mono ?_; rw [hk]; rintro e w' ⟨rfl, rfl⟩) | (go_at_call 184; refine (SN.check_any n _).mono ?_; rw [hn]; rintro e w' ⟨rfl, rfl⟩) | (go_at_call 185; refine (suits_any (kd, key, to, n) _).mono ?_; rw [hs]; rintro e w2 ⟨rfl, h5⟩; have HB2 : Hid (Below w.heap.size w w2) := blThen (blAlloc HB.out _) h5; clear h5))
        go_ret
        exact ⟨ret_i HV.out.symm, HB2.out⟩
       ·have HT := hI (take_ok HX.out HOK.out (by unfold okB; rw [hs]; simp only; rw [hk, decide_eq_true hr]; rfl))
        go_wp2_with (first | (go_at_call 183; refine (iskey_any key _).mono ?_; rw [hk]; rintro e w' ⟨rfl, rfl⟩) | (go_at_call 184; refine (SN.check_any n _).mono ?_; rw [hn]; rintro e w' ⟨rfl, rfl⟩) | (go_at_call 185; refine (suits_any (kd, key, to, n) _).mono ?_; rw [hs]; rintro e w2 ⟨rfl, h5⟩; have HB2 : Hid (Below w.heap.size w w2) := blThen (blAlloc HB.out _) h5; clear h5))
        go_roundw
        case rel => exact ⟨k + 1, hlt, by go_num, HT.out, HB2.out⟩
        case measure => simp [RowKit.intOf]; omega
      ·have hn : chN n = 70 := by unfold chN; exact if_neg hr
       have HV := hI (check_bad h8 HX.out (by unfold okB; simp only; rw [decide_eq_false hr, Bool.and_false, Bool.false_and]))
       go_wp2_with (first | (go_at_call 183; refine (iskey_any key _).mono ?_; rw [hk]; rintro e w' ⟨rfl, rfl⟩) | (go_at_call 184; refine (SN.check_any n _).mono ?_; rw [hn]; rintro e w' ⟨rfl, rfl⟩) | (go_at_call 185; refine (suits_any (kd, key, to, n) _).mono ?_; rw [hs]; rintro e w2 ⟨rfl, h5⟩; have HB2 : Hid (Below w.heap.size w w2) := blThen (blAlloc HB.out _) h5; clear h5))
       go_ret
       exact ⟨ret_i HV.out.symm, blAlloc HB.out _⟩
    ·have hge : ¬ (k : Int) < (l.length : Int) := by omega
     have hdk : decide ((k : Int) < (l.length : Int)) = false := decide_eq_false hge
     have hdn : decide (k < l.length) = false := decide_eq_false hlt
     have HV := hI (check_good h8 h0 (by omega) HOK.out)
     go_wp2
     go_ret
     exact ⟨ret_i HV.out.symm, HB.out⟩

theorem key_len {k : ByteArray} (h : keyB k = true) : k.size ≤ 16 := by
 unfold keyB at h
 simp only [decide_eq_true_eq] at h
 exact h.2
end SP
end Go.Proofs.YtgipkikedacmdaaGreat
