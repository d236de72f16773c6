/- Has of a set; Key, Check, Point. Conditions: lists of at most a million spans. -/
import Derived.Deep.QuietTactic
import Derived.Test.YtjlkgbejldcklaaGreatMg05
import Derived.Test.YtjlkgbejldcklaaGreatMg07
namespace Go.Proofs.YtjlkgbejldcklaaGreat
namespace S3
open Go.RowKit
open Go.Sort (grow grow_empty)
theorem grow_below' (w : World) (q : Nat) (os : Array Obj) : Below w.heap.size w (grow (w.drewN q) os) :=
  ⟨rfl, rfl, rfl, by simp [grow, World.drewN], fun k hk => by
    show (w.heap ++ os)[k]? = _
    rw [Array.getElem?_append_left hk]⟩
theorem count_mono (p : Nat → Bool) : ∀ n, (∀ a b, a ≤ b → b < n → p a = true → p b = true) → (List.range n).countP (fun i => !p i) ≤ n ∧ (∀ t, t < (List.range n).countP (fun i => !p i) → p t = false) ∧ (∀ t, (List.range n).countP (fun i => !p i) ≤ t → t < n → p t = true)
  | 0, _ => ⟨Nat.le_refl _, fun t h => absurd h (Nat.not_lt_zero _), fun t _ h => absurd h (Nat.not_lt_zero _)⟩
  | n + 1, h => by
    obtain ⟨h1, h2, h3⟩ := count_mono p n (fun a b hab hb => h a b hab (by omega))
    rw [List.range_succ, List.countP_append]
    generalize (List.range n).countP (fun i => !p i) = c at *
    cases hp : p n
    · have hc : c = n := by
        apply Classical.byContradiction
        intro hne
        have := h c n h1 (by omega) (h3 c (Nat.le_refl _) (by omega))
        rw [hp] at this
        cases this
      simp only [List.countP_singleton, hp, Bool.not_false, if_true]
      refine ⟨by omega, fun t ht => ?_, fun t ht hn => ?_⟩
      · rcases Nat.lt_or_ge t c with h' | h'
        · exact h2 t h'
        · have : t = n := by omega
          rw [this]; exact hp
      · omega
    · simp only [List.countP_singleton, hp, Bool.not_true, Bool.false_eq_true, if_false, Nat.add_zero]
      refine ⟨by omega, h2, fun t ht hn => ?_⟩
      rcases Nat.lt_or_ge t n with h' | h'
      · exact h3 t ht h'
      · have : t = n := by omega
        rw [this]; exact hp
def fromP (l : List Sp) (k : ByteArray) (i : Nat) : Bool := match l[i]? with | some s => ltT k s.1 | none => true
theorem fromP_at {l : List Sp} {k : ByteArray} {i : Nat} {s : Sp} (h : l[i]? = some s) : fromP l k i = ltT k s.1 := by unfold fromP; rw [h]
theorem set_rises {l : List Sp} (h : IsSet l) {i j : Nat} {s t : Sp} (hi : l[i]? = some s) (hj : l[j]? = some t) (hij : i < j) : Apart s t := by
  obtain ⟨h1, rfl⟩ := List.getElem?_eq_some_iff.1 hi
  obtain ⟨h2, rfl⟩ := List.getElem?_eq_some_iff.1 hj
  exact List.pairwise_iff_getElem.1 h.2 i j h1 h2 hij
theorem apart_from {s t : Sp} (hs : fullS s = true) (h : Apart s t) : ltT s.1 t.1 = true := by
  unfold fullS at hs
  rw [h.1] at hs
  simp only [Bool.false_or] at hs
  exact lt_trans hs h.2
theorem fromP_mono {l : List Sp} (h : IsSet l) (k : ByteArray) : ∀ a b, a ≤ b → b < l.length → fromP l k a = true → fromP l k b = true := by
  intro a b hab hb hp
  obtain ⟨s, hs⟩ := at_lt (l := l) (k := a) (by omega)
  obtain ⟨t, ht⟩ := at_lt hb
  rw [fromP_at hs] at hp
  rw [fromP_at ht]
  rcases Nat.lt_or_ge a b with h' | h'
  · exact lt_trans hp (apart_from (h.1 s (List.mem_of_getElem? hs)) (set_rises h hs ht h'))
  · have : a = b := by omega
    subst this
    rw [hs] at ht
    cases ht
    exact hp
theorem mem_none {l : List Sp} {k : ByteArray} (h : ∀ t, t < l.length → fromP l k t = true) : memL l k = false := by
  rw [memL_false]
  intro s hs
  obtain ⟨i, hi, rfl⟩ := List.mem_iff_getElem.1 hs
  have := h i hi
  rw [fromP_at (List.getElem?_eq_getElem hi)] at this
  exact inS_below this
theorem mem_one {l : List Sp} {k : ByteArray} {c : Nat} {s : Sp} (h : IsSet l) (hs : l[c]? = some s) (h1 : fromP l k c = false) (h2 : ∀ t, c < t → t < l.length → fromP l k t = true) : memL l k = aboveT s.2 k := by
  rw [fromP_at hs] at h1
  have hin : inS s k = aboveT s.2 k := by rw [inS_above, h1]; simp
  rw [← hin, Bool.eq_iff_iff, memL_true]
  constructor
  · rintro ⟨t, ht, hk⟩
    obtain ⟨i, hi, rfl⟩ := List.mem_iff_getElem.1 ht
    have hti : l[i]? = some l[i] := List.getElem?_eq_getElem hi
    rcases Nat.lt_trichotomy i c with h' | h' | h'
    · have ha := set_rises h hti hs h'
      exfalso
      have : inS l[i] k = false := inS_to ha.1 (by
        cases h3 : ltT k l[i].2
        · rfl
        · rw [lt_trans h3 ha.2] at h1
          cases h1)
      rw [this] at hk
      cases hk
    · subst h'
      rw [hti] at hs
      cases hs
      exact hk
    · have := h2 i h' hi
      rw [fromP_at hti] at this
      rw [inS_below this] at hk
      cases hk
  · intro hk
    exact ⟨s, List.mem_of_getElem? hs, hk⟩
set_option maxHeartbeats 1000000 in
theorem has1_any (W : World) (Ba Bk g o n c i : Nat) (s : Sp) (k : ByteArray) (ha : W.cell? ⟨Ba, 0, none⟩ = some (.slice (some ⟨g, o, none⟩) n c)) (hk : W.cell? ⟨Bk, 0, none⟩ = some (.string k)) (hi : i < n) (h0 : W.cell? ⟨g, o + i * 2, none⟩ = some (.string s.1)) :
    Calls Tryz.prog 227 #[.int .i64 i, .pointer (some ⟨Ba, 0, none⟩), .pointer (some ⟨Bk, 0, none⟩)] W fun e w' => e = .returned (.bool (ltT k s.1)) ∧ ∃ q, w' = W.drewN q := by
  have hi0 : (0 : Int) ≤ (i : Int) := by omega
  have hi1 : (i : Int) < (n : Int) := by omega
  have hgt : (!(Op.bytesLess s.1.toList k.toList || s.1.toList == k.toList)) = ltT k s.1 := by
    show (!(ltT s.1 k || s.1.toList == k.toList)) = _
    cases h : ltT s.1 k
    · cases h2 : ltT k s.1
      · have := lt_total h h2
        simp [this]
      · have : s.1.toList ≠ k.toList := by
          intro e
          rw [text_ext e, lt_irrefl] at h2
          cases h2
        simp [this]
    · have := lt_asymm h
      simp [this]
  have HG := Lib.hid hgt
  clear hgt
  go_enter Tryz.func227, Tryz.ntmps227
  go_wp2
  go_quiet (fail)
  go_wp2
  go_ret
  exact ⟨ret_bool (by rw [← HG.out]; simp), _, rfl⟩
theorem eg39 : ∀ args w, (callFunc 227 args).run Tryz.prog w = .ok (.enter 227 args) w := enters_of Tryz.func227 (by kernel_rfl) rfl
set_option maxHeartbeats 1000000 in
theorem search_any (W : World) (Ba Bk : Nat) (a : Option Addr) (n c : Nat) (l : List Sp) (k : ByteArray) (hn : n = l.length) (hlen : l.length ≤ 1000000) (hs : IsSet l) (ha : Sl W (.slice a n c) l) (hBa : Box1 W Ba 72 (.slice a n c)) (hBk : Box1 W Bk 9 (.string k)) :
    Calls Tryz.prog 226 #[.int .i64 n, .func (.func 227) #[] #[.pointer (some ⟨Ba, 0, none⟩), .pointer (some ⟨Bk, 0, none⟩)]] W fun e w' => ∃ r : Nat, e = .returned (.int .i64 r) ∧ r ≤ l.length ∧ (∀ t, t < r → fromP l k t = false) ∧ (∀ t, r ≤ t → t < l.length → fromP l k t = true) ∧ Below W.heap.size W w' := by
  have hcon := Any.sort_Search Tryz.search 227 #[.pointer (some ⟨Ba, 0, none⟩), .pointer (some ⟨Bk, 0, none⟩)] n (fromP l k) W eg39 (by omega) (fun m os i hi => by
    obtain ⟨s, hsi⟩ := at_lt (l := l) (k := i) (by omega)
    obtain ⟨g, o, rfl, hg, c0, _⟩ := ha.at hsi
    have hb := grow_below' W m os
    refine (has1_any (grow (W.drewN m) os) Ba Bk g o n c i s k (hBa.later hb hBa.lt).c (hBk.later hb hBk.lt).c hi (cell_in hb hg c0)).mono fun e w' ⟨he, q, hw⟩ => ⟨by rw [fromP_at hsi]; exact he, q, #[], by rw [hw, grow_empty]⟩) (by rw [hn]; exact fromP_mono hs k)
  change Calls Tryz.prog 226 _ _ _ at hcon
  obtain ⟨h1, h2, h3⟩ := count_mono (fromP l k) l.length (fromP_mono hs k)
  rw [hn] at hcon ⊢
  exact hcon.mono fun e w' ⟨he, q, os, hw⟩ => ⟨_, he, h1, h2, h3, by rw [hw]; exact grow_below' W q os⟩
set_option maxRecDepth 100000 in
set_option maxHeartbeats 1000000 in
theorem has_any (va : Value) (l : List Sp) (k : ByteArray) (w : World) (hlen : l.length ≤ 1000000) (ha : Sl w va l) (hs : IsSet l) :
    Calls Tryz.prog 152 #[va, .string k] w fun e w' => e = .returned (.bool (memL l k)) ∧ Below w.heap.size w w' := by
  obtain ⟨aa, ca, rfl⟩ := ha.form
  have hbel := blAlloc (blAlloc (Below.refl w.heap.size w) (.cells #[.slice aa l.length ca] 72)) (.cells #[.string k] 9)
  have HTB := Lib.hid (two_boxes w (.slice aa l.length ca) (.string k) 72 9)
  have HA := Lib.hid (ha.later hbel)
  have HBEL := Lib.hid hbel
  have HS := Lib.hid hs
  clear ha hs hbel
  go_enter Tryz.func152, Tryz.ntmps152
  go_wp2_with fail
  refine (search_any _ _ _ aa l.length ca l k rfl hlen HS.out HA.out HTB.out.1 HTB.out.2).mono ?_
  rintro e w1 ⟨r, rfl, hr, hlo, hhi, hb⟩
  have HLO := Lib.hid hlo
  have HHI := Lib.hid hhi
  have HB := Lib.hid (blThen HBEL.out hb)
  have b0 := HTB.out.1.later hb HTB.out.1.lt
  have b1 := HTB.out.2.later hb HTB.out.2.lt
  have b0c := b0.c
  have b1c := b1.c
  have HA1 := Lib.hid (HA.out.later hb)
  clear hlo hhi hb b0 b1 HA HTB
  by_cases h0 : r = 0
  · subst h0
    have HM := Lib.hid (mem_none (l := l) (k := k) (fun t ht => HHI.out t (Nat.zero_le _) ht))
    have hd : decide ((0 : Int) < 0) = false := by decide
    go_wp2
    go_quiet (fail)
    go_wp2
    go_ret
    exact ⟨ret_bool HM.out.symm, HB.out.trans ⟨rfl, rfl, rfl, Nat.le_refl _, fun _ _ => rfl⟩⟩
  · obtain ⟨q, rfl⟩ : ∃ q, r = q + 1 := ⟨r - 1, by omega⟩
    obtain ⟨s, hsq⟩ := at_lt (l := l) (k := q) (by omega)
    obtain ⟨g, o, rfl, hg, c0, c1⟩ := HA1.out.at hsq
    have HM := Lib.hid (mem_one HS.out hsq (HLO.out q (by omega)) (fun t h1 h2 => HHI.out t (by omega) h2))
    have hd : decide ((0 : Int) < (q : Int) + 1) = true := decide_eq_true (by omega)
    have hq0 : (0 : Int) ≤ (q : Int) := by omega
    have hq1 : (q : Int) < (l.length : Int) := by omega
    clear hsq h0
    go_wp2
    go_quiet ((go_at_call 228; exact Calls.quiet_of_same ((above_any _ _ _).mono fun e w' h => ⟨h.1, h.2.symm⟩)))
    go_wp2
    go_ret
    exact ⟨ret_bool HM.out.symm, HB.out.trans ⟨rfl, rfl, rfl, Nat.le_refl _, fun _ _ => rfl⟩⟩
end S3
end Go.Proofs.YtjlkgbejldcklaaGreat
