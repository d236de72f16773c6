/- points, between, reads, writes of package txn. Conditions: ops that may be. -/
import Derived.Deep.RegionHeld3
import Derived.WalkSpells
import Derived.Test.YtpdfcojcmhadnaaGreatMg19
import Derived.Test.YtpdfcojcmhadnaaGreatMg16
import Derived.Test.YtpdfcojcmhadnaaGreatMg08
import Derived.Test.YtpdfcojcmhadnaaGreatMg18
import Derived.Test.YtpdfcojcmhadnaaGreatMg10
set_option maxRecDepth 100000
set_option maxHeartbeats 16000000
set_option linter.unusedVariables false
set_option linter.unusedSimpArgs false
namespace Go.Proofs.YtpdfcojcmhadnaaGreat
open S3 SN
namespace SP
open Go.ChangeShapes Go.WideShapes Go.ChangeAt Go.RowKit Go.Joins Go.Deep
def opV (o : Opr) : Value := .agg #[.int .i64 o.1, .string o.2.1, .string o.2.2.1, .int .u64 (o.2.2.2 : Int)]
def eO : Enc Opr := ⟨fun o => [.int .i64 o.1, .string o.2.1, .string o.2.2.1, .int .u64 (o.2.2.2 : Int)], 4, fun _ => rfl, fun x u hu => by
 simp only [List.mem_cons, List.not_mem_nil, or_false] at hu
 rcases hu with rfl | rfl | rfl | rfl <;> rfl, by decide⟩
def eP : Enc (ByteArray × Nat) := ⟨fun p => [.string p.1, .int .u64 (p.2 : Int)], 2, fun _ => rfl, fun x u hu => by
 simp only [List.mem_cons, List.not_mem_nil, or_false] at hu
 rcases hu with rfl | rfl <;> rfl, by decide⟩
structure AnR where
 yes : Bool
 num : Nat
 at_ : Option Addr
 cap : Nat
 prs : Al Nat
def eA : Enc AnR := ⟨fun r => [.bool r.yes, .int .u64 (r.num : Int), .slice r.at_ r.prs.length r.cap], 3, fun _ => rfl, fun x u hu => by
 simp only [List.mem_cons, List.not_mem_nil, or_false] at hu
 rcases hu with rfl | rfl | rfl <;> rfl, by decide⟩
theorem ops_at {w : World} {a : Option Addr} {n cap : Nat} {l : List Opr} (h : SlG eO w (.slice a n cap) l) {k : Nat} {x : Opr} (hs : l[k]? = some x) :
  ∃ g o, a = some ⟨g, o, none⟩ ∧ g < w.heap.size ∧ w.cell? ⟨g, o + k * 4, none⟩ = some (.int .i64 x.1) ∧ w.cell? ⟨g, o + k * 4 + 1, none⟩ = some (.string x.2.1) ∧ w.cell? ⟨g, o + k * 4 + 2, none⟩ = some (.string x.2.2.1) ∧ w.cell? ⟨g, o + k * 4 + 3, none⟩ = some (.int .u64 (x.2.2.2 : Int)) := by
 obtain ⟨g, o, ha, hg, hc⟩ := h.at hs
 exact ⟨g, o, ha, hg, hc 0 _ rfl, hc 1 _ rfl, hc 2 _ rfl, hc 3 _ rfl⟩
def suitB (o : Opr) : Bool :=
 if o.1 = 1 ∨ o.1 = 5 then noT o.2.2.1 && decide (o.2.2.2 = 0)
 else if o.1 = 2 then (noT o.2.2.1 || (keyB o.2.2.1 && ltT o.2.1 o.2.2.1)) && decide (o.2.2.2 = 0)
 else if o.1 = 3 ∨ o.1 = 4 then noT o.2.2.1
 else if o.1 = 6 then keyB o.2.2.1 && !(o.2.2.1.toList == o.2.1.toList)
 else false
def okB (o : Opr) : Bool := keyB o.2.1 && decide (rtN o.2.2.2 = o.2.2.2) && suitB o
def checkP (l : List Opr) : Int := if 8 < l.length then 6 else if l = [] then 80 else if l.all okB = true then 0 else 80

theorem ret_i {a b : Int} (h : a = b) : Ending.returned (.int .i64 a) = .returned (.int .i64 b) := by rw [h]
theorem check_bad {l : List Opr} (h8 : ¬ 8 < l.length) {k : Nat} {x : Opr} (hx : l[k]? = some x) (hb : okB x = false) : checkP l = 80 := by
 unfold checkP
 rw [if_neg h8]
 split
 ·rfl
 ·rw [if_neg]
  intro h
  rw [List.all_eq_true] at h
  rw [h x (List.mem_of_getElem? hx)] at hb
  cases hb
theorem take_ok {l : List Opr} {k : Nat} {x : Opr} (hx : l[k]? = some x) (h : ∀ y ∈ l.take k, okB y = true) (hb : okB x = true) : ∀ y ∈ l.take (k + 1), okB y = true := by
 intro y hy
 rw [List.take_add_one, hx, List.mem_append] at hy
 rcases hy with hy | hy
 ·exact h y hy
 ·simp only [Option.toList, List.mem_singleton] at hy
  subst hy
  exact hb
theorem check_good {l : List Opr} (h8 : ¬ 8 < l.length) (hne : l ≠ []) {k : Nat} (hk : l.length ≤ k) (h : ∀ y ∈ l.take k, okB y = true) : checkP l = 0 := by
 unfold checkP
 rw [if_neg h8, if_neg hne, if_pos]
 rw [List.all_eq_true]
 intro x hx
 refine h x ?_
 rw [List.take_of_length_le hk]
 exact hx
theorem check_kd {l : List Opr} (h : checkP l = 0) : l.length ≤ 8 ∧ l ≠ [] ∧ ∀ o ∈ l, okB o = true := by
 unfold checkP at h
 by_cases h8 : 8 < l.length
 ·rw [if_pos h8] at h; cases h
 ·rw [if_neg h8] at h
  by_cases h0 : l = []
  ·rw [if_pos h0] at h; cases h
  ·rw [if_neg h0] at h
   by_cases ha : l.all okB = true
   ·exact ⟨by omega, h0, List.all_eq_true.1 ha⟩
   ·rw [if_neg ha] at h; cases h
theorem ok_kd {o : Opr} (h : okB o = true) : Kd o ∧ keyB o.2.1 = true ∧ rtN o.2.2.2 = o.2.2.2 ∧ (o.1 = 6 → keyB o.2.2.1 = true ∧ o.2.2.1 ≠ o.2.1) ∧ (o.1 = 2 → noT o.2.2.1 = true ∨ ltT o.2.1 o.2.2.1 = true) := by
 unfold okB at h
 simp only [Bool.and_eq_true, decide_eq_true_eq] at h
 obtain ⟨⟨h1, h2⟩, h3⟩ := h
 unfold suitB at h3
 refine ⟨?_, h1, h2, fun h6 => ?_, fun h6 => ?_⟩
 ·unfold Kd
  split at h3
  ·omega
  ·split at h3
   ·omega
   ·split at h3
    ·omega
    ·split at h3
     ·omega
     ·cases h3
 ·rw [if_neg (by omega), if_neg (by omega), if_neg (by omega), if_pos h6] at h3
  simp only [Bool.and_eq_true, Bool.not_eq_true', beq_eq_false_iff_ne, ne_eq] at h3
  exact ⟨h3.1, fun e => h3.2 (by rw [e])⟩
 ·rw [if_neg (by omega), if_pos h6] at h3
  simp only [Bool.and_eq_true, Bool.or_eq_true] at h3
  rcases h3.1 with h | h
  ·exact .inl h
  ·exact .inr h.2

theorem two_newT (X : World) (s t : ByteArray) (n : Nat) (h : X.heap.size = n) : Tl (X.alloc (.cells #[.string s, .string t] 9)) (.slice (some ⟨n, 0, none⟩) 2 2) [s, t] := by
 subst h
 refine ⟨_, 2, rfl, fun h => (by cases h), fun _ => ⟨X.heap.size, 0, rfl, by simp, fun i x hi => ?_⟩⟩
 have hb : (X.alloc (.cells #[.string s, .string t] 9)).heap[X.heap.size]? = some (.cells #[.string s, .string t] 9 (0, 0)) := by
  show (X.heap.push _)[X.heap.size]? = _
  simp
 match i, hi with
 | 0, hi =>
  simp only [List.getElem?_cons_zero, Option.some.injEq] at hi
  subst hi
  simp only [World.cell?, hb]
  rfl
 | 1, hi =>
  simp only [List.getElem?_cons_succ, List.getElem?_cons_zero, Option.some.injEq] at hi
  subst hi
  simp only [World.cell?, hb]
  rfl
 | i + 2, hi => simp at hi
theorem own_oneS (X : World) (s : Sp) (n base : Nat) (h : X.heap.size = n) (hb : base ≤ n) : OwnL (X.alloc (.cells #[.string s.1, .string s.2] 57)) base (.slice (some ⟨n, 0, none⟩) 1 1) [s] := by
 subst h
 refine ⟨rfl, .inr ⟨X.heap.size, 1, #[.string s.1, .string s.2], rfl, hb, ?_, Nat.le_refl _, by unfold maxLen; omega, rfl, rfl⟩⟩
 show (X.heap.push _)[X.heap.size]? = _
 simp
theorem two_newS (X : World) (a b : Sp) (n : Nat) (h : X.heap.size = n) : Sl (X.alloc (.cells #[.string a.1, .string a.2, .string b.1, .string b.2] 57)) (.slice (some ⟨n, 0, none⟩) 2 2) [a, b] := by
 subst h
 refine ⟨_, 2, rfl, fun h => (by cases h), fun _ => ⟨X.heap.size, 0, rfl, by simp, fun i x hi => ?_⟩⟩
 have hb : (X.alloc (.cells #[.string a.1, .string a.2, .string b.1, .string b.2] 57)).heap[X.heap.size]? = some (.cells #[.string a.1, .string a.2, .string b.1, .string b.2] 57 (0, 0)) := by
  show (X.heap.push _)[X.heap.size]? = _
  simp
 match i, hi with
 | 0, hi =>
  simp only [List.getElem?_cons_zero, Option.some.injEq] at hi
  subst hi
  simp only [World.cell?, hb]
  exact ⟨rfl, rfl⟩
 | 1, hi =>
  simp only [List.getElem?_cons_succ, List.getElem?_cons_zero, Option.some.injEq] at hi
  subst hi
  simp only [World.cell?, hb]
  exact ⟨rfl, rfl⟩
 | i + 2, hi => simp at hi
theorem RetO.mono {w x : World} {r : List Sp} {e : Ending} {w' : World} (hb : Below w.heap.size w x) (h : RetO x r e w') : RetO w r e w' := by
 obtain ⟨v, he, ho, hx⟩ := h
 exact ⟨v, he, ho.mono hb.size, blThen hb hx⟩
theorem points_any (va : Value) (ks : List ByteArray) (w : World) (hlen : ks.length ≤ 1000) (hk : ∀ k ∈ ks, k.size ≤ 1000000000) (ha : Tl w va ks) : Calls Tryz.prog 105 #[va] w (RetO w (ks.map ptS)) := by
 obtain ⟨a, cap, rfl⟩ := ha.form
 have HL := Lib.hid ha
 have HK := Lib.hid hk
 clear ha hk
 go_enter Tryz.func105, Tryz.ntmps105
 go_wp2_with fail
 go_loopw [3, 8] (fun v i wr => ∃ k : Nat, k ≤ ks.length ∧ i = .int .i64 k ∧ OwnL wr w.heap.size v ((ks.take k).map ptS) ∧ Below w.heap.size w wr) (fun _ i _ => ks.length - (RowKit.intOf i).toNat)
 case atStart => exact ⟨0, Nat.zero_le _, rfl, OwnL.nil _ _, Below.refl _ _⟩
 case round =>
  obtain ⟨k, hk, rfl, ho, hb⟩ := hrel
  have HB := Lib.hid hb
  have HO := Lib.hid ho
  obtain ⟨av, cv, rfl⟩ := ho.form
  have hll : ((ks.take k).map ptS).length ≤ 1000 := by rw [List.length_map, List.length_take]; omega
  have HLL := Lib.hid hll
  clear hb ho hll
  generalize hD : (ks.take k).map ptS = D at *
  generalize hN : D.length = N at *
  have HD := Lib.hid hD
  have HN := Lib.hid hN
  clear hD hN
  by_cases hlt : k < ks.length
  ·obtain ⟨x, hx⟩ := at_lt hlt
   have HLr := HL.out.later HB.out
   obtain ⟨g, o, hA, hg, c0⟩ := HLr.at hx
   have hkx : x.size ≤ 1000000000 := HK.out x (List.mem_of_getElem? hx)
   have hk1 : (k : Int) < (ks.length : Int) := by omega
   have hdk : decide ((k : Int) < (ks.length : Int)) = true := decide_eq_true hk1
   have hdn : decide (k < ks.length) = true := decide_eq_true hlt
   have HT : Hid (D ++ [ptS x] = (ks.take (k + 1)).map ptS) := by
    show _ = _
    rw [List.take_add_one, hx, List.map_append, HD.out]
    rfl
   clear hx HLr
   subst hA
   go_wp2_with (first
    | (go_at_call 111; refine (point_any x _ hkx).mono ?_; rintro e w2 ⟨rfl, h5⟩; have HB2 : Hid (Below w.heap.size w w2) := blThen HB.out h5; have HO2 := Lib.hid (HO.out.later h5); clear h5)
    | (at_builtin; go_must (refine append_sp rfl _ _ rfl w.heap.size _ D rfl (HO2.out.later (blAlloc (Below.refl _ _) _)) _ [ptS x] rfl (one_sl (box2_new _ (ptS x)) _) (by have := HLL.out; have := HN.out; simp only [List.length_cons, List.length_nil]; omega) (blAlloc HB2.out _).size ?_; intro v3 w3 h1 h2; have HO3 := Lib.hid h1; have HB3 : Hid (Below w.heap.size w w3) := grown_below (blAlloc HB2.out _) (HO2.out.later (blAlloc (Below.refl _ _) _)) (Nat.le_refl _) (blAlloc HB2.out _).size h2; clear h1 h2)))
   go_roundw
   case rel => exact ⟨k + 1, hlt, by go_num, by rw [← HT.out]; exact HO3.out, HB3.out⟩
   case measure => simp [RowKit.intOf]; omega
  ·have hge : ¬ (k : Int) < (ks.length : Int) := by omega
   have hdk : decide ((k : Int) < (ks.length : Int)) = false := decide_eq_false hge
   have hdn : decide (k < ks.length) = false := decide_eq_false hlt
   have hE : D = ks.map ptS := by rw [← HD.out, List.take_of_length_le (by omega)]
   have HE := Lib.hid hE
   clear hE
   go_wp2
   go_ret
   exact ⟨_, rfl, by rw [← HE.out]; exact HO.out, HB.out⟩
theorem between_any (o : Opr) (w : World) : Calls Tryz.prog 106 #[opV o] w fun e w' => e = .returned (.agg #[.string o.2.1, .string o.2.2.1]) ∧ Below w.heap.size w w' := by
 obtain ⟨kd, key, to, n⟩ := o
 unfold opV
 simp only
 go_enter Tryz.func106, Tryz.ntmps106
 go_wp2
 exact bodyPost_ret (v := .agg #[.string key, .string to]) (by simp [results, Tryz.results106, go_sem]) rfl ⟨rfl, blAlloc (blAlloc (Below.refl _ _) _) _⟩
theorem key_len {k : ByteArray} (h : keyB k = true) : k.size ≤ 16 := by
 unfold keyB at h
 simp only [decide_eq_true_eq] at h
 exact h.2
theorem reads_any (o : Opr) (ho : okB o = true) (w : World) : Calls Tryz.prog 89 #[opV o] w (RetO w (rdS o)) := by
 obtain ⟨hkd, hky, _, h6, _⟩ := ok_kd ho
 clear ho
 obtain ⟨kd, key, to, n⟩ := o
 simp only at hkd hky h6
 unfold Kd at hkd
 simp only at hkd
 have hkl : ∀ k ∈ [key], k.size ≤ 1000000000 := by
  intro k hk
  simp only [List.mem_singleton] at hk
  subst hk
  have := key_len hky
  omega
 have hk6 : kd = 6 → ∀ k ∈ [key, to], k.size ≤ 1000000000 := by
  intro h k hk
  simp only [List.mem_cons, List.not_mem_nil, or_false] at hk
  rcases hk with rfl | rfl
  ·have := key_len hky; omega
  ·have := key_len (h6 h).1; omega
 have hcs : kd = 1 ∨ kd = 2 ∨ kd = 3 ∨ kd = 4 ∨ kd = 5 ∨ kd = 6 := by omega
 clear hkd h6 hky
 unfold opV
 simp only
 rcases hcs with rfl | rfl | rfl | rfl | rfl | rfl
 ·have HB0 : Hid (Below w.heap.size w (w.alloc (.cells #[.int .i64 1, .string key, .string to, .int .u64 (n : Int)] 72))) := blAlloc (Below.refl _ _) _
  have HB1 : Hid (Below w.heap.size w ((w.alloc (.cells #[.int .i64 1, .string key, .string to, .int .u64 (n : Int)] 72)).alloc (.cells #[.string key] 9))) := blAlloc HB0.out _
  have HT : Hid (Tl ((w.alloc (.cells #[.int .i64 1, .string key, .string to, .int .u64 (n : Int)] 72)).alloc (.cells #[.string key] 9)) (.slice (some ⟨w.heap.size + 1, 0, none⟩) 1 1) [key]) := one_newT _ key _ (by simp)
  go_enter Tryz.func89, Tryz.ntmps89
  go_wp2_with (go_at_call 105; go_must (refine ((points_any _ [key] _ (by simp) hkl HT.out).mono fun e w2 h => RetO.mono HB1.out h).mono ?_; rintro e w2 ⟨v, rfl, h1, h2⟩; have H1 := Lib.hid h1; have H2 := Lib.hid h2; clear h1 h2))
  go_ret
  exact ⟨_, rfl, H1.out, H2.out⟩
 ·have HB0 : Hid (Below w.heap.size w (w.alloc (.cells #[.int .i64 2, .string key, .string to, .int .u64 (n : Int)] 72))) := blAlloc (Below.refl _ _) _
  go_enter Tryz.func89, Tryz.ntmps89
  go_wp2_with (go_at_call 106; go_must (refine (between_any (2, key, to, n) _).mono ?_; rintro e w2 ⟨rfl, h5⟩; have HB2 : Hid (Below w.heap.size w w2) := blThen HB0.out h5; clear h5))
  go_ret
  exact ⟨_, rfl, own_oneS _ (key, to) _ _ rfl HB2.out.size, blAlloc HB2.out _⟩
 ·have HB0 : Hid (Below w.heap.size w (w.alloc (.cells #[.int .i64 3, .string key, .string to, .int .u64 (n : Int)] 72))) := blAlloc (Below.refl _ _) _
  go_enter Tryz.func89, Tryz.ntmps89
  go_wp2
  go_ret
  exact ⟨_, rfl, OwnL.nil _ _, HB0.out⟩
 ·have HB0 : Hid (Below w.heap.size w (w.alloc (.cells #[.int .i64 4, .string key, .string to, .int .u64 (n : Int)] 72))) := blAlloc (Below.refl _ _) _
  have HB1 : Hid (Below w.heap.size w ((w.alloc (.cells #[.int .i64 4, .string key, .string to, .int .u64 (n : Int)] 72)).alloc (.cells #[.string key] 9))) := blAlloc HB0.out _
  have HT : Hid (Tl ((w.alloc (.cells #[.int .i64 4, .string key, .string to, .int .u64 (n : Int)] 72)).alloc (.cells #[.string key] 9)) (.slice (some ⟨w.heap.size + 1, 0, none⟩) 1 1) [key]) := one_newT _ key _ (by simp)
  go_enter Tryz.func89, Tryz.ntmps89
  go_wp2_with (go_at_call 105; go_must (refine ((points_any _ [key] _ (by simp) hkl HT.out).mono fun e w2 h => RetO.mono HB1.out h).mono ?_; rintro e w2 ⟨v, rfl, h1, h2⟩; have H1 := Lib.hid h1; have H2 := Lib.hid h2; clear h1 h2))
  go_ret
  exact ⟨_, rfl, H1.out, H2.out⟩
 ·have HB0 : Hid (Below w.heap.size w (w.alloc (.cells #[.int .i64 5, .string key, .string to, .int .u64 (n : Int)] 72))) := blAlloc (Below.refl _ _) _
  have HB1 : Hid (Below w.heap.size w ((w.alloc (.cells #[.int .i64 5, .string key, .string to, .int .u64 (n : Int)] 72)).alloc (.cells #[.string key] 9))) := blAlloc HB0.out _
  have HT : Hid (Tl ((w.alloc (.cells #[.int .i64 5, .string key, .string to, .int .u64 (n : Int)] 72)).alloc (.cells #[.string key] 9)) (.slice (some ⟨w.heap.size + 1, 0, none⟩) 1 1) [key]) := one_newT _ key _ (by simp)
  go_enter Tryz.func89, Tryz.ntmps89
  go_wp2_with (go_at_call 105; go_must (refine ((points_any _ [key] _ (by simp) hkl HT.out).mono fun e w2 h => RetO.mono HB1.out h).mono ?_; rintro e w2 ⟨v, rfl, h1, h2⟩; have H1 := Lib.hid h1; have H2 := Lib.hid h2; clear h1 h2))
  go_ret
  exact ⟨_, rfl, H1.out, H2.out⟩
 ·have HB0 : Hid (Below w.heap.size w (w.alloc (.cells #[.int .i64 6, .string key, .string to, .int .u64 (n : Int)] 72))) := blAlloc (Below.refl _ _) _
  have HB1 : Hid (Below w.heap.size w ((w.alloc (.cells #[.int .i64 6, .string key, .string to, .int .u64 (n : Int)] 72)).alloc (.cells #[.string key, .string to] 9))) := blAlloc HB0.out _
  have HT : Hid (Tl ((w.alloc (.cells #[.int .i64 6, .string key, .string to, .int .u64 (n : Int)] 72)).alloc (.cells #[.string key, .string to] 9)) (.slice (some ⟨w.heap.size + 1, 0, none⟩) 2 2) [key, to]) := two_newT _ key to _ (by simp)
  have HK6 := Lib.hid (hk6 rfl)
  clear hk6 hkl
  go_enter Tryz.func89, Tryz.ntmps89
  go_wp2_with (go_at_call 105; go_must (refine ((points_any _ [key, to] _ (by simp) HK6.out HT.out).mono fun e w2 h => RetO.mono HB1.out h).mono ?_; rintro e w2 ⟨v, rfl, h1, h2⟩; have H1 := Lib.hid h1; have H2 := Lib.hid h2; clear h1 h2))
  go_ret
  exact ⟨_, rfl, H1.out, H2.out⟩
theorem writes_any (o : Opr) (ho : okB o = true) (w : World) : Calls Tryz.prog 90 #[opV o] w (RetO w (wrS o)) := by
 obtain ⟨hkd, hky, _, h6, _⟩ := ok_kd ho
 clear ho
 obtain ⟨kd, key, to, n⟩ := o
 simp only at hkd hky h6
 unfold Kd at hkd
 simp only at hkd
 have hkl : ∀ k ∈ [key], k.size ≤ 1000000000 := by
  intro k hk
  simp only [List.mem_singleton] at hk
  subst hk
  have := key_len hky
  omega
 have hk6 : kd = 6 → ∀ k ∈ [key, to], k.size ≤ 1000000000 := by
  intro h k hk
  simp only [List.mem_cons, List.not_mem_nil, or_false] at hk
  rcases hk with rfl | rfl
  ·have := key_len hky; omega
  ·have := key_len (h6 h).1; omega
 have hcs : kd = 1 ∨ kd = 2 ∨ kd = 3 ∨ kd = 4 ∨ kd = 5 ∨ kd = 6 := by omega
 clear hkd h6 hky
 unfold opV
 simp only
 rcases hcs with rfl | rfl | rfl | rfl | rfl | rfl
 ·have HB0 : Hid (Below w.heap.size w (w.alloc (.cells #[.int .i64 1, .string key, .string to, .int .u64 (n : Int)] 72))) := blAlloc (Below.refl _ _) _
  go_enter Tryz.func90, Tryz.ntmps90
  go_wp2
  go_ret
  exact ⟨_, rfl, OwnL.nil _ _, HB0.out⟩
 ·have HB0 : Hid (Below w.heap.size w (w.alloc (.cells #[.int .i64 2, .string key, .string to, .int .u64 (n : Int)] 72))) := blAlloc (Below.refl _ _) _
  go_enter Tryz.func90, Tryz.ntmps90
  go_wp2
  go_ret
  exact ⟨_, rfl, OwnL.nil _ _, HB0.out⟩
 ·have HB0 : Hid (Below w.heap.size w (w.alloc (.cells #[.int .i64 3, .string key, .string to, .int .u64 (n : Int)] 72))) := blAlloc (Below.refl _ _) _
  have HB1 : Hid (Below w.heap.size w ((w.alloc (.cells #[.int .i64 3, .string key, .string to, .int .u64 (n : Int)] 72)).alloc (.cells #[.string key] 9))) := blAlloc HB0.out _
  have HT : Hid (Tl ((w.alloc (.cells #[.int .i64 3, .string key, .string to, .int .u64 (n : Int)] 72)).alloc (.cells #[.string key] 9)) (.slice (some ⟨w.heap.size + 1, 0, none⟩) 1 1) [key]) := one_newT _ key _ (by simp)
  go_enter Tryz.func90, Tryz.ntmps90
  go_wp2_with (go_at_call 105; go_must (refine ((points_any _ [key] _ (by simp) hkl HT.out).mono fun e w2 h => RetO.mono HB1.out h).mono ?_; rintro e w2 ⟨v, rfl, h1, h2⟩; have H1 := Lib.hid h1; have H2 := Lib.hid h2; clear h1 h2))
  go_ret
  exact ⟨_, rfl, H1.out, H2.out⟩
 ·have HB0 : Hid (Below w.heap.size w (w.alloc (.cells #[.int .i64 4, .string key, .string to, .int .u64 (n : Int)] 72))) := blAlloc (Below.refl _ _) _
  have HB1 : Hid (Below w.heap.size w ((w.alloc (.cells #[.int .i64 4, .string key, .string to, .int .u64 (n : Int)] 72)).alloc (.cells #[.string key] 9))) := blAlloc HB0.out _
  have HT : Hid (Tl ((w.alloc (.cells #[.int .i64 4, .string key, .string to, .int .u64 (n : Int)] 72)).alloc (.cells #[.string key] 9)) (.slice (some ⟨w.heap.size + 1, 0, none⟩) 1 1) [key]) := one_newT _ key _ (by simp)
  go_enter Tryz.func90, Tryz.ntmps90
  go_wp2_with (go_at_call 105; go_must (refine ((points_any _ [key] _ (by simp) hkl HT.out).mono fun e w2 h => RetO.mono HB1.out h).mono ?_; rintro e w2 ⟨v, rfl, h1, h2⟩; have H1 := Lib.hid h1; have H2 := Lib.hid h2; clear h1 h2))
  go_ret
  exact ⟨_, rfl, H1.out, H2.out⟩
 ·have HB0 : Hid (Below w.heap.size w (w.alloc (.cells #[.int .i64 5, .string key, .string to, .int .u64 (n : Int)] 72))) := blAlloc (Below.refl _ _) _
  have HB1 : Hid (Below w.heap.size w ((w.alloc (.cells #[.int .i64 5, .string key, .string to, .int .u64 (n : Int)] 72)).alloc (.cells #[.string key] 9))) := blAlloc HB0.out _
  have HT : Hid (Tl ((w.alloc (.cells #[.int .i64 5, .string key, .string to, .int .u64 (n : Int)] 72)).alloc (.cells #[.string key] 9)) (.slice (some ⟨w.heap.size + 1, 0, none⟩) 1 1) [key]) := one_newT _ key _ (by simp)
  go_enter Tryz.func90, Tryz.ntmps90
  go_wp2_with (go_at_call 105; go_must (refine ((points_any _ [key] _ (by simp) hkl HT.out).mono fun e w2 h => RetO.mono HB1.out h).mono ?_; rintro e w2 ⟨v, rfl, h1, h2⟩; have H1 := Lib.hid h1; have H2 := Lib.hid h2; clear h1 h2))
  go_ret
  exact ⟨_, rfl, H1.out, H2.out⟩
 ·have HB0 : Hid (Below w.heap.size w (w.alloc (.cells #[.int .i64 6, .string key, .string to, .int .u64 (n : Int)] 72))) := blAlloc (Below.refl _ _) _
  have HB1 : Hid (Below w.heap.size w ((w.alloc (.cells #[.int .i64 6, .string key, .string to, .int .u64 (n : Int)] 72)).alloc (.cells #[.string key, .string to] 9))) := blAlloc HB0.out _
  have HT : Hid (Tl ((w.alloc (.cells #[.int .i64 6, .string key, .string to, .int .u64 (n : Int)] 72)).alloc (.cells #[.string key, .string to] 9)) (.slice (some ⟨w.heap.size + 1, 0, none⟩) 2 2) [key, to]) := two_newT _ key to _ (by simp)
  have HK6 := Lib.hid (hk6 rfl)
  clear hk6 hkl
  go_enter Tryz.func90, Tryz.ntmps90
  go_wp2_with (go_at_call 105; go_must (refine ((points_any _ [key, to] _ (by simp) HK6.out HT.out).mono fun e w2 h => RetO.mono HB1.out h).mono ?_; rintro e w2 ⟨v, rfl, h1, h2⟩; have H1 := Lib.hid h1; have H2 := Lib.hid h2; clear h1 h2))
  go_ret
  exact ⟨_, rfl, H1.out, H2.out⟩
end SP
end Go.Proofs.YtpdfcojcmhadnaaGreat
