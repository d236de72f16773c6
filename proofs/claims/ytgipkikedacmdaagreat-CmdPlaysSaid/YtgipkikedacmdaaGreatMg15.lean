/- The reference's All of Deps. Conditions: at most a million stamps. -/
import Derived.Deep.RegionHeld
import Derived.Laws.AppendOwnNone
import Derived.Test.YtgipkikedacmdaaGreatMg00
import Derived.Test.YtgipkikedacmdaaGreatMg14
import Derived.Test.YtgipkikedacmdaaGreatMg13
set_option maxRecDepth 100000
set_option maxHeartbeats 16000000
set_option linter.unusedVariables false
namespace Go.Proofs.YtgipkikedacmdaaGreat
open Go.Lib renaming hid → hI
open S1
namespace SD
open Go.RowKit
structure Dp where
 sh : Int
 ia : Option Addr
 ic : Nat
 ids : List (Int × Int)
def Dp.d (x : Dp) : Int × List (Int × Int) := (x.sh, x.ids)
def toD (l : List Dp) : Dd := l.map Dp.d
theorem toD_length (l : List Dp) : (toD l).length = l.length := by simp [toD]
theorem toD_at {l : List Dp} {k : Nat} {s : Dp} (h : l[k]? = some s) : (toD l)[k]? = some (s.sh, s.ids) := by simp [toD, h, Dp.d]
def ilD (s : Dp) : Value := .slice s.ia s.ids.length s.ic
def RowD (w : World) (g o : Nat) (l : List Dp) : Prop := ∀ (i : Nat) s, l[i]? = some s → w.cell? ⟨g, o + i * 2, none⟩ = some (.int .i64 s.sh) ∧ w.cell? ⟨g, o + i * 2 + 1, none⟩ = some (ilD s)
def IdsAt (w : World) (s : Dp) : Prop := SL w s.ia s.ids ∧ (s.ia = none → s.ic = 0) ∧ s.ids.length ≤ s.ic
def Dl (w : World) (a : Option Addr) (l : List Dp) : Prop := (∀ s ∈ l, IdsAt w s) ∧ (l ≠ [] → ∃ g o, a = some ⟨g, o, none⟩ ∧ g < w.heap.size ∧ RowD w g o l)
theorem IdsAt.later {W wr : World} {s : Dp} (h : IdsAt W s) (hw : Below W.heap.size W wr) : IdsAt wr s := ⟨h.1.later hw, h.2⟩
theorem RowD.later {W wr : World} {g o : Nat} {l : List Dp} (h : RowD W g o l) (hg : g < W.heap.size) (hw : Below W.heap.size W wr) : RowD wr g o l := fun i s hi => ⟨cell_in hw hg (h i s hi).1, cell_in hw hg (h i s hi).2⟩
theorem Dl.later {W wr : World} {a : Option Addr} {l : List Dp} (h : Dl W a l) (hw : Below W.heap.size W wr) : Dl wr a l := by
 refine ⟨fun s hs => (h.1 s hs).later hw, fun hne => ?_⟩
 obtain ⟨g, o, ha, hg, hl⟩ := h.2 hne
 exact ⟨g, o, ha, Nat.lt_of_lt_of_le hg hw.size, hl.later hg hw⟩
theorem Dl.at {w : World} {a : Option Addr} {l : List Dp} (h : Dl w a l) {k : Nat} {s : Dp} (hs : l[k]? = some s) : ∃ g o, a = some ⟨g, o, none⟩ ∧ g < w.heap.size ∧ w.cell? ⟨g, o + k * 2, none⟩ = some (.int .i64 s.sh) ∧ w.cell? ⟨g, o + k * 2 + 1, none⟩ = some (ilD s) ∧ IdsAt w s := by
 have hne : l ≠ [] := by rintro rfl; simp at hs
 obtain ⟨g, o, ha, hg, hl⟩ := h.2 hne
 exact ⟨g, o, ha, hg, (hl k s hs).1, (hl k s hs).2, h.1 s (List.mem_of_getElem? hs)⟩
theorem Dl.nil (w : World) (a : Option Addr) : Dl w a [] := ⟨fun s h => (by cases h), fun h => absurd rfl h⟩
theorem at_ltD {α : Type} {l : List α} {k : Nat} (h : k < l.length) : ∃ s, l[k]? = some s := ⟨l[k], List.getElem?_eq_getElem h⟩
def cellsD (l : List Dp) : List Value := l.flatMap fun s => [.int .i64 s.sh, ilD s]
theorem cellsD_length (l : List Dp) : (cellsD l).length = l.length * 2 := by
 induction l with
 | nil => rfl
 | cons a r ih => simp [cellsD] at ih ⊢; omega
theorem cellsD_append (l r : List Dp) : cellsD (l ++ r) = cellsD l ++ cellsD r := by simp [cellsD]
theorem cellsD_at (l : List Dp) : ∀ (i : Nat) (s : Dp), l[i]? = some s → (cellsD l)[i * 2]? = some (.int .i64 s.sh) ∧ (cellsD l)[i * 2 + 1]? = some (ilD s) := by
 induction l with
 | nil => intro i s h; simp at h
 | cons a r ih =>
  intro i s h
  cases i with
  | zero =>
   simp only [List.getElem?_cons_zero, Option.some.injEq] at h
   subst h
   exact ⟨rfl, rfl⟩
  | succ i =>
   obtain ⟨h1, h2⟩ := ih i s (by simpa using h)
   have e : cellsD (a :: r) = Value.int .i64 a.sh :: ilD a :: cellsD r := rfl
   refine ⟨?_, ?_⟩
   ·rw [e, show (i + 1) * 2 = (i * 2) + 1 + 1 by omega]; simpa using h1
   ·rw [e, show (i + 1) * 2 + 1 = (i * 2 + 1) + 1 + 1 by omega]; simpa using h2
theorem cellsD_one (l : List Dp) : ∀ u ∈ cellsD l, u.oneCell' = true := by
 intro u hu
 obtain ⟨s, _, h⟩ := List.mem_flatMap.1 hu
 simp only [List.mem_cons, List.not_mem_nil, or_false] at h
 rcases h with rfl | rfl <;> rfl
theorem RowD.cells {w : World} {b o : Nat} {l : List Dp} (h : RowD w b o l) : ∀ (j : Nat) (u : Value), (cellsD l)[j]? = some u → w.cell? ((⟨b, o, none⟩ : Addr).add j) = some u := by
 intro j u hj
 have hlt : j / 2 < l.length := by
  have := (List.getElem?_eq_some_iff.1 hj).1
  rw [cellsD_length] at this
  omega
 obtain ⟨s, hs⟩ := at_ltD hlt
 obtain ⟨c1, c2⟩ := cellsD_at l (j / 2) s hs
 obtain ⟨d1, d2⟩ := h (j / 2) s hs
 rw [Go.WideShapes.add_plain]
 rcases Nat.mod_two_eq_zero_or_one j with he | he
 ·have e : j / 2 * 2 = j := by omega
  rw [e] at c1 d1
  rw [d1, ← c1, hj]
 ·have e : j / 2 * 2 + 1 = j := by omega
  rw [e] at c2
  rw [show o + j / 2 * 2 + 1 = o + j by omega] at d2
  rw [d2, ← c2, hj]
def OwnD (w : World) (base : Nat) (v : Value) (l : List Dp) : Prop := w.ownsRow base 82 2 v l.length (cellsD l)
theorem OwnD.nil (w : World) (base : Nat) : OwnD w base (.slice none 0 0) [] := World.ownsRow_nil _ _ _ _
theorem OwnD.later {W wr : World} {base : Nat} {v : Value} {l : List Dp} (h : OwnD W base v l) (hb : Below W.heap.size W wr) : OwnD wr base v l := by
 obtain ⟨h1, h2 | ⟨g, cap, cur, hv, hg, hh, r⟩⟩ := h
 ·exact ⟨h1, .inl h2⟩
 ·exact ⟨h1, .inr ⟨g, cap, cur, hv, hg, (hb.block g (lt_of_block hh)).trans hh, r⟩⟩
theorem OwnD.block {w : World} {base : Nat} {v : Value} {l : List Dp} (h : OwnD w base v l) : ∀ k, v.ownBlock = some k → base ≤ k ∧ k < w.heap.size := by
 intro k hk
 obtain ⟨h1, ⟨rfl, _⟩ | ⟨g, cap, cur, rfl, hg, hh, _⟩⟩ := h
 ·simp [Value.ownBlock] at hk
 ·simp [Value.ownBlock] at hk
  subst hk
  exact ⟨hg, lt_of_block hh⟩
theorem OwnD.row {w : World} {base : Nat} {v : Value} {l : List Dp} (h : OwnD w base v l) : ∃ a c, v = .slice a l.length c ∧ (a = none → c = 0) ∧ l.length ≤ c ∧ (l ≠ [] → ∃ g, a = some ⟨g, 0, none⟩ ∧ g < w.heap.size ∧ RowD w g 0 l) := by
 obtain ⟨h1, ⟨rfl, hl⟩ | ⟨g, cap, cur, hv, hg, hh, hn, hm, hs, hx⟩⟩ := h
 ·have := List.eq_nil_of_length_eq_zero hl
  subst this
  exact ⟨none, 0, rfl, fun _ => rfl, Nat.le_refl _, fun h => absurd rfl h⟩
 ·refine ⟨_, cap, hv, fun h => (by cases h), hn, fun _ => ⟨g, rfl, lt_of_block hh, fun i s hi => ?_⟩⟩
  have hil := (List.getElem?_eq_some_iff.1 hi).1
  obtain ⟨c1, c2⟩ := cellsD_at l i s hi
  rw [← hx] at c1 c2
  rw [List.getElem?_take_of_lt (by omega)] at c1 c2
  rw [Nat.zero_add]
  exact ⟨by simp only [World.cell?, hh]; simpa using c1, by simp only [World.cell?, hh]; simpa using c2⟩
theorem OwnD.dl {w : World} {base : Nat} {v : Value} {l : List Dp} (h : OwnD w base v l) (hi : ∀ s ∈ l, IdsAt w s) : ∃ a c, v = .slice a l.length c ∧ (a = none → c = 0) ∧ l.length ≤ c ∧ Dl w a l := by
 obtain ⟨a, c, hv, h1, h2, h3⟩ := h.row
 refine ⟨a, c, hv, h1, h2, hi, fun hne => ?_⟩
 obtain ⟨g, ha, hg, hr⟩ := h3 hne
 exact ⟨g, 0, ha, hg, hr⟩
theorem info_dp : (Tryz.prog.info? 82).map (fun i => (i.zero, i.size, i.bytes)) = some (some (.agg #[.int .i64 0, .slice none 0 0]), 2, 32) := by kernel_rfl

theorem at_ltS {l : List (Int × Int)} {k : Nat} (h : k < l.length) : ∃ x y, l[k]? = some (x, y) := ⟨l[k].1, l[k].2, List.getElem?_eq_getElem h⟩
theorem take_eqS {α : Type} {l m : List α} {k : Nat} {x : α} (h : l.take k = m.take k) (hx : l[k]? = some x) (hy : m[k]? = some x) : l.take (k + 1) = m.take (k + 1) := by
 rw [List.take_add_one, List.take_add_one, hx, hy, h]
theorem refsameS_any (a a' : Option Addr) (cap cap' : Nat) (l m : List (Int × Int)) (w : World) (hlen : l.length ≤ 1000000) (hl : SL w a l) (hm : SL w a' m) :
  Calls Tryz.prog 144 #[.slice a l.length cap, .slice a' m.length cap'] w fun e w' => e = .returned (.bool (decide (l = m))) ∧ Below w.heap.size w w' := by
 have HL := hI hl
 have HM := hI hm
 clear hl hm
 by_cases hle : l.length = m.length
 ·rw [← hle]
  have HLE := hI hle
  clear hle
  go_enter Tryz.func144, Tryz.ntmps144
  go_wp2
  go_loopw [5] (fun i wr => ∃ k : Nat, k ≤ l.length ∧ i = .int .i64 k ∧ l.take k = m.take k ∧ Below w.heap.size w wr) (fun i _ => l.length - (RowKit.intOf i).toNat)
  case atStart => exact ⟨0, Nat.zero_le _, rfl, rfl, Below.refl _ _⟩
  case round =>
   obtain ⟨k, hk, rfl, htk, hbel⟩ := hrel
   have HB := hI hbel
   have HTK := hI htk
   clear htk
   by_cases hlt : k < l.length
   ·obtain ⟨x, y, hxy⟩ := at_ltS hlt
    obtain ⟨u, v, huv⟩ := at_ltS (l := m) (k := k) (by rw [← HLE.out]; exact hlt)
    obtain ⟨b, o, rfl, hb, hl⟩ := HL.out (by rintro rfl; simp at hlt)
    obtain ⟨b', o', rfl, hb', hl'⟩ := HM.out (by rintro rfl; simp at huv)
    obtain ⟨hx, hy⟩ := hl.later hb HB.out k x y hxy
    obtain ⟨hx', hy'⟩ := hl'.later hb' HB.out k u v huv
    have hbw : b < wr.heap.size := Nat.lt_of_lt_of_le hb HB.out.size
    have hbw' : b' < wr.heap.size := Nat.lt_of_lt_of_le hb' HB.out.size
    have hk1 : (k : Int) < (l.length : Int) := by omega
    have hkm : (k : Int) < (m.length : Int) := by have := HLE.out; omega
    have HXY := hI hxy
    have HUV := hI huv
    clear hl hl' hxy huv hbel
    by_cases h1 : x = u
    ·subst h1
     by_cases h2 : y = v
     ·subst h2
      go_wp2_with fail
      refine region_aft (by kernel_rfl) (by kernel_rfl) ?_
      repeat (go_big_quiet_step (fail))
      refine wpQuiet_nil ?_
      rintro w2 ⟨z, rfl⟩
      go_wp2
      go_roundw
      case rel => exact ⟨k + 1, hlt, by go_num, take_eqS HTK.out HXY.out HUV.out, blThen HB.out z.h⟩
      case measure => simp [RowKit.intOf]; omega
     ·have hb2 : ((y == v) = false) := by simpa using h2
      have HNE : Hid (decide (l = m) = false) := decide_eq_false fun e => by
       have h := HXY.out
       rw [e, HUV.out] at h
       simp only [Option.some.injEq, Prod.mk.injEq] at h
       exact h2 h.2.symm
      go_wp2_with fail
      refine region_aft (by kernel_rfl) (by kernel_rfl) ?_
      repeat (go_big_quiet_step (fail))
      refine wpQuiet_nil ?_
      rintro w2 ⟨z, rfl⟩
      go_wp2
      go_ret
      exact ⟨by rw [HNE.out]; rfl, blThen HB.out z.h⟩
    ·have hb1 : ((x == u) = false) := by simpa using h1
     have HNE : Hid (decide (l = m) = false) := decide_eq_false fun e => by
      have h := HXY.out
      rw [e, HUV.out] at h
      simp only [Option.some.injEq, Prod.mk.injEq] at h
      exact h1 h.1.symm
     go_wp2_with fail
     refine region_aft (by kernel_rfl) (by kernel_rfl) ?_
     repeat (go_big_quiet_step (fail))
     refine wpQuiet_nil ?_
     rintro w2 ⟨z, rfl⟩
     go_wp2
     go_ret
     exact ⟨by rw [HNE.out]; rfl, blThen HB.out z.h⟩
   ·have hge : ¬ (k : Int) < (l.length : Int) := by omega
    have HEQ : Hid (decide (l = m) = true) := decide_eq_true (by
     have h := HTK.out
     rwa [List.take_of_length_le (by omega), List.take_of_length_le (by have := HLE.out; omega)] at h)
    go_wp2
    go_ret
    exact ⟨by rw [HEQ.out]; rfl, HB.out⟩
 ·have hne : ¬ (l.length : Int) = (m.length : Int) := by omega
  have HNE : Hid (decide (l = m) = false) := decide_eq_false fun e => hle (by rw [e])
  clear hle
  go_enter Tryz.func144, Tryz.ntmps144
  go_wp2
  go_ret
  exact ⟨by rw [HNE.out]; rfl, Below.refl _ _⟩
theorem risB_one (l : List (Int × Int)) : risB (l.take 1) = true := by
 cases l with
 | nil => rfl
 | cons x r => rfl
theorem risB_step {l : List (Int × Int)} {k : Nat} {x y : Int × Int} (hx : l[k]? = some x) (hy : l[k + 1]? = some y) (h : risB (l.take (k + 1)) = true) :
  (ltS x y = true → risB (l.take (k + 1 + 1)) = true) ∧ (ltS x y = false → risB l = false) := by
 constructor
 ·intro hl
  rw [risB_iff] at h ⊢
  have e : l.take (k + 1 + 1) = l.take (k + 1) ++ [y] := by rw [List.take_add_one (i := k + 1), hy]; rfl
  have e2 : l.take (k + 1) = l.take k ++ [x] := by rw [List.take_add_one, hx]; rfl
  rw [e]
  refine List.pairwise_append.2 ⟨h, List.pairwise_singleton _ _, fun z hz u hu => ?_⟩
  simp only [List.mem_singleton] at hu
  subst hu
  rw [e2] at hz h
  rcases List.mem_append.1 hz with hz | hz
  ·exact ltS_trans ((List.pairwise_append.1 h).2.2 z hz x (by simp)) hl
  ·simp only [List.mem_singleton] at hz
   subst hz
   exact hl
 ·intro hl
  cases hr : risB l
  ·rfl
  ·rw [risB_iff] at hr
   have hp := List.pairwise_iff_getElem.1 hr k (k + 1) (List.getElem?_eq_some_iff.1 hx).1 (List.getElem?_eq_some_iff.1 hy).1 (by omega)
   rw [(List.getElem?_eq_some_iff.1 hx).2, (List.getElem?_eq_some_iff.1 hy).2, hl] at hp
   cases hp
theorem reflistS_any (a : Option Addr) (cap : Nat) (l : List (Int × Int)) (w : World) (hlen : l.length ≤ 1000000) (hl : SL w a l) :
  Calls Tryz.prog 143 #[.slice a l.length cap] w fun e w' => e = .returned (.bool (risB l)) ∧ Below w.heap.size w w' := by
 have HL := hI hl
 clear hl
 go_enter Tryz.func143, Tryz.ntmps143
 go_wp2
 go_loopw [3] (fun i wr => ∃ k : Nat, i = .int .i64 ((k : Int) + 1) ∧ k ≤ l.length ∧ risB (l.take (k + 1)) = true ∧ Below w.heap.size w wr) (fun i _ => l.length + 1 - (RowKit.intOf i).toNat)
 case atStart => exact ⟨0, rfl, Nat.zero_le _, risB_one l, Below.refl _ _⟩
 case round =>
  obtain ⟨k, rfl, hk, hr, hbel⟩ := hrel
  have HB := hI hbel
  have HR := hI hr
  clear hr
  by_cases hlt : k + 1 < l.length
  ·obtain ⟨x, y, hxy⟩ := at_ltS (l := l) (k := k) (by omega)
   obtain ⟨u, v, huv⟩ := at_ltS hlt
   obtain ⟨b, o, rfl, hb, hl⟩ := HL.out (by rintro rfl; simp at hlt)
   obtain ⟨hx, hy⟩ := hl.later hb HB.out k x y hxy
   obtain ⟨hx', hy'⟩ := hl.later hb HB.out (k + 1) u v huv
   have hbw : b < wr.heap.size := Nat.lt_of_lt_of_le hb HB.out.size
   have HST := hI (risB_step hxy huv HR.out)
   have hltI : (k : Int) + 1 < (l.length : Int) := by omega
   generalize hq : ltS (x, y) (u, v) = q at *
   have HQ := hI hq
   clear hl hxy huv hbel hq
   cases q
   ·have HF : Hid (risB l = false) := HST.out.2 rfl
    go_wp2_with fail
    refine region_aft (by kernel_rfl) (by kernel_rfl) ?_
    repeat (go_big_quiet_step (first | (go_at_call 28; exact aft_grown ((less_any _ _ _ _ _).mono fun e w' h => by rw [HQ.out] at h; exact h))))
    refine wpQuiet_nil ?_
    rintro w2 ⟨z, rfl⟩
    go_wp2
    go_ret
    exact ⟨by rw [HF.out]; rfl, blThen HB.out z.h⟩
   ·go_wp2_with fail
    refine region_aft (by kernel_rfl) (by kernel_rfl) ?_
    repeat (go_big_quiet_step (first | (go_at_call 28; exact aft_grown ((less_any _ _ _ _ _).mono fun e w' h => by rw [HQ.out] at h; exact h))))
    refine wpQuiet_nil ?_
    rintro w2 ⟨z, rfl⟩
    go_wp2
    go_roundw
    case rel => exact ⟨k + 1, by go_num, by omega, by simpa using HST.out.1, blThen HB.out z.h⟩
    case measure => simp [RowKit.intOf]; omega
  ·have hge : ¬ (k : Int) + 1 < (l.length : Int) := by omega
   have HF : Hid (risB l = true) := by
    have h := HR.out
    rwa [List.take_of_length_le (by omega)] at h
   go_wp2
   go_ret
   exact ⟨by rw [HF.out]; rfl, HB.out⟩

def FewD (l : List Dp) : Prop := l.length ≤ 1000000 ∧ ∀ s ∈ l, s.ids.length ≤ 1000000
theorem refsame6_any (a a' : Option Addr) (c c' : Nat) (l m : List Dp) (w : World) (hf : FewD l) (hl : Dl w a l) (hm : Dl w a' m) :
  Calls Tryz.prog 63 #[.slice a l.length c, .slice a' m.length c'] w fun e w' => e = .returned (.bool (decide (toD l = toD m))) ∧ Below w.heap.size w w' := by
 have HL := hI hl
 have HM := hI hm
 have HF := hI hf
 have hlen := hf.1
 clear hl hm hf
 by_cases hle : l.length = m.length
 ·rw [← hle]
  have HLE := hI hle
  clear hle
  go_enter Tryz.func63, Tryz.ntmps63
  go_wp2
  go_loopw [5] (fun i wr => ∃ k : Nat, k ≤ l.length ∧ i = .int .i64 k ∧ (toD l).take k = (toD m).take k ∧ Below w.heap.size w wr) (fun i _ => l.length - (RowKit.intOf i).toNat)
  case atStart => exact ⟨0, Nat.zero_le _, rfl, rfl, Below.refl _ _⟩
  case round =>
   obtain ⟨k, hk, rfl, htk, hbel⟩ := hrel
   have HB := hI hbel
   have HTK := hI htk
   clear htk
   by_cases hlt : k < l.length
   ·obtain ⟨s, hs⟩ := at_ltD hlt
    obtain ⟨t, ht⟩ := at_ltD (l := m) (k := k) (by rw [← HLE.out]; exact hlt)
    obtain ⟨b, o, rfl, hb, hx, hy, hi⟩ := (HL.out.later HB.out).at hs
    obtain ⟨b', o', rfl, hb', hx', hy', hi'⟩ := (HM.out.later HB.out).at ht
    have hk1 : (k : Int) < (l.length : Int) := by omega
    have hkm : (k : Int) < (m.length : Int) := by have := HLE.out; omega
    have hk0 : (0 : Int) ≤ (k : Int) := by omega
    have HXY := hI (toD_at hs)
    have HUV := hI (toD_at ht)
    have HI := hI hi
    have HI' := hI hi'
    have HSN := hI (HF.out.2 s (List.mem_of_getElem? hs))
    unfold ilD at hy hy'
    clear hs ht hbel hi hi'
    by_cases h1 : s.sh = t.sh
    ·rw [← h1] at hx'
     generalize hq : decide (s.ids = t.ids) = q
     have HQ := hI hq
     clear hq
     cases q
     ·have HNE : Hid (decide (toD l = toD m) = false) := decide_eq_false fun e => by
       have h := HXY.out
       rw [e, HUV.out] at h
       simp only [Option.some.injEq, Prod.mk.injEq] at h
       exact (of_decide_eq_false HQ.out) h.2.symm
      go_wp2_with fail
      refine region_aft (by kernel_rfl) (by kernel_rfl) ?_
      repeat (go_big_quiet_step (first | (go_at_call 144; exact aft_of ((refsameS_any _ _ _ _ s.ids t.ids _ HSN.out (HI.out.1.later (Aft.h _)) (HI'.out.1.later (Aft.h _))).mono fun e w' h => by rw [HQ.out] at h; exact h))))
      refine wpQuiet_nil ?_
      rintro w2 ⟨z, rfl⟩
      go_wp2
      go_ret
      exact ⟨by rw [HNE.out]; rfl, blThen HB.out z.h⟩
     ·have HEQ := hI (of_decide_eq_true HQ.out)
      go_wp2_with fail
      refine region_aft (by kernel_rfl) (by kernel_rfl) ?_
      repeat (go_big_quiet_step (first | (go_at_call 144; exact aft_of ((refsameS_any _ _ _ _ s.ids t.ids _ HSN.out (HI.out.1.later (Aft.h _)) (HI'.out.1.later (Aft.h _))).mono fun e w' h => by rw [HQ.out] at h; exact h))))
      refine wpQuiet_nil ?_
      rintro w2 ⟨z, rfl⟩
      go_wp2
      go_roundw
      case rel => exact ⟨k + 1, hlt, by go_num, take_eqS HTK.out HXY.out (by rw [HUV.out, h1, HEQ.out]), blThen HB.out z.h⟩
      case measure => simp [RowKit.intOf]; omega
    ·have hb1 : ((s.sh == t.sh) = false) := by simpa using h1
     have hb2 : ((s.sh != t.sh) = true) := by simpa using h1
     have HNE : Hid (decide (toD l = toD m) = false) := decide_eq_false fun e => by
      have h := HXY.out
      rw [e, HUV.out] at h
      simp only [Option.some.injEq, Prod.mk.injEq] at h
      exact h1 h.1.symm
     go_wp2_with fail
     refine region_aft (by kernel_rfl) (by kernel_rfl) ?_
     repeat (go_big_quiet_step (fail))
     refine wpQuiet_nil ?_
     rintro w2 ⟨z, rfl⟩
     go_wp2
     go_ret
     exact ⟨by rw [HNE.out]; rfl, blThen HB.out z.h⟩
   ·have hge : ¬ (k : Int) < (l.length : Int) := by omega
    have HEQ : Hid (decide (toD l = toD m) = true) := decide_eq_true (by
     have h := HTK.out
     rwa [List.take_of_length_le (by rw [toD_length]; omega), List.take_of_length_le (by rw [toD_length]; have := HLE.out; omega)] at h)
    go_wp2
    go_ret
    exact ⟨by rw [HEQ.out]; rfl, HB.out⟩
 ·have hne : ¬ (l.length : Int) = (m.length : Int) := by omega
  have HNE : Hid (decide (toD l = toD m) = false) := decide_eq_false fun e => hle (by have := congrArg List.length e; rwa [toD_length, toD_length] at this)
  clear hle
  go_enter Tryz.func63, Tryz.ntmps63
  go_wp2
  go_ret
  exact ⟨by rw [HNE.out]; rfl, Below.refl _ _⟩
def RetL (w : World) (r : List (Int × Int)) (e : Ending) (w' : World) : Prop := ∃ a c, e = .returned (.slice a r.length c) ∧ SL w' a r ∧ (a = none → c = 0) ∧ r.length ≤ c ∧ Below w.heap.size w w'

theorem idsN_le {l : List Dp} {s : Dp} (h : s ∈ l) : s.ids.length ≤ idsN (toD l) := idsN_mem (x := s.d) (List.mem_map.2 ⟨s, h, rfl⟩)
theorem idsN_take_le (d : Dd) (k : Nat) : idsN (d.take k) ≤ idsN d := by
 have h := idsN_append (d.take k) (d.drop k)
 rw [List.take_append_drop] at h
 omega
end SD
end Go.Proofs.YtgipkikedacmdaaGreat
