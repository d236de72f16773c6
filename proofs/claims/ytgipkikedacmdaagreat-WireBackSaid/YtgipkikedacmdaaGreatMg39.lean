/- Rows of lists of stamps of the call's own; the program's All of Deps. Conditions: at most a thousand Deps, a million stamps in all. -/
import Derived.Deep.RegionHeld3
import Derived.WalkSpells
import Derived.Test.YtgipkikedacmdaaGreatMg38
import Derived.Test.YtgipkikedacmdaaGreatMg32
import Derived.Test.YtgipkikedacmdaaGreatMg33
import Derived.Test.YtgipkikedacmdaaGreatMg10
import Derived.Test.YtgipkikedacmdaaGreatMg24
import Derived.Test.YtgipkikedacmdaaGreatMg29
import Derived.Test.YtgipkikedacmdaaGreatMg09
set_option maxRecDepth 100000
set_option maxHeartbeats 16000000
set_option linter.unusedVariables false
namespace Go.Proofs.YtgipkikedacmdaaGreat
open S1
namespace SD
open Go.RowKit
def lay1 (x : Int × List (Int × Int)) : List UInt8 := S2.i8 x.1 ++ S2.sts x.2
def layF (d : Dd) : List UInt8 := d.flatMap lay1
def layD (d : Dd) : List UInt8 := S2.i8 d.length ++ layF d
theorem sts_len (l : List (Int × Int)) : (S2.sts l).length = 8 + 16 * l.length := by
 unfold S2.sts
 rw [List.length_append, S2.i8_length, S2.flat_length S2.st 16 S2.st_length]
theorem layF_len (d : Dd) : (layF d).length = 16 * d.length + 16 * idsN d := by
 unfold layF
 induction d with
 | nil => rfl
 | cons x r ih =>
  rw [List.flatMap_cons, List.length_append, ih, idsN_cons, List.length_cons]
  unfold lay1
  rw [List.length_append, S2.i8_length, sts_len]
  omega
theorem layF_take {l : List Dp} {k : Nat} {s : Dp} (h : l[k]? = some s) : layF ((toD l).take (k + 1)) = layF ((toD l).take k) ++ (S2.i8 s.sh ++ S2.sts s.ids) := by
 unfold layF
 rw [List.take_add_one, toD_at h, List.flatMap_append]
 simp [lay1]

theorem low_cons (n k : Nat) : S2.low n (k + 1) = UInt8.ofNat n :: S2.low (n / 256) k := by
 unfold S2.low
 rw [List.range_succ_eq_map, List.map_cons, List.map_map]
 congr 1
 refine List.map_congr_left fun i _ => ?_
 show UInt8.ofNat (n >>> (8 * (i + 1))) = UInt8.ofNat ((n / 256) >>> (8 * i))
 congr 1
 rw [Nat.mul_add, Nat.add_comm (8 * i), Nat.shiftRight_add, Nat.shiftRight_eq_div_pow n (8 * 1)]
theorem low_leN : ∀ l : List UInt8, S2.low (S2.leN l) l.length = l := by
 intro l
 induction l with
 | nil => rfl
 | cons x r ih =>
  rw [List.length_cons, low_cons]
  have hx : x.toNat < 256 := x.toNat_lt
  have e1 : S2.leN (x :: r) = x.toNat + 256 * S2.leN r := rfl
  have e2 : (x.toNat + 256 * S2.leN r) / 256 = S2.leN r := by omega
  rw [e1, e2, ih]
  congr 1
  have e3 : UInt8.ofNat (x.toNat + 256 * S2.leN r) = UInt8.ofNat x.toNat := by
   apply UInt8.toNat_inj.1
   simp only [UInt8.toNat_ofNat']
   omega
  rw [e3]
  simp
theorem wrap_same (N : Nat) (h : N < 2 ^ 64) : (IntKind.u64.wrap (wrap64 (N : Int))).toNat = N := by
 have e : ∀ n : Int, IntKind.u64.wrap n = n % 18446744073709551616 := fun _ => rfl
 rw [e]
 unfold wrap64
 omega
theorem i8_rd (r : List UInt8) (h : 8 ≤ r.length) : S2.i8 (S2.rd r) = r.take 8 := by
 have hl : (r.take 8).length = 8 := by rw [List.length_take]; omega
 have hlt := S2.leN_lt (r.take 8)
 rw [hl] at hlt
 unfold S2.i8 S2.rd
 rw [wrap_same _ hlt]
 have := low_leN (r.take 8)
 rwa [hl] at this
theorem inv_i {r : List UInt8} (h : 8 ≤ r.length) : S2.i8 (S2.rd r) ++ r.drop 8 = r := by
 rw [i8_rd r h, List.take_append_drop]
theorem st_rdS {r : List UInt8} (h : 16 ≤ r.length) : S2.st (S2.rdS r) = r.take 16 := by
 unfold S2.st S2.rdS
 rw [i8_rd r (by omega), i8_rd (r.drop 8) (by rw [List.length_drop]; omega)]
 rw [← List.take_add]
theorem flat_rdL (r : List UInt8) : ∀ n, 8 + 16 * n ≤ r.length → (S2.rdL r n).flatMap S2.st = (r.drop 8).take (16 * n) := by
 intro n
 induction n with
 | zero => intro _; simp [S2.rdL]
 | succ n ih =>
  intro h
  rw [S2.rdL_succ, List.flatMap_append, ih (by omega)]
  simp only [List.flatMap_cons, List.flatMap_nil, List.append_nil]
  rw [st_rdS (by rw [List.length_drop]; omega)]
  have e : r.drop (8 + 16 * n) = (r.drop 8).drop (16 * n) := by rw [List.drop_drop]
  rw [e, show 16 * (n + 1) = 16 * n + 16 by omega, List.take_add]
theorem inv_l {r : List UInt8} (h : S2.hasL r) : S2.sts (S2.rdL r (S2.rd r).toNat) ++ r.drop (8 + 16 * (S2.rd r).toNat) = r := by
 obtain ⟨h1, h2, h3⟩ := h
 unfold S2.sts
 rw [S2.rdL_length, Int.toNat_of_nonneg h2, flat_rdL r _ (by omega), i8_rd r h1]
 rw [← List.take_add, List.take_append_drop]
def r1 (r : List UInt8) (bl : Bool) : List UInt8 := S2.behind (S2.okI r bl) 8 r
def one1 (r : List UInt8) (bl : Bool) : Int × List (Int × Int) := (S2.valI r bl, S2.valL (r1 r bl) (!S2.okI r bl))
def rest1 (r : List UInt8) (bl : Bool) : List UInt8 := S2.behind (S2.okL (r1 r bl) (!S2.okI r bl)) (8 + 16 * (S2.rd (r1 r bl)).toNat) (r1 r bl)
def dim1 (r : List UInt8) (bl : Bool) : Bool := !S2.okL (r1 r bl) (!S2.okI r bl)
def manyD : Nat → List UInt8 → Bool → Dd × List UInt8 × Bool
 | 0, r, bl => ([], r, bl)
 | n + 1, r, bl => ((manyD n r bl).1 ++ [one1 (manyD n r bl).2.1 (manyD n r bl).2.2], rest1 (manyD n r bl).2.1 (manyD n r bl).2.2, dim1 (manyD n r bl).2.1 (manyD n r bl).2.2)
theorem behind_ok {ok : Bool} (h : ok = true) (k : Nat) (l : List UInt8) : S2.behind ok k l = l.drop k := by
 subst h
 exact S2.behind_yes k l
theorem valI_yes {r : List UInt8} {bl : Bool} (h : S2.okI r bl = true) : S2.valI r bl = S2.rd r := by unfold S2.valI; rw [if_pos h]
theorem valL_yes {r : List UInt8} {bl : Bool} (h : S2.okL r bl = true) : S2.valL r bl = S2.rdL r (S2.rd r).toNat := by unfold S2.valL; rw [if_pos h]
theorem behind_len (ok : Bool) (k : Nat) (l : List UInt8) : (S2.behind ok k l).length ≤ l.length := by
 unfold S2.behind
 split
 ·rw [List.length_drop]; omega
 ·exact Nat.le_refl _
theorem r1_len (r : List UInt8) (bl : Bool) : (r1 r bl).length ≤ r.length := behind_len _ _ _
theorem rest1_len (r : List UInt8) (bl : Bool) : (rest1 r bl).length ≤ r.length := Nat.le_trans (behind_len _ _ _) (r1_len r bl)
theorem valL_len (r : List UInt8) (bl : Bool) : (S2.valL r bl).length ≤ r.length := by
 unfold S2.valL
 split
 ·rename_i h
  rw [S2.rdL_length]
  unfold S2.okL at h
  simp only [Bool.and_eq_true, decide_eq_true_eq] at h
  obtain ⟨_, _, _, h3⟩ := h
  omega
 ·exact Nat.zero_le _
theorem many_len (n : Nat) (r : List UInt8) (bl : Bool) : (manyD n r bl).1.length = n ∧ (manyD n r bl).2.1.length ≤ r.length ∧ ∀ x ∈ (manyD n r bl).1, x.2.length ≤ r.length := by
 induction n with
 | zero => exact ⟨rfl, Nat.le_refl _, fun x hx => by cases hx⟩
 | succ n ih =>
  obtain ⟨h1, h2, h3⟩ := ih
  refine ⟨?_, Nat.le_trans (rest1_len _ _) h2, fun x hx => ?_⟩
  ·show ((manyD n r bl).1 ++ [_]).length = _
   rw [List.length_append, h1]
   rfl
  ·rcases List.mem_append.1 hx with hx | hx
   ·exact h3 x hx
   ·rw [List.mem_singleton] at hx
    subst hx
    exact Nat.le_trans (Nat.le_trans (valL_len _ _) (r1_len _ _)) h2
theorem one_inv {r : List UInt8} {bl : Bool} (h : dim1 r bl = false) : bl = false ∧ lay1 (one1 r bl) ++ rest1 r bl = r := by
 unfold dim1 at h
 simp only [Bool.not_eq_false'] at h
 have h2 := h
 unfold S2.okL at h2
 simp only [Bool.and_eq_true, decide_eq_true_eq, Bool.not_not] at h2
 obtain ⟨hi, hl⟩ := h2
 have hi2 := hi
 unfold S2.okI at hi2
 simp only [Bool.and_eq_true, decide_eq_true_eq, Bool.not_eq_true'] at hi2
 obtain ⟨hb, h8⟩ := hi2
 refine ⟨hb, ?_⟩
 have e1 : r1 r bl = r.drop 8 := behind_ok hi 8 r
 have e2 : rest1 r bl = (r.drop 8).drop (8 + 16 * (S2.rd (r.drop 8)).toNat) := (behind_ok h _ _).trans (by rw [e1])
 have e3 : one1 r bl = (S2.rd r, S2.rdL (r.drop 8) (S2.rd (r.drop 8)).toNat) := by
  unfold one1
  rw [valI_yes hi, valL_yes h, e1]
 rw [e2, e3]
 unfold lay1
 rw [e1] at hl
 rw [List.append_assoc, inv_l hl, inv_i h8]
theorem many_inv (n : Nat) (r : List UInt8) (bl : Bool) (h : (manyD n r bl).2.2 = false) : bl = false ∧ layF (manyD n r bl).1 ++ (manyD n r bl).2.1 = r := by
 induction n with
 | zero => exact ⟨h, by simp [manyD, layF]⟩
 | succ n ih =>
  obtain ⟨h1, h2⟩ := one_inv (r := (manyD n r bl).2.1) (bl := (manyD n r bl).2.2) h
  obtain ⟨h3, h4⟩ := ih h1
  refine ⟨h3, ?_⟩
  have e : layF (manyD (n + 1) r bl).1 = layF (manyD n r bl).1 ++ lay1 (one1 (manyD n r bl).2.1 (manyD n r bl).2.2) := by
   show layF ((manyD n r bl).1 ++ [_]) = _
   unfold layF
   rw [List.flatMap_append]
   simp
  rw [e, List.append_assoc]
  show _ ++ (lay1 _ ++ rest1 _ _) = _
  rw [h2, h4]
theorem one_front {x : Int × List (Int × Int)} (h1 : (Lit.int .i64 x.1).wf = true) (h2 : ∀ s ∈ x.2, (Lit.int .i64 s.1).wf = true ∧ (Lit.int .i64 s.2).wf = true) (h3 : x.2.length ≤ 1250) (R : List UInt8) :
  one1 (lay1 x ++ R) false = x ∧ rest1 (lay1 x ++ R) false = R ∧ dim1 (lay1 x ++ R) false = false := by
 have ea : lay1 x ++ R = S2.i8 x.1 ++ (S2.sts x.2 ++ R) := by unfold lay1; rw [List.append_assoc]
 obtain ⟨a1, a2, a3⟩ := S2.read_i x.1 h1 (S2.sts x.2 ++ R)
 obtain ⟨b1, b2, b3⟩ := S2.read_l x.2 h2 h3 R
 have e1 : r1 (lay1 x ++ R) false = S2.sts x.2 ++ R := by unfold r1; rw [ea, a1]; exact a3
 refine ⟨?_, ?_, ?_⟩
 ·unfold one1
  rw [e1, ea, a1, a2]
  show (x.1, S2.valL _ false) = x
  rw [b2]
 ·unfold rest1
  rw [e1, ea, a1]
  show S2.behind (S2.okL _ false) _ _ = R
  rw [b1]
  exact b3
 ·unfold dim1
  rw [e1, ea, a1]
  show (!S2.okL _ false) = false
  rw [b1]
  rfl
theorem many_cons (n : Nat) (r : List UInt8) (bl : Bool) : manyD (n + 1) r bl = (one1 r bl :: (manyD n (rest1 r bl) (dim1 r bl)).1, (manyD n (rest1 r bl) (dim1 r bl)).2) := by
 induction n with
 | zero => rfl
 | succ n ih =>
  show (((manyD (n + 1) r bl).1 ++ [one1 (manyD (n + 1) r bl).2.1 (manyD (n + 1) r bl).2.2], rest1 (manyD (n + 1) r bl).2.1 (manyD (n + 1) r bl).2.2, dim1 (manyD (n + 1) r bl).2.1 (manyD (n + 1) r bl).2.2) : Dd × List UInt8 × Bool) = _
  rw [ih]
  rfl
theorem many_front : ∀ {d : Dd}, (∀ x ∈ d, (Lit.int .i64 x.1).wf = true ∧ (∀ s ∈ x.2, (Lit.int .i64 s.1).wf = true ∧ (Lit.int .i64 s.2).wf = true) ∧ x.2.length ≤ 1250) → ∀ R, manyD d.length (layF d ++ R) false = (d, R, false) := by
 intro d
 induction d with
 | nil => intro _ R; simp [manyD, layF]
 | cons x r ih =>
  intro h R
  obtain ⟨h1, h2, h3⟩ := h x (by simp)
  have e : layF (x :: r) ++ R = lay1 x ++ (layF r ++ R) := by unfold layF; rw [List.flatMap_cons, List.append_assoc]
  obtain ⟨a1, a2, a3⟩ := one_front h1 h2 h3 (layF r ++ R)
  rw [List.length_cons, many_cons, e, a1, a2, a3, ih (fun y hy => h y (by simp [hy])) R]
theorem wf_small {n : Int} (h1 : -1000 ≤ n) (h2 : n ≤ 2000000000000) : (Lit.int .i64 n).wf = true := by
 simp only [Lit.wf, Bool.and_eq_true, decide_eq_true_eq]
 have e1 : IntKind.i64.min = -9223372036854775808 := rfl
 have e2 : IntKind.i64.max = 9223372036854775807 := rfl
 rw [e1, e2]
 omega
theorem check_wf {d : Dd} (h : checkD d = 0) : ∀ x ∈ d, (Lit.int .i64 x.1).wf = true ∧ (∀ s ∈ x.2, (Lit.int .i64 s.1).wf = true ∧ (Lit.int .i64 s.2).wf = true) ∧ x.2.length ≤ 1250 := by
 obtain ⟨h1, h2, h3⟩ := checkD_ok.1 h
 obtain ⟨⟨h4, _⟩, h5⟩ := depsF_facts h3
 intro x hx
 obtain ⟨h6, _, h7⟩ := h5 x hx
 have := h4 x hx
 have hn := idsN_mem hx
 refine ⟨wf_small (by omega) (by omega), fun s hs => ?_, by omega⟩
 have hi := h7 s hs
 unfold isS at hi
 simp only [decide_eq_true_eq] at hi
 exact ⟨wf_small (by omega) (by omega), wf_small (by omega) (by omega)⟩
end SD
end Go.Proofs.YtgipkikedacmdaaGreat

namespace Go.Proofs.YtgipkikedacmdaaGreat
namespace S2
open Go.RowKit Go.Deep
theorem RAt.lt2 {w : World} {b g : Nat} {B : List UInt8} {i : Nat} {bl : Bool} (h : RAt w b g B i bl) (hne : B ≠ []) : g < w.heap.size := by
 obtain ⟨v, _, hb, _⟩ := h
 exact hb.lt hne
end S2
end Go.Proofs.YtgipkikedacmdaaGreat

namespace Go.Proofs.YtgipkikedacmdaaGreat
open S1
namespace SD
open Go.RowKit
open Go.Sort (grow)
def RetK (w : World) (l : List (Int × Int)) (e : Ending) (w' : World) : Prop := ∃ a cap, e = .returned (.slice a l.length cap) ∧ SL w' a l ∧ (a = none → cap = 0) ∧ (∀ b o, a = some ⟨b, o, none⟩ → w.heap.size ≤ b) ∧ l.length ≤ cap ∧ Below w.heap.size w w'
theorem clone_any (a : Option Addr) (cap : Nat) (l : List (Int × Int)) (w : World) (hlen : l.length ≤ 1000000) (hl : SL w a l) (hn : a = none → cap = 0) :
  Calls Tryz.prog 194 #[.slice a l.length cap] w (RetK w l) := by
 obtain ⟨i0, hi, hz0, hz1, hz2⟩ := info_parts info_st
 have HI := Lib.hid hi
 have HZ0 := Lib.hid hz0
 have HZ1 := Lib.hid hz1
 have HZ2 := Lib.hid hz2
 rcases src_of hl with rfl | ⟨ad, rfl, hs⟩
 ·obtain rfl : cap = 0 := hn rfl
  obtain rfl : l = [] := by
   apply Classical.byContradiction
   intro hne
   obtain ⟨_, _, h, _⟩ := hl hne
   cases h
  clear hi hz0 hz1 hz2 hl hn hlen
  show Calls Tryz.prog 194 #[.slice none 0 0] w (RetK w [])
  have hq := fun w : World => Lib.run_eql_slice_nil (P := Tryz.prog) w 80 23 none 0 0 0 0 Tryz.underlying80
  go_enter Tryz.func194, Tryz.ntmps194
  go_wp2
  go_ret
  exact ⟨_, 0, rfl, fun h => absurd rfl h, fun _ => rfl, fun b o hb => (by cases hb), Nat.le_refl _, Below.refl _ _⟩
 ·have HS := Lib.hid (hs (w.alloc (.cells #[] 23)) ((Below.refl _ _).alloc (Nat.le_refl _) _))
  have hlc := cellsL_length l
  have HC := Lib.hid hlc
  clear hi hz0 hz1 hz2 hl hn hs hlc
  have hq := fun w : World => Lib.run_eql_slice_nil (P := Tryz.prog) w 80 23 (some ad) l.length cap 0 0 Tryz.underlying80
  go_enter Tryz.func194, Tryz.ntmps194
  go_wp2_with (at_builtin; refine wpList_append_own _ rfl _ _ 80 rfl w.heap.size 23 i0 (.agg #[.int .i64 0, .int .i64 0]) 2 16 Tryz.underlying80 HI.out HZ0.out HZ1.out HZ2.out rfl (by decide) _ 0 [] rfl (own_empty w) ad l.length cap (cellsL l) rfl HC.out HS.out (cellsL_one l) ?qc3 ?qc4 ?qc5 ?_)
  case qc3 => unfold maxLen; omega
  case qc4 => omega
  case qc5 => simp
  ·intro v' w' hown hgrow _
   have HO : Hid (OwnL w' w.heap.size v' l) := hown
   have HB : Hid (Below w.heap.size w w') := ((Below.refl _ _).alloc (Nat.le_refl _) _).grown hgrow (by simp) (fun k hk => by simp [Value.ownBlock] at hk; omega)
   clear hown hgrow
   go_wp2
   go_ret
   obtain ⟨a', cap', hv, hsl, hn', hge, hcp⟩ := HO.out.sl
   exact ⟨a', cap', (by rw [hv]; rfl), hsl, hn', hge, hcp, HB.out⟩
end SD
end Go.Proofs.YtgipkikedacmdaaGreat

set_option linter.unusedSimpArgs false
namespace Go.Proofs.YtgipkikedacmdaaGreat
open S1
namespace SD
open Go.RowKit
theorem pen_below {B b : Nat} {r r' : Option Nat} {x y : World} (h : S2.PenStep b r r' x y) (hB : B ≤ x.heap.size) (hb : B ≤ b) (hr : ∀ k, r = some k → B ≤ k) : Below B x y ∧ ∀ k, r' = some k → B ≤ k := by
 refine ⟨h.keeps.below hB fun k hk hs => ?_, fun k hk => ?_⟩
 ·rcases hs with rfl | hs
  ·omega
  ·have := hr k hs
   omega
 ·rcases h.row with e | e
  ·exact hr k (e ▸ hk)
  ·exact Nat.le_trans hB (e k hk)
theorem sl_pen {w0 w : World} {a : Option Addr} {xs : List (Int × Int)} (h : SL w0 a xs) (hb : Below w0.heap.size w0 w) {pb : Nat} {r : Option Nat} (hp : w0.heap.size ≤ pb) (hr : ∀ k, r = some k → w0.heap.size ≤ k) (q : Nat) (hq : q < w.heap.size) (hq2 : ¬ S2.PenS pb r q) :
  ∃ g, S2.SL w g a xs ∧ ¬ S2.PenS pb r g ∧ g < w.heap.size := by
 by_cases hne : xs = []
 ·exact ⟨q, fun h => absurd hne h, hq2, hq⟩
 ·obtain ⟨b, o, ha, hlt, hl⟩ := h hne
  refine ⟨b, fun _ => ⟨o, ha, fun j x y hx => ⟨cell_in hb hlt (hl j x y hx).1, cell_in hb hlt (hl j x y hx).2⟩⟩, fun hs => ?_, Nat.lt_of_lt_of_le hlt hb.size⟩
  rcases hs with e | e
  ·omega
  ·have := hr b e
   omega
theorem i8_one (x : Int) : [x].flatMap S2.i8 = S2.i8 x := by simp
theorem layD_len (d : Dd) : (layD d).length = 8 + (layF d).length := by
 unfold layD
 rw [List.length_append, S2.i8_length]
theorem pdeps_any (b : Nat) (r : Option Nat) (B : List UInt8) (a : Option Addr) (c : Nat) (l : List Dp) (w0 w : World) (hp : S2.PenAt w b r B) (hlen : B.length ≤ 1000000000) (hf : FewD l) (hn : idsN (toD l) ≤ 1000000) (hl : Dl w0 a l) (hbel : Below w0.heap.size w0 w) (hb0 : w0.heap.size ≤ b) (hr0 : ∀ k, r = some k → w0.heap.size ≤ k) :
  Calls Tryz.prog 70 #[.pointer (some ⟨b, 0, none⟩), .slice a l.length c] w (S2.Laid w b r (B ++ layD (toD l))) := by
 have HL := Lib.hid hl
 have HF := Lib.hid hf
 have HNN := Lib.hid hn
 have HLB := Lib.hid hlen
 have HP0 := Lib.hid hp
 have HB0 := Lib.hid hbel
 have HBB := Lib.hid hb0
 have HR0 := Lib.hid hr0
 have hlen6 := hf.1
 clear hl hf hp hlen hbel hb0 hr0
 go_enter Tryz.func70, Tryz.ntmps70
 go_wp2_with (go_at_call 68; go_must (refine (S2.int_any _ b r B w.heap.size _ 1 [(l.length : Int)] (HP0.out.before (S2.kAlloc (S2.Keeps.refl _ _) _)) (S2.one_new w _ _ rfl _ rfl) (HP0.out.apart (Nat.le_refl _)) (by have := HLB.out; simp only [List.length_cons, List.length_nil]; omega)).mono ?_; rw [i8_one]; rintro e w1 ⟨rfl, r1, hp1, hs1⟩; have HP1 := Lib.hid hp1; have HS1 := Lib.hid (hs1.before (w := w) (S2.kAlloc (S2.Keeps.refl _ _) _)); clear hp1 hs1))
 go_loopw [15] (fun i wr => ∃ (k : Nat) (r' : Option Nat), k ≤ l.length ∧ i = .int .i64 k ∧ S2.PenAt wr b r' (B ++ S2.i8 l.length ++ layF ((toD l).take k)) ∧ S2.PenStep b r r' w wr) (fun i _ => l.length - (RowKit.intOf i).toNat)
 case atStart => exact ⟨0, r1, Nat.zero_le _, rfl, by simpa [layF] using HP1.out, HS1.out⟩
 case round =>
  clear HP1 HS1 HP0
  obtain ⟨k, r', hk, rfl, hp, hst⟩ := hrel
  have HP := Lib.hid hp
  have HST := Lib.hid hst
  have hpb := pen_below (B := w0.heap.size) hst HB0.out.size HBB.out HR0.out
  have HB : Hid (Below w0.heap.size w0 wr) := HB0.out.trans hpb.1
  have HR := Lib.hid hpb.2
  clear hp hst hpb
  by_cases hlt : k < l.length
  ·obtain ⟨s, hs⟩ := at_ltD hlt
   obtain ⟨b2, o, rfl, hbg, hx, hy, hi⟩ := (HL.out.later HB.out).at hs
   have hk1 : (k : Int) < (l.length : Int) := by omega
   have hk0 : (0 : Int) ≤ (k : Int) := by omega
   have hdk : decide ((k : Int) < (l.length : Int)) = true := decide_eq_true hk1
   have HSI := Lib.hid (HL.out.1 s (List.mem_of_getElem? hs)).1
   have HFT := Lib.hid (layF_take hs)
   have HLN : Hid ((B ++ S2.i8 l.length ++ layF ((toD l).take k)).length + 16 * s.ids.length + 100 ≤ 1099511627776) := by
    show _ ≤ _
    have h1 := layF_len ((toD l).take k)
    have h2 := idsN_take_le (toD l) k
    have h3 := HNN.out
    have h4 := idsN_le (List.mem_of_getElem? hs)
    have h5 := HLB.out
    rw [List.length_append, List.length_append, S2.i8_length, h1, List.length_take, toD_length]
    omega
   unfold ilD at hy
   clear hs hi
   generalize hG : B ++ S2.i8 l.length ++ layF ((toD l).take k) = G at *
   have HGE := Lib.hid hG
   clear hG
   have HL1 : Hid (G.length + 8 * [s.sh].length ≤ 1099511627776) := by have := HLN.out; show _ ≤ _; simp only [List.length_cons, List.length_nil]; omega
   have HL2 : Hid ((G ++ S2.i8 s.sh).length + 16 * s.ids.length + 16 ≤ 1099511627776) := by have := HLN.out; show _ ≤ _; rw [List.length_append, S2.i8_length]; omega
   clear HLN
   have hob : (wr.alloc (.cells #[.int .i64 s.sh, .slice s.ia s.ids.length s.ic] 82)).heap[wr.heap.size]? = some (.cells #[.int .i64 s.sh, .slice s.ia s.ids.length s.ic] 82 (0, 0)) := by
    show (wr.heap.push _)[wr.heap.size]? = _
    rw [Array.getElem?_push_size]
   have HC0 : Hid ((wr.alloc (.cells #[.int .i64 s.sh, .slice s.ia s.ids.length s.ic] 82)).cell? ⟨wr.heap.size, 0, none⟩ = some (.int .i64 s.sh)) := by
    show _ = _
    simp only [World.cell?, hob]
    rfl
   have HC1 : Hid ((wr.alloc (.cells #[.int .i64 s.sh, .slice s.ia s.ids.length s.ic] 82)).cell? ⟨wr.heap.size, 1, none⟩ = some (.slice s.ia s.ids.length s.ic)) := by
    show _ = _
    simp only [World.cell?, hob]
    rfl
   have HPA : Hid (S2.PenAt (wr.alloc (.cells #[.int .i64 s.sh, .slice s.ia s.ids.length s.ic] 82)) b r' G) := Lib.hid (HP.out.before (S2.kAlloc (S2.Keeps.refl (fun _ => False) wr) _))
   have HPX : Hid (¬ S2.PenS b r' wr.heap.size) := HP.out.apart (Nat.le_refl _)
   have HSA : Hid (S2.PenStep b r r' w (wr.alloc (.cells #[.int .i64 s.sh, .slice s.ia s.ids.length s.ic] 82))) := Lib.hid ⟨S2.kAlloc HST.out.keeps _, HST.out.row⟩
   clear hob
   go_wp2_with fail
   go_region_held3 (fun Y => Y.cell? ⟨wr.heap.size, 0, none⟩ = some (.int .i64 s.sh))
    (first | exact b0 | exact HC0.out | exact S2.alloc_cell HC0.out _)
    (first | (go_at_call 68; go_must (refine (S2.int_any _ b r' G (wr.heap.size + 1) _ 1 [s.sh] (HPA.out.before (S2.kDrew (S2.kAlloc (S2.Keeps.refl _ _) _))) (S2.one_new (wr.alloc (.cells #[.int .i64 s.sh, .slice s.ia s.ids.length s.ic] 82)) _ _ (by simp) _ rfl) (HPA.out.apart (by simp)) HL1.out).mono ?_; rw [i8_one]; rintro e w5 ⟨rfl, r5, hp5, hs5⟩; have HP5 := Lib.hid hp5; have hs6 := hs5.before (w := (wr.alloc (.cells #[.int .i64 s.sh, .slice s.ia s.ids.length s.ic] 82))) (S2.kDrew (S2.kAlloc (S2.Keeps.refl _ _) _)); have HS5 := Lib.hid (HSA.out.trans hs6); have b0 := hs6.keeps.cell HPX.out HC0.out; have b1 := hs6.keeps.cell HPX.out HC1.out; have HPY := Lib.hid (hs6.free HPX.out (by simp)); have hsz5 : wr.heap.size < w5.heap.size := Nat.lt_of_lt_of_le (by simp) hs6.keeps.size; clear hp5 hs5 hs6)))
   have hpb5 := pen_below (B := w0.heap.size) HS5.out HB0.out.size HBB.out HR0.out
   have HB5 : Hid (Below w0.heap.size w0 w5) := Lib.hid (HB0.out.trans hpb5.1)
   have HR5 := Lib.hid hpb5.2
   clear hpb5
   go_wp2_with fail
   go_region_held3 (fun Y => Y.cell? ⟨wr.heap.size, 1, none⟩ = some (.slice s.ia s.ids.length s.ic))
    (first | exact e1 | exact b1)
    (first | (go_at_call 148; go_must (obtain ⟨q, hq1, hq2, hq3⟩ := sl_pen (w := w5.drew) HSI.out HB5.out.drew HBB.out HR5.out wr.heap.size hsz5 HPY.out; refine (S2.stamps_any _ b r5 _ q _ _ s.ids (HP5.out.before (S2.kDrew (S2.Keeps.refl _ _))) hq1 hq2 hq3 HL2.out).mono ?_; rintro e w7 ⟨rfl, r7, hp7, hs7⟩; have HP7 := Lib.hid hp7; have hs8 := hs7.before (w := w5) (S2.kDrew (S2.Keeps.refl _ _)); have HS7 := Lib.hid (HS5.out.trans hs8); have e1 := hs8.keeps.cell HPY.out b1; clear hp7 hs7 hs8)))
   go_wp2
   go_roundw
   case rel =>
    refine ⟨k + 1, r7, hlt, by go_num, ?_, HS7.out⟩
    have h := HP7.out
    rw [HFT.out, ← List.append_assoc, HGE.out, ← List.append_assoc]
    exact h
   case measure => simp [RowKit.intOf]; omega
  ·have hge : ¬ (k : Int) < (l.length : Int) := by omega
   have hdk : decide ((k : Int) < (l.length : Int)) = false := decide_eq_false hge
   have HT : Hid (B ++ S2.i8 l.length ++ layF ((toD l).take k) = B ++ layD (toD l)) := by
    show _ = _
    rw [List.take_of_length_le (by rw [toD_length]; omega), List.append_assoc]
    unfold layD
    rw [toD_length]
   rw [HT.out] at HP
   go_wp2
   go_end0
   exact ⟨rfl, r', HP.out, HST.out⟩
end SD
end Go.Proofs.YtgipkikedacmdaaGreat

namespace Go.Proofs.YtgipkikedacmdaaGreat
open S1 SP
namespace SD
open Go.RowKit
def SeenC (w : World) (b g : Nat) (bl : Bool) (s : List (Int × Int)) (l' : List UInt8) (e : Ending) (w' : World) : Prop :=
 ∃ a c, e = .returned (.slice a s.length c) ∧ SL w' a s ∧ (a = none → c = 0) ∧ s.length ≤ c ∧ (∀ b' o, a = some ⟨b', o, none⟩ → w.heap.size ≤ b') ∧ (∀ p, a = some p → w.heap.size ≤ p.block) ∧ S2.EyeAt w' b g l' bl ∧ S2.Keeps (S2.Only b) w w'
theorem ownL_at {w : World} {base : Nat} {v : Value} {l : List (Int × Int)} (h : OwnL w base v l) : ∃ a cap, v = .slice a l.length cap ∧ SL w a l ∧ (a = none → cap = 0) ∧ (∀ b o, a = some ⟨b, o, none⟩ → base ≤ b) ∧ l.length ≤ cap ∧ (∀ p, a = some p → base ≤ p.block) := by
 obtain ⟨a, cap, h1, h2, h3, h4, h5⟩ := h.sl
 refine ⟨a, cap, h1, h2, h3, h4, h5, fun p hp => ?_⟩
 obtain ⟨_, ⟨e, _⟩ | ⟨g, c2, cur, e, hg, _⟩⟩ := h
 ·rw [e] at h1
  obtain ⟨rfl, _⟩ := Value.slice.inj h1
  cases hp
 ·rw [e] at h1
  obtain ⟨rfl, _⟩ := Value.slice.inj h1
  obtain rfl := Option.some.inj hp
  exact hg
theorem eyeStampsC_see (w : World) (b g : Nat) (l L : List UInt8) (V : List (Int × Int)) (he : S2.EyeAt w b g l false)
  (hin : ∀ W, S2.Keeps (fun _ => False) w W → Calls Tryz.prog 216 #[.pointer (some ⟨b, 0, none⟩)] W fun e w' => ∃ v, e = .returned v ∧ (S2.OwnL w' W.heap.size v V ∧ S2.EyeAt w' b g L false) ∧ S2.Keeps (S2.Only b) W w') :
  Calls Tryz.prog 204 #[.pointer (some ⟨b, 0, none⟩)] w (SeenC w b g false V L) := by
 have HE := Lib.hid he
 have KEY := Lib.hid hin
 clear he hin
 go_enter Tryz.func204, Tryz.ntmps204
 go_wp2_with (go_at_call 215; go_must (refine (S2.look59_yes _ b g l (fun W v w' => S2.OwnL w' W.heap.size v V ∧ S2.EyeAt w' b g L false) HE.out KEY.out).mono ?_; rintro e w1 ⟨W, v, rfl, hW, ⟨ho, he1⟩, hk1⟩; obtain ⟨a, c, rfl, hs, hn, hx, hc, hx2⟩ := ownL_at (show OwnL _ _ _ _ from ho); have HS := Lib.hid hs; have HN := Lib.hid hn; have HC := Lib.hid hc; have HX := Lib.hid (fun b' o h => Nat.le_trans hW.size (hx b' o h)); have HX2 := Lib.hid (fun p h => Nat.le_trans hW.size (hx2 p h)); have HE1 := Lib.hid he1; have HK1 := Lib.hid hk1; clear ho he1 hk1 hs hn hx hc hx2 hW))
 go_ret
 exact ⟨a, c, rfl, HS.out, HN.out, HC.out, HX.out, HX2.out, HE1.out, HK1.out⟩
theorem eyeStampsC_no (w : World) (b g : Nat) (l : List UInt8) (he : S2.EyeAt w b g l false)
  (hin : ∀ W, S2.Keeps (fun _ => False) w W → Calls Tryz.prog 216 #[.pointer (some ⟨b, 0, none⟩)] W (S2.Blinded W b g false)) :
  Calls Tryz.prog 204 #[.pointer (some ⟨b, 0, none⟩)] w (SeenC w b g true [] l) := by
 have HE := Lib.hid he
 have KEY := Lib.hid hin
 clear he hin
 go_enter Tryz.func204, Tryz.ntmps204
 go_wp2_with (go_at_call 215; refine (S2.look59_no _ b g l HE.out KEY.out).mono ?_; rintro e w1 ⟨rfl, he1, hk1⟩; have HE1 := Lib.hid he1; have HK1 := Lib.hid hk1; clear he1 hk1)
 go_ret
 exact ⟨none, 0, rfl, SL.nil_ok _ _, fun _ => rfl, Nat.le_refl _, fun _ _ h => (by cases h), fun _ h => (by cases h), HE1.out, HK1.out⟩
theorem eyeStampsC_blind (w : World) (b g : Nat) (l : List UInt8) (he : S2.EyeAt w b g l true) : Calls Tryz.prog 204 #[.pointer (some ⟨b, 0, none⟩)] w (SeenC w b g true [] l) := by
 have HE := Lib.hid he
 clear he
 go_enter Tryz.func204, Tryz.ntmps204
 go_wp2_with (go_at_call 215; refine (S2.look59_blind _ b g l HE.out _).mono ?_; rintro e w1 ⟨rfl, hk1⟩; have HE1 := Lib.hid (HE.out.before hk1); have HK1 := Lib.hid hk1; clear hk1)
 go_ret
 exact ⟨none, 0, rfl, SL.nil_ok _ _, fun _ => rfl, Nat.le_refl _, fun _ _ h => (by cases h), fun _ h => (by cases h), HE1.out, HK1.out.mono fun _ _ h => h.elim⟩
theorem behind_no (k : Nat) (l : List UInt8) : S2.behind false k l = l := by simp [S2.behind]
theorem eyeStampsC_any (w : World) (b g : Nat) (l : List UInt8) (bl : Bool) (he : S2.EyeAt w b g l bl) (hlen : l.length ≤ 1000000) :
  Calls Tryz.prog 204 #[.pointer (some ⟨b, 0, none⟩)] w (SeenC w b g (!S2.okL l bl) (S2.valL l bl) (S2.behind (S2.okL l bl) (8 + 16 * (S2.rd l).toNat) l)) := by
 cases bl
 ·by_cases h : S2.hasL l
  ·have hok : S2.okL l false = true := by simp [S2.okL, h]
   rw [hok, valL_yes hok, behind_ok rfl]
   refine eyeStampsC_see w b g l _ _ he fun W hW => ?_
   refine (S2.stampsIn_any W b g l false (he.before hW) hlen).mono fun e w' hh => ?_
   rcases hh with ⟨_, v, h1, h2, h3, h4⟩ | ⟨hn, _⟩
   ·exact ⟨v, h1, ⟨h2, h3⟩, h4⟩
   ·exact absurd h hn
  ·have hok : S2.okL l false = false := by simp [S2.okL, h]
   have hv : S2.valL l false = [] := by simp [S2.valL, hok]
   rw [hok, hv, behind_no]
   refine eyeStampsC_no w b g l he fun W hW => ?_
   refine (S2.stampsIn_any W b g l false (he.before hW) hlen).mono fun e w' hh => ?_
   rcases hh with ⟨hn, _⟩ | ⟨_, hn⟩
   ·exact absurd hn h
   ·exact hn
 ·have hok : S2.okL l true = false := by simp [S2.okL]
  have hv : S2.valL l true = [] := by simp [S2.valL, hok]
  rw [hok, hv, behind_no]
  exact eyeStampsC_blind w b g l he
theorem ownD_keep {w w' : World} {base b : Nat} {v : Value} {F : List Dp} (h : OwnD w base v F) (hb : b < base) (k : S2.Keeps (S2.Only b) w w') : OwnD w' base v F := by
 obtain ⟨h1, h2 | ⟨g, cap, cur, hv, hg, hh, r⟩⟩ := h
 ·exact ⟨h1, .inl h2⟩
 ·exact ⟨h1, .inr ⟨g, cap, cur, hv, hg, (k.block g (lt_of_block hh) (fun e => by have e2 : g = b := e; omega)).trans hh, r⟩⟩
theorem sl_keep {w w' : World} {b : Nat} {a : Option Addr} {l : List (Int × Int)} (h : SL w a l) (hb : ∀ p, a = some p → p.block ≠ b) (k : S2.Keeps (S2.Only b) w w') : SL w' a l := by
 intro hne
 obtain ⟨g, o, ha, hg, hl⟩ := h hne
 have hgb : ¬ S2.Only b g := fun e => hb _ ha e
 exact ⟨g, o, ha, Nat.lt_of_lt_of_le hg k.size, fun i x y hi => ⟨k.cell hgb (hl i x y hi).1, k.cell hgb (hl i x y hi).2⟩⟩
theorem hasG_keep {w w' : World} {b : Nat} {v : Value} {F : List Dp} (h : HasG w v F) (hb : ∀ s ∈ F, ∀ p, s.ia = some p → p.block ≠ b) (k : S2.Keeps (S2.Only b) w w') : HasG w' v F :=
 fun s hs => ⟨⟨sl_keep (h s hs).1.1 (hb s hs) k, (h s hs).1.2⟩, (h s hs).2⟩
def cD : SP.Cod (Int × List (Int × Int)) := SP.cI.two SP.cL
theorem cD_ok : cD.Ok := SP.Cod.two_ok SP.cI_ok SP.cL_ok
theorem cD_pos (x : Int × List (Int × Int)) : 1 ≤ (cD.lay x).length := by
 show 1 ≤ (S2.i8 _ ++ _).length
 rw [List.length_append, S2.i8_length]
 omega
theorem cD_lay : cD.lay = lay1 := rfl
theorem cD_layD (d : Dd) : cD.list.lay d = layD d := by
 rw [SP.list_lay, cD_lay]
 rfl
theorem cD_good {d : Dd} (h : checkD d = 0) : cD.list.good d := by
 obtain ⟨h1, _, _⟩ := checkD_ok.1 h
 exact ⟨by omega, fun x hx => ⟨(check_wf h x hx).1, (check_wf h x hx).2⟩⟩
theorem cL_cost (c : SP.Cur) : (SP.cL.val c).length + (SP.cL.fin c).1.length ≤ c.1.length := by
 show (S2.valL c.1 c.2.1).length + (S2.behind (S2.okL c.1 c.2.1) (8 + 16 * (S2.rd c.1).toNat) c.1).length ≤ _
 by_cases h : S2.okL c.1 c.2.1 = true
 ·rw [valL_yes h, behind_ok h, S2.rdL_length, List.length_drop]
  unfold S2.okL at h
  simp only [Bool.and_eq_true, decide_eq_true_eq] at h
  obtain ⟨_, _, _, h3⟩ := h
  omega
 ·have h2 : S2.okL c.1 c.2.1 = false := by simpa using h
  have h3 : S2.valL c.1 c.2.1 = [] := by unfold S2.valL; rw [if_neg h]
  rw [h2, h3, behind_no]
  simp
theorem cD_cost (c : SP.Cur) : (cD.val c).2.length + (cD.fin c).1.length ≤ c.1.length := Nat.le_trans (cL_cost (SP.cI.fin c)) (SP.cI_ok.len c)
theorem many_cost (n : Nat) : ∀ c, idsN (SP.many cD n c).1 + (SP.many cD n c).2.1.length ≤ c.1.length := by
 induction n with
 | zero => intro c; show idsN [] + c.1.length ≤ _; simp [idsN]
 | succ n ih =>
  intro c
  have h1 := cD_cost c
  have h2 := ih (cD.fin c)
  unfold SP.many
  split
  ·show idsN [] + (cD.fin c).1.length ≤ _
   have : idsN [] = 0 := rfl
   omega
  ·show idsN (cD.val c :: (SP.many cD n (cD.fin c)).1) + (SP.many cD n (cD.fin c)).2.1.length ≤ _
   rw [idsN_cons]
   omega
theorem list_cost (c : SP.Cur) : idsN (cD.list.val c) ≤ c.1.length := by
 rw [SP.list_val]
 have h1 := many_cost (SP.cI.val c).toNat (SP.said c)
 have h2 := SP.said_len c
 omega
def SeeDp (w : World) (s b g : Nat) (c : SP.Cur) (x : Int × List (Int × Int)) (cf : SP.Cur) (e : Ending) (w' : World) : Prop :=
 ∃ xa xc, e = .returned (.agg #[.int .i64 x.1, .slice xa x.2.length xc]) ∧ SL w' xa x.2 ∧ (xa = none → xc = 0) ∧ x.2.length ≤ xc ∧ (∀ b' o, xa = some ⟨b', o, none⟩ → w.heap.size ≤ b') ∧ (∀ p, xa = some p → w.heap.size ≤ p.block) ∧ SP.EyeS w' s b g cf ∧ S2.Keeps (S2.Only b) w w'
theorem sstamps_any {w : World} {s b g : Nat} {c : SP.Cur} (he : SP.EyeS w s b g c) (hlen : c.1.length ≤ 1000000) : Calls Tryz.prog 204 #[.pointer (some ⟨b, 0, none⟩)] w fun e w' =>
  ∃ xa xc, e = .returned (.slice xa (SP.cL.val c).length xc) ∧ SL w' xa (SP.cL.val c) ∧ (xa = none → xc = 0) ∧ (SP.cL.val c).length ≤ xc ∧ (∀ b' o, xa = some ⟨b', o, none⟩ → w.heap.size ≤ b') ∧ (∀ p, xa = some p → w.heap.size ≤ p.block) ∧ SP.EyeS w' s b g (SP.cL.fin c) ∧ S2.Keeps (S2.Only b) w w' :=
 (eyeStampsC_any w b g c.1 c.2.1 he.2.1 hlen).mono fun e w' h => by
  obtain ⟨a, cc, h1, h2, h3, h4, h5, h6, h7, h8⟩ := h
  exact ⟨a, cc, h1, h2, h3, h4, h5, h6, he.next h7 rfl (SP.cL_ok.len c) h8, h8⟩
theorem dep_block {w : World} {x y : Value} {k : Nat} {T : TypeId} (h : w.heap[k]? = some (.cells #[x, y] T (0, 0))) (u0 u1 : Value) :
  ((w.setCell ⟨k, 0, none⟩ u0).setCell ⟨k, 1, none⟩ u1).heap[k]? = some (.cells #[u0, u1] T (0, 0)) ∧ w.grownBy ((w.setCell ⟨k, 0, none⟩ u0).setCell ⟨k, 1, none⟩ u1) (some k) := by
 have hk := lt_of_block h
 refine ⟨?_, rfl, rfl, rfl, by simp [World.setCell], fun j hj hne => ?_⟩
 ·simp only [World.setCell]
  rw [Array.getElem?_modify, if_pos rfl, Array.getElem?_modify, if_pos rfl, h]
  rfl
 ·have e : j ≠ k := fun e => hne (by rw [e])
  rw [Go.Deep.blk_setCell_other _ _ _ _ e, Go.Deep.blk_setCell_other _ _ _ _ e]
theorem cells_two {Y : World} {k : Nat} {x0 x1 : Value} {T : TypeId} (h : Y.heap[k]? = some (.cells #[x0, x1] T (0, 0))) : Y.cell? ⟨k, 0, none⟩ = some x0 ∧ Y.cell? ⟨k, 1, none⟩ = some x1 ∧ Y.frozen? ⟨k, 0, none⟩ = false ∧ Y.frozen? ⟨k, 1, none⟩ = false := by
 simp only [World.cell?, World.frozen?, h]
 exact ⟨rfl, rfl, rfl, rfl⟩
theorem sl_after {w w' : World} {k : Nat} {a : Option Addr} {l : List (Int × Int)} (h : SL w a l) (hg : w.grownBy w' (some k)) (hb : ∀ p, a = some p → p.block ≠ k) : SL w' a l := by
 intro hne
 obtain ⟨g, o, ha, hgl, hl⟩ := h hne
 have hk := hg.block g hgl (fun e => hb _ ha (Option.some.inj e))
 refine ⟨g, o, ha, Nat.lt_of_lt_of_le hgl hg.size, fun i x y hi => ?_⟩
 have h2 := hl i x y hi
 simp only [World.cell?] at h2 ⊢
 rw [hk]
 exact h2
theorem sdep_any {w : World} {s b g : Nat} {c : SP.Cur} (he : SP.EyeS w s b g c) (hlen : c.1.length ≤ 1000000) : Calls Tryz.prog 177 #[.pointer (some ⟨s, 0, none⟩)] w (SeeDp w s b g c (cD.val c) (cD.fin c)) := by
 have HLT := Lib.hid he.lt
 have HAB : Hid ((w.alloc (.cells #[.int .i64 0, .slice none 0 0] 82)).heap[w.heap.size]? = some (.cells #[.int .i64 0, .slice none 0 0] 82 (0, 0))) := by
  show (w.heap.push _)[w.heap.size]? = _
  rw [Array.getElem?_push_size]
 have HK0 : Hid (S2.Keeps (S2.Only b) w (w.alloc (.cells #[.int .i64 0, .slice none 0 0] 82))) := S2.kAlloc (S2.Keeps.refl _ _) _
 have HE0 : Hid (SP.EyeS (w.alloc (.cells #[.int .i64 0, .slice none 0 0] 82)) s b g c) := he.before (S2.kAlloc (S2.Keeps.refl _ _) _)
 have HNB : Hid (¬ S2.Only b w.heap.size) := fun e => by have e2 : w.heap.size = b := e; have := he.lt; omega
 have p0 := HE0.out.ptr
 have HLC := Lib.hid hlen
 clear he hlen
 have HV : Hid (cD.val c = (SP.cI.val c, SP.cL.val (SP.cI.fin c))) := rfl
 have HF : Hid (cD.fin c = SP.cL.fin (SP.cI.fin c)) := rfl
 have HLN : Hid ((cD.fin c).1.length ≤ c.1.length) := cD_ok.len c
 have HLI : Hid ((SP.cI.fin c).1.length ≤ c.1.length) := SP.cI_ok.len c
 rw [HV.out]
 unfold SeeDp
 go_enter Tryz.func177, Tryz.ntmps177
 go_wp2_with (first
  | (have htok := HE1; clear htok; go_at_call 204; go_must (refine (sstamps_any HE1.out (by have := HLC.out; have := HLI.out; omega)).mono ?_; rintro e w3 ⟨xa, xc, rfl, h1, h2, h3, h4, h5, h6, h7⟩; have HE2 := Lib.hid h6; have HK2 := Lib.hid (HK1.out.then h7); have HS1 := Lib.hid h1; have HS2 := Lib.hid h2; have HS3 := Lib.hid h3; have HS5 := Lib.hid (fun p hp => Nat.lt_of_lt_of_le HSZ.out (Nat.le_trans HK1.out.size (h5 p hp))); have hb4 := (HK2.out.block w.heap.size HSZ.out HNB.out).trans HAB.out; have HAB5 := Lib.hid hb4; obtain ⟨a0, a1, f0, f1⟩ := cells_two hb4; have hrs := lt_of_block hb4; clear h1 h2 h3 h4 h5 h6 h7 hb4))
  | (go_at_call 103; go_must (refine (SP.sint_any HE0.out).mono ?_; rintro e w2 ⟨rfl, h1, h2⟩; have HE1 := Lib.hid h1; have p1 := h1.ptr; have HK1 := Lib.hid h2; have HSZ : Hid (w.heap.size < (w.alloc (.cells #[.int .i64 0, .slice none 0 0] 82)).heap.size) := (by show _ < _; simp); clear h1 h2)))
 have hE := dep_block HAB5.out (.int .i64 (SP.cI.val c)) (.slice xa (SP.cL.val (SP.cI.fin c)).length xc)
 obtain ⟨z0, z1, _, _⟩ := cells_two hE.1
 have HK5 := Lib.hid (SP.keeps_after (HK0.out.then HK2.out) hE.2 (Nat.le_refl _))
 have HE5 := Lib.hid (HE2.out.grown hE.2 (fun k hk => by
  have e2 := Option.some.inj hk
  have h1 := HLT.out.1
  have h2 := HLT.out.2.1
  refine .inr ⟨by omega, by omega, fun hne e => ?_⟩
  have := HLT.out.2.2 (fun e3 => hne (List.eq_nil_of_length_eq_zero (by have h5 := HLN.out; rw [HF.out, e3] at h5; simpa using h5)))
  omega))
 have HS6 := Lib.hid (sl_after HS1.out hE.2 (fun p hp => by have := HS5.out p hp; omega))
 clear hE
 generalize (w3.setCell ⟨w.heap.size, 0, none⟩ (.int .i64 (SP.cI.val c))).setCell ⟨w.heap.size, 1, none⟩ (.slice xa (SP.cL.val (SP.cI.fin c)).length xc) = w6 at *
 refine bodyPost_ret (v := .agg #[.int .i64 (SP.cI.val c), .slice xa (SP.cL.val (SP.cI.fin c)).length xc]) (by simp [results, Tryz.results177, go_sem, z0, z1]) rfl ?_
 exact ⟨xa, xc, rfl, HS6.out, HS2.out, HS3.out, fun b' o h => Nat.le_of_lt (HS5.out _ h), fun p hp => Nat.le_of_lt (HS5.out p hp), HE5.out, HK5.out⟩
theorem ownD_mono {w : World} {base B : Nat} {v : Value} {d : List Dp} (h : OwnD w B v d) (hb : base ≤ B) : OwnD w base v d := by
 obtain ⟨h1, h2 | ⟨g, cap, cur, hv, hg, rest⟩⟩ := h
 ·exact ⟨h1, .inl h2⟩
 ·exact ⟨h1, .inr ⟨g, cap, cur, hv, Nat.le_trans hb hg, rest⟩⟩

def SeeLDO (w : World) (s b g : Nat) (c : SP.Cur) (e : Ending) (w' : World) : Prop := ∃ v F, e = .returned v ∧ toD F = cD.list.val c ∧ OwnD w' w.heap.size v F ∧ HasG w' v F ∧ (∀ s' ∈ F, ∀ p, s'.ia = some p → w.heap.size ≤ p.block) ∧ SP.EyeS w' s b g (cD.list.fin c) ∧ S2.Keeps (SP.Both s b) w w'
theorem slistDO_any {w : World} {s b g : Nat} {c : SP.Cur} (he : SP.EyeS w s b g c) (hlen : c.1.length ≤ 1000000) :
  Calls Tryz.prog 176 #[.pointer (some ⟨s, 0, none⟩), .func (.func 177) #[] #[]] w (SeeLDO w s b g c) := by
 have HE := Lib.hid he
 have HLC := Lib.hid hlen
 have p0 := he.ptr
 have HLT0 := Lib.hid he.lt
 clear he hlen
 generalize hN : SP.cI.val c = N
 have HLV : Hid (cD.list.val c = (SP.many cD N.toNat (SP.said c)).1) := by rw [← hN]; exact Lib.hid rfl
 have HLF : Hid (cD.list.fin c = (SP.many cD N.toNat (SP.said c)).2) := by rw [← hN]; exact Lib.hid rfl
 have HSD : Hid (SP.said c = ((SP.cI.fin c).1, (SP.cI.fin c).2.1, c.2.2 || decide (N < 0))) := by rw [← hN]; exact Lib.hid rfl
 have HI : Hid (Calls Tryz.prog 103 #[.pointer (some ⟨b, 0, none⟩)] w fun e w' => e = .returned (.int .i64 N) ∧ SP.EyeS w' s b g (SP.cI.fin c) ∧ S2.Keeps (S2.Only b) w w') := by
  rw [← hN]
  exact Lib.hid (SP.sint_any HE.out)
 clear hN
 go_enter Tryz.func176, Tryz.ntmps176
 by_cases h0 : N < 0
 ·have hd0 : decide (N < 0) = true := decide_eq_true h0
  have hd1 : decide ((0 : Int) < N) = false := decide_eq_false (by omega)
  rw [hd0, Bool.or_true] at HSD
  go_wp2_with (go_at_call 103; go_must (refine HI.out.mono ?_; rintro e w1 ⟨rfl, h1, h2⟩; have HE1 := Lib.hid h1; have HK1 := Lib.hid (SP.both_of (s := s) h2); have p1 := h1.ptr; have l1 := h1.lie; have fz := frozen_of_row w1 s 1 _ _ h1.1; clear h1 h2))
  have HE2 : Hid (SP.EyeS (w1.setCell ⟨s, 1, none⟩ (.bool true)) s b g (SP.said c)) := by
   rw [HSD.out]
   exact Lib.hid HE1.out.lieSet
  have HK2 : Hid (S2.Keeps (SP.Both s b) w (w1.setCell ⟨s, 1, none⟩ (.bool true))) := Lib.hid (S2.kSet (p := ⟨s, 1, none⟩) HK1.out (Or.inl (show SP.Both s b s from .inl rfl)) _)
  generalize w1.setCell ⟨s, 1, none⟩ (.bool true) = w2 at *
  have HG2 : Hid (c.1 ≠ [] → g < w2.heap.size) := fun h => Nat.lt_of_lt_of_le (HLT0.out.2.2 h) HK2.out.size
  have HSB : Hid (s < w2.heap.size ∧ b < w2.heap.size ∧ True) := Lib.hid ⟨Nat.lt_of_lt_of_le HLT0.out.1 HK2.out.size, Nat.lt_of_lt_of_le HLT0.out.2.1 HK2.out.size, trivial⟩
  go_loopw [6, 20] (fun v i wr => ∃ (F : List Dp) (cc : SP.Cur), F.length ≤ N.toNat ∧ i = .int .i64 F.length ∧ OwnD wr w2.heap.size v F ∧ HasG wr v F ∧ (∀ s' ∈ F, ∀ p, s'.ia = some p → w.heap.size ≤ p.block) ∧ SP.EyeS wr s b g cc ∧ toD F ++ (SP.many cD (N.toNat - F.length) cc).1 = cD.list.val c ∧ (SP.many cD (N.toNat - F.length) cc).2 = cD.list.fin c ∧ F.length + cc.1.length ≤ c.1.length ∧ w2.heap.size ≤ wr.heap.size ∧ S2.Keeps (SP.Both s b) w wr) (fun _ i _ => N.toNat - (RowKit.intOf i).toNat)
  case atStart => exact ⟨[], SP.said c, Nat.zero_le _, rfl, OwnD.nil _ _, HasG.nil _ _, fun s' hs => (by cases hs), HE2.out, HLV.out.symm, HLF.out.symm, by rw [List.length_nil, Nat.zero_add]; exact SP.said_len c, Nat.le_refl _, HK2.out⟩
  case round =>
   obtain ⟨F, cc, hk, rfl, ho, hg, hqb, he, hv, hf, hln, hs, hkp⟩ := hrel
   have HO := Lib.hid ho
   have HG := Lib.hid hg
   have HQB := Lib.hid hqb
   have HE := Lib.hid he
   have HV := Lib.hid hv
   have HF := Lib.hid hf
   have HLN := Lib.hid hln
   have HS := Lib.hid hs
   have HKP := Lib.hid hkp
   have pr := he.ptr
   obtain ⟨av, cv, rfl, _⟩ := ho.row
   clear ho hg hqb he hv hf hln hs hkp
   by_cases hlt : F.length < N.toNat
   ·exact absurd hlt (by omega)
   ·have hge : ¬ ((F.length : Nat) : Int) < N := by omega
    have hdk : decide (((F.length : Nat) : Int) < N) = false := decide_eq_false hge
    have h0m : N.toNat - F.length = 0 := by omega
    go_wp2
    go_ret
    have hv : cD.list.val c = toD F := by have h := HV.out; rw [h0m] at h; simpa [SP.many] using h.symm
    have hf : cD.list.fin c = cc := by have h := HF.out; rw [h0m] at h; exact h.symm
    exact ⟨_, F, rfl, by rw [hv], ownD_mono HO.out HK2.out.size, HG.out, HQB.out, by rw [hf]; exact HE.out, HKP.out⟩
 ·have hd0 : decide (N < 0) = false := decide_eq_false h0
  rw [hd0, Bool.or_false] at HSD
  go_wp2_with (go_at_call 103; go_must (refine HI.out.mono ?_; rintro e w1 ⟨rfl, h1, h2⟩; have HE1 := Lib.hid h1; have HK1 := Lib.hid (SP.both_of (s := s) h2); have p1 := h1.ptr; have l1 := h1.lie; have fz := frozen_of_row w1 s 1 _ _ h1.1; clear h1 h2))
  have HE2 : Hid (SP.EyeS w1 s b g (SP.said c)) := by
   rw [HSD.out]
   exact Lib.hid HE1.out
  have HK2 := HK1
  have HG2 : Hid (c.1 ≠ [] → g < w1.heap.size) := fun h => Nat.lt_of_lt_of_le (HLT0.out.2.2 h) HK2.out.size
  have HSB : Hid (s < w1.heap.size ∧ b < w1.heap.size ∧ True) := Lib.hid ⟨Nat.lt_of_lt_of_le HLT0.out.1 HK2.out.size, Nat.lt_of_lt_of_le HLT0.out.2.1 HK2.out.size, trivial⟩
  generalize w1 = w2 at *
  go_loopw [6, 20] (fun v i wr => ∃ (F : List Dp) (cc : SP.Cur), F.length ≤ N.toNat ∧ i = .int .i64 F.length ∧ OwnD wr w2.heap.size v F ∧ HasG wr v F ∧ (∀ s' ∈ F, ∀ p, s'.ia = some p → w.heap.size ≤ p.block) ∧ SP.EyeS wr s b g cc ∧ toD F ++ (SP.many cD (N.toNat - F.length) cc).1 = cD.list.val c ∧ (SP.many cD (N.toNat - F.length) cc).2 = cD.list.fin c ∧ F.length + cc.1.length ≤ c.1.length ∧ w2.heap.size ≤ wr.heap.size ∧ S2.Keeps (SP.Both s b) w wr) (fun _ i _ => N.toNat - (RowKit.intOf i).toNat)
  case atStart => exact ⟨[], SP.said c, Nat.zero_le _, rfl, OwnD.nil _ _, HasG.nil _ _, fun s' hs => (by cases hs), HE2.out, HLV.out.symm, HLF.out.symm, by rw [List.length_nil, Nat.zero_add]; exact SP.said_len c, Nat.le_refl _, HK2.out⟩
  case round =>
   obtain ⟨F, cc, hk, rfl, ho, hg, hqb, he, hv, hf, hln, hs, hkp⟩ := hrel
   have HO := Lib.hid ho
   have HG := Lib.hid hg
   have HQB := Lib.hid hqb
   have HE := Lib.hid he
   have HV := Lib.hid hv
   have HF := Lib.hid hf
   have HLN := Lib.hid hln
   have HS := Lib.hid hs
   have HKP := Lib.hid hkp
   have pr := he.ptr
   obtain ⟨av, cv, rfl, _⟩ := ho.row
   clear ho hg hqb he hv hf hln hs hkp
   by_cases hlt : F.length < N.toNat
   ·have hk1 : ((F.length : Nat) : Int) < N := by omega
    have hk0 : (0 : Int) ≤ ((F.length : Nat) : Int) := by omega
    have hdk : decide (((F.length : Nat) : Int) < N) = true := decide_eq_true hk1
    obtain ⟨m, hm⟩ : ∃ m, N.toNat - F.length = m + 1 := ⟨N.toNat - F.length - 1, by omega⟩
    have HM : Hid (SP.many cD (N.toNat - F.length) cc = if (cD.fin cc).1.length = cc.1.length then ([], cD.fin cc) else (cD.val cc :: (SP.many cD m (cD.fin cc)).1, (SP.many cD m (cD.fin cc)).2)) := by
     show _ = _
     rw [hm]
     rfl
    have HMM := Lib.hid hm
    have HFL := Lib.hid (cD_ok.len cc)
    have HLT : Hid (cc.1.length ≤ 1000000 ∧ F.length ≤ 1000000) := by
     have := HLN.out
     have := HLC.out
     exact ⟨by omega, by omega⟩
    have hF6 : F.length ≤ 1000000 := HLT.out.2
    have HSP := Lib.hid (sdep_any HE.out HLT.out.1)
    have HGG : Hid (cc.1 ≠ [] → g < w2.heap.size) := fun h => HG2.out (fun e => h (List.eq_nil_of_length_eq_zero (by have h1 := HLN.out; have h2 : c.1.length = 0 := (by rw [e]; rfl); omega)))
    clear hm
    by_cases hq : (cD.fin cc).1.length = cc.1.length
    ·rw [if_pos hq] at HM
     have hqd : ((((cD.fin cc).1.length : Nat) : Int) == ((cc.1.length : Nat) : Int)) = true := by simp [hq]
     clear hq
     generalize cD.val cc = x at *
     generalize hcf : cD.fin cc = cf at *
     clear hcf
     go_wp2_with (first
      | (have htok := HE5; clear htok; go_at_call 102; go_must (refine (S2.left_any _ b g cf.1 cf.2.1 (HE5.out.before (S2.kAlloc (S2.Keeps.refl _ _) _)).2.1).mono ?_; rintro e w6 ⟨rfl, rfl⟩))
      | (go_at_call 177; go_must (refine HSP.out.mono ?_; rintro e w5 ⟨xa, xc, rfl, h1, h2, h3, h4, h5, h6, h7⟩; have HE5 := Lib.hid h6; have HK5 := Lib.hid h7; have HM1 := Lib.hid h1; have HM2 := Lib.hid h2; have HM3 := Lib.hid h3; have HM5 := Lib.hid h5; have HO5 := Lib.hid (ownD_keep HO.out HSB.out.2.1 h7); have HG5 := Lib.hid (hasG_keep HG.out (fun s' hs p hp => by have := HQB.out s' hs p hp; have := HLT0.out.2.1; omega) h7); have HMV := Lib.hid (apart_g HO.out h1 h4 (Nat.le_refl _)); have p5 := S2.alloc_cell h6.ptr (.cells #[.int .i64 x.1, .slice xa x.2.length xc] 82); clear h1 h2 h3 h4 h5 h6 h7))
      | (go_at_call 102; go_must (refine (S2.left_any wr b g cc.1 cc.2.1 HE.out.2.1).mono ?_; rintro e w4 ⟨rfl, rfl⟩)))
     go_ret
     have hv : cD.list.val c = toD F := by have h := HV.out; rw [HM.out] at h; simpa using h.symm
     have hf : cD.list.fin c = cf := by have h := HF.out; rw [HM.out] at h; exact h.symm
     exact ⟨_, F, rfl, by rw [hv], ownD_mono (HO5.out.later (blAlloc (Below.refl _ _) _)) HK2.out.size, HG5.out.later (blAlloc (Below.refl _ _) _), HQB.out, by rw [hf]; exact HE5.out.before (S2.kAlloc (S2.Keeps.refl _ _) _), S2.kAlloc (HKP.out.then (SP.both_of HK5.out)) _⟩
    ·rw [if_neg hq] at HM
     have HQ := Lib.hid hq
     have hqd : ((((cD.fin cc).1.length : Nat) : Int) == ((cc.1.length : Nat) : Int)) = false := by simpa using (fun e => hq (by omega))
     clear hq
     generalize cD.val cc = x at *
     generalize hcf : cD.fin cc = cf at *
     clear hcf
     go_wp2_with (first
      | (have htok := HE5; clear htok; go_at_call 102; go_must (refine (S2.left_any _ b g cf.1 cf.2.1 (HE5.out.before (S2.kAlloc (S2.Keeps.refl _ _) _)).2.1).mono ?_; rintro e w6 ⟨rfl, rfl⟩))
      | (go_at_call 177; go_must (refine HSP.out.mono ?_; rintro e w5 ⟨xa, xc, rfl, h1, h2, h3, h4, h5, h6, h7⟩; have HE5 := Lib.hid h6; have HK5 := Lib.hid h7; have HM1 := Lib.hid h1; have HM2 := Lib.hid h2; have HM3 := Lib.hid h3; have HM5 := Lib.hid h5; have HO5 := Lib.hid (ownD_keep HO.out HSB.out.2.1 h7); have HG5 := Lib.hid (hasG_keep HG.out (fun s' hs p hp => by have := HQB.out s' hs p hp; have := HLT0.out.2.1; omega) h7); have HMV := Lib.hid (apart_g HO.out h1 h4 (Nat.le_refl _)); have p5 := S2.alloc_cell h6.ptr (.cells #[.int .i64 x.1, .slice xa x.2.length xc] 82); clear h1 h2 h3 h4 h5 h6 h7))
      | (go_at_call 102; go_must (refine (S2.left_any wr b g cc.1 cc.2.1 HE.out.2.1).mono ?_; rintro e w4 ⟨rfl, rfl⟩))
      | (at_builtin; go_must (refine append_dp1 rfl (.tmp 37) (.tmp 39) rfl w2.heap.size (v := .slice av F.length cv) (d := F) (ad := ⟨w5.heap.size + 1, 0, none⟩) (cap := 1) (m := ⟨x.1, xa, xc, x.2⟩) rfl rfl (HO5.out.later (blAlloc (blAlloc (Below.refl _ _) _) _)) (dp_one (w0 := w5.alloc (.cells #[.int .i64 x.1, .slice xa x.2.length xc] 82)) (m := ⟨x.1, xa, xc, x.2⟩) (by simp) rfl) (by have := HLT.out; omega) (Nat.le_trans HS.out (Nat.le_trans HK5.out.size (blAlloc (blAlloc (Below.refl w5.heap.size w5) (.cells #[.int .i64 x.1, .slice xa x.2.length xc] 82)) (.cells #[.int .i64 x.1, .slice xa x.2.length xc] 82)).size)) ?_; intro v7 w7 h1 h2 h3; have HO7 := Lib.hid h1; have HG7 := Lib.hid h2; have HGG7 := Lib.hid ((HG5.out.later (blAlloc (blAlloc (Below.refl _ _) (.cells #[.int .i64 x.1, .slice xa x.2.length xc] 82)) (.cells #[.int .i64 x.1, .slice xa x.2.length xc] 82))).push (m := ⟨x.1, xa, xc, x.2⟩) (show IdsAt _ _ from ⟨HM1.out.later (blAlloc (blAlloc (Below.refl _ _) (.cells #[.int .i64 x.1, .slice xa x.2.length xc] 82)) (.cells #[.int .i64 x.1, .slice xa x.2.length xc] 82)), HM2.out, HM3.out⟩) HMV.out h2 h3); clear h1 h2 h3)))
     have HOB := Lib.hid (HO5.out.later (blAlloc (blAlloc (Below.refl _ _) (.cells #[.int .i64 x.1, .slice xa x.2.length xc] 82)) (.cells #[.int .i64 x.1, .slice xa x.2.length xc] 82)))
     have HE7 : Hid (SP.EyeS w7 s b g cf) := Lib.hid ((HE5.out.before (S2.kAlloc (S2.kAlloc (S2.Keeps.refl _ _) _) _)).grown HG7.out (fun k hk => by
      have h1 := (HOB.out.block k hk).1
      have h2 := HSB.out
      refine .inr ⟨by omega, by omega, fun hne => ?_⟩
      have h3 := HGG.out (fun e => hne (List.eq_nil_of_length_eq_zero (by have h4 := HFL.out; rw [e] at h4; simpa using h4)))
      omega))
     have HK7 : Hid (S2.Keeps (SP.Both s b) w w7) := Lib.hid (SP.keeps_afterO (S2.kAlloc (S2.kAlloc (HKP.out.then (SP.both_of HK5.out)) _) _) HG7.out (fun k hk => Nat.le_trans HK2.out.size (HOB.out.block k hk).1))
     have HS7 : Hid (w2.heap.size ≤ w7.heap.size) := Lib.hid (Nat.le_trans HS.out (Nat.le_trans HK5.out.size (Nat.le_trans (blAlloc (blAlloc (Below.refl w5.heap.size w5) (.cells #[.int .i64 x.1, .slice xa x.2.length xc] 82)) (.cells #[.int .i64 x.1, .slice xa x.2.length xc] 82)).size HG7.out.size)))
     have HQ7 : Hid (∀ s' ∈ F ++ [(⟨x.1, xa, xc, x.2⟩ : Dp)], ∀ p, s'.ia = some p → w.heap.size ≤ p.block) := Lib.hid (by
      intro s' hs p hp
      rcases List.mem_append.1 hs with hs | hs
      ·exact HQB.out s' hs p hp
      ·rw [List.mem_singleton] at hs
       subst hs
       have := HM5.out p hp
       have := HS.out
       have := HK2.out.size
       omega)
     have hm2 : N.toNat - (F ++ [(⟨x.1, xa, xc, x.2⟩ : Dp)]).length = m := by have := HMM.out; rw [List.length_append, List.length_singleton]; omega
     clear HOB HG7
     go_roundw
     case rel =>
      refine ⟨F ++ [(⟨x.1, xa, xc, x.2⟩ : Dp)], cf, by rw [List.length_append, List.length_singleton]; omega, by rw [List.length_append, List.length_singleton]; go_num, HO7.out, HGG7.out, HQ7.out, HE7.out, ?_, ?_, ?_, HS7.out, HK7.out⟩
      ·have e : toD (F ++ [(⟨x.1, xa, xc, x.2⟩ : Dp)]) = toD F ++ [x] := by unfold toD; rw [List.map_append]; rfl
       rw [hm2, e, List.append_assoc]
       have h := HV.out
       rw [HM.out] at h
       exact h
      ·rw [hm2]
       have h := HF.out
       rw [HM.out] at h
       exact h
      ·have h1 := HLN.out
       have h2 := HFL.out
       have h3 := HQ.out
       rw [List.length_append, List.length_singleton]
       omega
     case measure => simp [RowKit.intOf]; omega
   ·have hge : ¬ ((F.length : Nat) : Int) < N := by omega
    have hdk : decide (((F.length : Nat) : Int) < N) = false := decide_eq_false hge
    have h0m : N.toNat - F.length = 0 := by omega
    go_wp2
    go_ret
    have hv : cD.list.val c = toD F := by have h := HV.out; rw [h0m] at h; simpa [SP.many] using h.symm
    have hf : cD.list.fin c = cc := by have h := HF.out; rw [h0m] at h; exact h.symm
    exact ⟨_, F, rfl, by rw [hv], ownD_mono HO.out HK2.out.size, HG.out, HQB.out, by rw [hf]; exact HE.out, HKP.out⟩
theorem sdepsO_any {w : World} {s b g : Nat} {c : SP.Cur} (he : SP.EyeS w s b g c) (hlen : c.1.length ≤ 1000000) : Calls Tryz.prog 126 #[.pointer (some ⟨s, 0, none⟩)] w (SeeLDO w s b g c) := by
 have HI := Lib.hid (slistDO_any he hlen)
 clear he hlen
 go_enter Tryz.func126, Tryz.ntmps126
 go_wp2_with (go_at_call 176; go_must (refine HI.out.mono ?_; rintro e w1 ⟨v, F, rfl, h1, h2, h3, h6, h4, h5⟩; have H6 := Lib.hid h6; have H1 := Lib.hid h1; have H2 := Lib.hid h2; have H3 := Lib.hid h3; have H4 := Lib.hid h4; have H5 := Lib.hid h5; clear h1 h2 h3 h4 h5 h6))
 go_ret
 exact ⟨v, F, rfl, H1.out, H2.out, H3.out, H6.out, H4.out, H5.out⟩
end SD
end Go.Proofs.YtgipkikedacmdaaGreat

namespace Go.Proofs.YtgipkikedacmdaaGreat
open S1
namespace SD
open Go.RowKit
def lrV (r : LRow) : Value := .slice r.1 r.2.1.length r.2.2
def Dp.lr (s : Dp) : LRow := (s.ia, s.ids, s.ic)
def OwnR (w : World) (base : Nat) (v : Value) (ls : List LRow) : Prop := w.ownsRow base 80 1 v ls.length (ls.map lrV)
def LrAt (w : World) (r : LRow) : Prop := SL w r.1 r.2.1 ∧ (r.1 = none → r.2.2 = 0) ∧ r.2.1.length ≤ r.2.2
theorem LrAt.later {W wr : World} {r : LRow} (h : LrAt W r) (hw : Below W.heap.size W wr) : LrAt wr r := ⟨h.1.later hw, h.2⟩
theorem IdsAt.lr {w : World} {s : Dp} (h : IdsAt w s) : LrAt w s.lr := h
theorem OwnR.nil (w : World) (base : Nat) : OwnR w base (.slice none 0 0) [] := World.ownsRow_nil _ _ _ _
theorem OwnR.later {W wr : World} {base : Nat} {v : Value} {l : List LRow} (h : OwnR W base v l) (hb : Below W.heap.size W wr) : OwnR wr base v l := by
 obtain ⟨h1, h2 | ⟨g, cap, cur, hv, hg, hh, r⟩⟩ := h
 ·exact ⟨h1, .inl h2⟩
 ·exact ⟨h1, .inr ⟨g, cap, cur, hv, hg, (hb.block g (lt_of_block hh)).trans hh, r⟩⟩
theorem OwnR.kept {W wr : World} {base : Nat} {v : Value} {l : List LRow} {g : Option Nat} (h : OwnR W base v l) (hb : W.grownBy wr g) (hne : v.ownBlock ≠ g ∨ g = none) : OwnR wr base v l := by
 obtain ⟨h1, h2 | ⟨k, cap, cur, rfl, hg, hh, r⟩⟩ := h
 ·exact ⟨h1, .inl h2⟩
 ·refine ⟨h1, .inr ⟨k, cap, cur, rfl, hg, (hb.block k (lt_of_block hh) (fun e => ?_)).trans hh, r⟩⟩
  rcases hne with hne | hne
  ·exact hne (by simpa [Value.ownBlock] using e)
  ·rw [hne] at e
   cases e
theorem OwnR.block {w : World} {base : Nat} {v : Value} {l : List LRow} (h : OwnR w base v l) : ∀ k, v.ownBlock = some k → base ≤ k ∧ k < w.heap.size := by
 intro k hk
 obtain ⟨h1, ⟨rfl, _⟩ | ⟨g, cap, cur, rfl, hg, hh, _⟩⟩ := h
 ·simp [Value.ownBlock] at hk
 ·simp [Value.ownBlock] at hk
  subst hk
  exact ⟨hg, lt_of_block hh⟩
theorem OwnR.row {w : World} {base : Nat} {v : Value} {l : List LRow} (h : OwnR w base v l) (hne : l ≠ []) : ∃ g cap, v = .slice (some ⟨g, 0, none⟩) l.length cap ∧ l.length ≤ cap ∧ base ≤ g ∧ g < w.heap.size ∧ ∀ (i : Nat) r, l[i]? = some r → w.cell? ⟨g, i, none⟩ = some (lrV r) := by
 obtain ⟨h1, ⟨rfl, hl⟩ | ⟨g, cap, cur, hv, hg, hh, hn, hm, hs, hx⟩⟩ := h
 ·exact absurd (List.eq_nil_of_length_eq_zero hl) hne
 ·refine ⟨g, cap, hv, hn, hg, lt_of_block hh, fun i r hi => ?_⟩
  have hil := (List.getElem?_eq_some_iff.1 hi).1
  have c1 : (l.map lrV)[i]? = some (lrV r) := by rw [List.getElem?_map, hi]; rfl
  rw [← hx, List.getElem?_take_of_lt (by omega)] at c1
  simp only [World.cell?, hh]
  simpa using c1
end SD
end Go.Proofs.YtgipkikedacmdaaGreat
