/- The reference's eye: Stamp. Conditions: as each theorem states. -/
import Derived.Deep.RegionHeld3
import Derived.WalkSpells
import Derived.BigQuiet
import Derived.Deep.QuietTactic
import Derived.Deep.Draws
import Derived.Test.YtgipkikedacmdaaGreatMg19
import Derived.Test.YtgipkikedacmdaaGreatMg32
import Derived.Test.YtgipkikedacmdaaGreatMg20
import Derived.Test.YtgipkikedacmdaaGreatMg25
import Derived.Test.YtgipkikedacmdaaGreatMg31
import Derived.Test.YtgipkikedacmdaaGreatMg28
import Derived.Test.YtgipkikedacmdaaGreatMg30
set_option maxRecDepth 100000
set_option maxHeartbeats 16000000
set_option linter.unusedVariables false
namespace Go.Proofs.YtgipkikedacmdaaGreat
open Go.Lib renaming hid → hI
open S1
namespace SD
open Go.RowKit
def lay1 (x : Int × List (Int × Int)) : List UInt8 := S2.i8 x.1 ++ S2.sts x.2
def layF (d : Dd) : List UInt8 := d.flatMap lay1
def layD (d : Dd) : List UInt8 := S2.i8 d.length ++ layF d
theorem sts_len (l : List (Int × Int)) : (S2.sts l).length = 8 + 16 * l.length := by
 unfold S2.sts
 rw [List.length_append, S2.i8_length, S2.flat_length S2.st 16 S2.st_length]
theorem layF_len (d : Dd) : (layF d).length = 16 * d.length + 16 * idsN d := by
 unfold layF
 induction d with
 | nil => rfl
 | cons x r ih =>
  rw [List.flatMap_cons, List.length_append, ih, idsN_cons, List.length_cons]
  unfold lay1
  rw [List.length_append, S2.i8_length, sts_len]
  omega
theorem layF_take {l : List Dp} {k : Nat} {s : Dp} (h : l[k]? = some s) : layF ((toD l).take (k + 1)) = layF ((toD l).take k) ++ (S2.i8 s.sh ++ S2.sts s.ids) := by
 unfold layF
 rw [List.take_add_one, toD_at h, List.flatMap_append]
 simp [lay1]

set_option linter.unusedSimpArgs false
theorem pen_below {B b : Nat} {r r' : Option Nat} {x y : World} (h : S2.PenStep b r r' x y) (hB : B ≤ x.heap.size) (hb : B ≤ b) (hr : ∀ k, r = some k → B ≤ k) : Below B x y ∧ ∀ k, r' = some k → B ≤ k := by
 refine ⟨h.keeps.below hB fun k hk hs => ?_, fun k hk => ?_⟩
 ·rcases hs with rfl | hs
  ·omega
  ·have := hr k hs
   omega
 ·rcases h.row with e | e
  ·exact hr k (e ▸ hk)
  ·exact Nat.le_trans hB (e k hk)
theorem sl_pen {w0 w : World} {a : Option Addr} {xs : List (Int × Int)} (h : SL w0 a xs) (hb : Below w0.heap.size w0 w) {pb : Nat} {r : Option Nat} (hp : w0.heap.size ≤ pb) (hr : ∀ k, r = some k → w0.heap.size ≤ k) (q : Nat) (hq : q < w.heap.size) (hq2 : ¬ S2.PenS pb r q) :
  ∃ g, S2.SL w g a xs ∧ ¬ S2.PenS pb r g ∧ g < w.heap.size := by
 by_cases hne : xs = []
 ·exact ⟨q, fun h => absurd hne h, hq2, hq⟩
 ·obtain ⟨b, o, ha, hlt, hl⟩ := h hne
  refine ⟨b, fun _ => ⟨o, ha, fun j x y hx => ⟨cell_in hb hlt (hl j x y hx).1, cell_in hb hlt (hl j x y hx).2⟩⟩, fun hs => ?_, Nat.lt_of_lt_of_le hlt hb.size⟩
  rcases hs with e | e
  ·omega
  ·have := hr b e
   omega
theorem i8_one (x : Int) : [x].flatMap S2.i8 = S2.i8 x := by simp
theorem layD_len (d : Dd) : (layD d).length = 8 + (layF d).length := by
 unfold layD
 rw [List.length_append, S2.i8_length]
theorem pdeps_any (b : Nat) (r : Option Nat) (B : List UInt8) (a : Option Addr) (c : Nat) (l : List Dp) (w0 w : World) (hp : S2.PenAt w b r B) (hlen : B.length ≤ 1000000000) (hf : FewD l) (hn : idsN (toD l) ≤ 1000000) (hl : Dl w0 a l) (hbel : Below w0.heap.size w0 w) (hb0 : w0.heap.size ≤ b) (hr0 : ∀ k, r = some k → w0.heap.size ≤ k) :
  Calls Tryz.prog 70 #[.pointer (some ⟨b, 0, none⟩), .slice a l.length c] w (S2.Laid w b r (B ++ layD (toD l))) := by
 have HL := hI hl
 have HF := hI hf
 have HNN := hI hn
 have HLB := hI hlen
 have HP0 := hI hp
 have HB0 := hI hbel
 have HBB := hI hb0
 have HR0 := hI hr0
 have hlen6 := hf.1
 clear hl hf hp hlen hbel hb0 hr0
 go_enter Tryz.func70, Tryz.ntmps70
 go_wp2_with (go_at_call 68; go_must (refine (S2.int_any _ b r B w.heap.size _ 1 [(l.length : Int)] (HP0.out.before (S2.kAlloc (S2.Keeps.refl _ _) _)) (S2.one_new w _ _ rfl _ rfl) (HP0.out.apart (Nat.le_refl _)) (by have := HLB.out; simp only [List.length_cons, List.length_nil]; omega)).mono ?_; rw [i8_one]; rintro e w1 ⟨rfl, r1, hp1, hs1⟩; have HP1 := hI hp1; have HS1 := hI (hs1.before (w := w) (S2.kAlloc (S2.Keeps.refl _ _) _)); clear hp1 hs1))
 go_loopw [15] (fun i wr => ∃ (k : Nat) (r' : Option Nat), k ≤ l.length ∧ i = .int .i64 k ∧ S2.PenAt wr b r' (B ++ S2.i8 l.length ++ layF ((toD l).take k)) ∧ S2.PenStep b r r' w wr) (fun i _ => l.length - (RowKit.intOf i).toNat)
 case atStart => exact ⟨0, r1, Nat.zero_le _, rfl, by simpa [layF] using HP1.out, HS1.out⟩
 case round =>
  clear HP1 HS1 HP0
  obtain ⟨k, r', hk, rfl, hp, hst⟩ := hrel
  have HP := hI hp
  have HST := hI hst
  have hpb := pen_below (B := w0.heap.size) hst HB0.out.size HBB.out HR0.out
  have HB : Hid (Below w0.heap.size w0 wr) := HB0.out.trans hpb.1
  have HR := hI hpb.2
  clear hp hst hpb
  by_cases hlt : k < l.length
  ·obtain ⟨s, hs⟩ := at_ltD hlt
   obtain ⟨b2, o, rfl, hbg, hx, hy, hi⟩ := (HL.out.later HB.out).at hs
   have hk1 : (k : Int) < (l.length : Int) := by omega
   have hk0 : (0 : Int) ≤ (k : Int) := by omega
   have hdk : decide ((k : Int) < (l.length : Int)) = true := decide_eq_true hk1
   have HSI := hI (HL.out.1 s (List.mem_of_getElem? hs)).1
   have HFT := hI (layF_take hs)
   have HLN : Hid ((B ++ S2.i8 l.length ++ layF ((toD l).take k)).length + 16 * s.ids.length + 100 ≤ 1099511627776) := by
    show _ ≤ _
    have h1 := layF_len ((toD l).take k)
    have h2 := idsN_take_le (toD l) k
    have h3 := HNN.out
    have h4 := idsN_le (List.mem_of_getElem? hs)
    have h5 := HLB.out
    rw [List.length_append, List.length_append, S2.i8_length, h1, List.length_take, toD_length]
    omega
   unfold ilD at hy
   clear hs hi
   generalize hG : B ++ S2.i8 l.length ++ layF ((toD l).take k) = G at *
   have HGE := hI hG
   clear hG
   have HL1 : Hid (G.length + 8 * [s.sh].length ≤ 1099511627776) := by have := HLN.out; show _ ≤ _; simp only [List.length_cons, List.length_nil]; omega
   have HL2 : Hid ((G ++ S2.i8 s.sh).length + 16 * s.ids.length + 16 ≤ 1099511627776) := by have := HLN.out; show _ ≤ _; rw [List.length_append, S2.i8_length]; omega
   clear HLN
   have hob : (wr.alloc (.cells #[.int .i64 s.sh, .slice s.ia s.ids.length s.ic] 82)).heap[wr.heap.size]? = some (.cells #[.int .i64 s.sh, .slice s.ia s.ids.length s.ic] 82 (0, 0)) := by
    show (wr.heap.push _)[wr.heap.size]? = _
    rw [Array.getElem?_push_size]
   have HC0 : Hid ((wr.alloc (.cells #[.int .i64 s.sh, .slice s.ia s.ids.length s.ic] 82)).cell? ⟨wr.heap.size, 0, none⟩ = some (.int .i64 s.sh)) := by
    show _ = _
    simp only [World.cell?, hob]
    rfl
   have HC1 : Hid ((wr.alloc (.cells #[.int .i64 s.sh, .slice s.ia s.ids.length s.ic] 82)).cell? ⟨wr.heap.size, 1, none⟩ = some (.slice s.ia s.ids.length s.ic)) := by
    show _ = _
    simp only [World.cell?, hob]
    rfl
   have HPA : Hid (S2.PenAt (wr.alloc (.cells #[.int .i64 s.sh, .slice s.ia s.ids.length s.ic] 82)) b r' G) := hI (HP.out.before (S2.kAlloc (S2.Keeps.refl (fun _ => False) wr) _))
   have HPX : Hid (¬ S2.PenS b r' wr.heap.size) := HP.out.apart (Nat.le_refl _)
   have HSA : Hid (S2.PenStep b r r' w (wr.alloc (.cells #[.int .i64 s.sh, .slice s.ia s.ids.length s.ic] 82))) := hI ⟨S2.kAlloc HST.out.keeps _, HST.out.row⟩
   clear hob
   go_wp2_with fail
   go_region_held3 (fun Y => Y.cell? ⟨wr.heap.size, 0, none⟩ = some (.int .i64 s.sh))
    (first | exact b0 | exact HC0.out | exact S2.alloc_cell HC0.out _)
    (first | (go_at_call 68; go_must (refine (S2.int_any _ b r' G (wr.heap.size + 1) _ 1 [s.sh] (HPA.out.before (S2.kDrew (S2.kAlloc (S2.Keeps.refl _ _) _))) (S2.one_new (wr.alloc (.cells #[.int .i64 s.sh, .slice s.ia s.ids.length s.ic] 82)) _ _ (by simp) _ rfl) (HPA.out.apart (by simp)) HL1.out).mono ?_; rw [i8_one]; rintro e w5 ⟨rfl, r5, hp5, hs5⟩; have HP5 := hI hp5; have hs6 := hs5.before (w := (wr.alloc (.cells #[.int .i64 s.sh, .slice s.ia s.ids.length s.ic] 82))) (S2.kDrew (S2.kAlloc (S2.Keeps.refl _ _) _)); have HS5 := hI (HSA.out.trans hs6); have b0 := hs6.keeps.cell HPX.out HC0.out; have b1 := hs6.keeps.cell HPX.out HC1.out; have HPY := hI (hs6.free HPX.out (by simp)); have hsz5 : wr.heap.size < w5.heap.size := Nat.lt_of_lt_of_le (by simp) hs6.keeps.size; clear hp5 hs5 hs6)))
   have hpb5 := pen_below (B := w0.heap.size) HS5.out HB0.out.size HBB.out HR0.out
   have HB5 : Hid (Below w0.heap.size w0 w5) := hI (HB0.out.trans hpb5.1)
   have HR5 := hI hpb5.2
   clear hpb5
   go_wp2_with fail
   go_region_held3 (fun Y => Y.cell? ⟨wr.heap.size, 1, none⟩ = some (.slice s.ia s.ids.length s.ic))
    (first | exact e1 | exact b1)
    (first | (go_at_call 148; go_must (obtain ⟨q, hq1, hq2, hq3⟩ := sl_pen (w := w5.drew) HSI.out HB5.out.drew HBB.out HR5.out wr.heap.size hsz5 HPY.out; refine (S2.stamps_any _ b r5 _ q _ _ s.ids (HP5.out.before (S2.kDrew (S2.Keeps.refl _ _))) hq1 hq2 hq3 HL2.out).mono ?_; rintro e w7 ⟨rfl, r7, hp7, hs7⟩; have HP7 := hI hp7; have hs8 := hs7.before (w := w5) (S2.kDrew (S2.Keeps.refl _ _)); have HS7 := hI (HS5.out.trans hs8); have e1 := hs8.keeps.cell HPY.out b1; clear hp7 hs7 hs8)))
   go_wp2
   go_roundw
   case rel =>
    refine ⟨k + 1, r7, hlt, by go_num, ?_, HS7.out⟩
    have h := HP7.out
    rw [HFT.out, ← List.append_assoc, HGE.out, ← List.append_assoc]
    exact h
   case measure => simp [RowKit.intOf]; omega
  ·have hge : ¬ (k : Int) < (l.length : Int) := by omega
   have hdk : decide ((k : Int) < (l.length : Int)) = false := decide_eq_false hge
   have HT : Hid (B ++ S2.i8 l.length ++ layF ((toD l).take k) = B ++ layD (toD l)) := by
    show _ = _
    rw [List.take_of_length_le (by rw [toD_length]; omega), List.append_assoc]
    unfold layD
    rw [toD_length]
   rw [HT.out] at HP
   go_wp2
   go_end0
   exact ⟨rfl, r', HP.out, HST.out⟩
end SD
end Go.Proofs.YtgipkikedacmdaaGreat

namespace Go.Proofs.YtgipkikedacmdaaGreat
namespace S2
open Go.RowKit
structure Aft (w : World) where
 x : World
 h : Below w.heap.size w x
instance Aft.some (w : World) : Nonempty (Aft w) := ⟨⟨w, Below.refl _ _⟩⟩
theorem Aft.cell {w : World} (y : Aft w) (n i : Nat) (hn : n < w.heap.size) : y.x.cell? ⟨n, i, none⟩ = w.cell? ⟨n, i, none⟩ := y.h.cell (p := ⟨n, i, none⟩) hn
theorem Aft.frozen {w : World} (y : Aft w) (n i : Nat) (hn : n < w.heap.size) : y.x.frozen? ⟨n, i, none⟩ = w.frozen? ⟨n, i, none⟩ := y.h.frozen (p := ⟨n, i, none⟩) hn
theorem Aft.lt {w : World} (y : Aft w) (n : Nat) (hn : n < w.heap.size) : n < y.x.heap.size := Nat.lt_of_lt_of_le hn y.h.size
attribute [go_sem] Aft.cell Aft.frozen
theorem region_aft {P : Program} {id : Nat} {Q : Exit → Act → World → Prop} {a : Act} {w : World} {l : List Oper} (hm : P.follows .mixedOrders = true) (hB : Region.lexB .any l.toArray = true)
  (h : wpQuiet P l.toArray (fun w' => ∃ y : Aft w, w' = y.x) (fun a' => ∀ w', (∃ y : Aft w, w' = y.x) → Q .normal a' w') l a) : (Code.region id l.toArray true).wp P Q a w :=
 wp_region_quiet (C := fun w' => ∃ y : Aft w, w' = y.x) hm hB ⟨⟨{ w with drawn := w.drawn + 1 }, ⟨rfl, rfl, rfl, Nat.le_refl _, fun _ _ => rfl⟩⟩, rfl⟩ (by simpa using h)
theorem aft_of {P : Program} {f : FuncId} {args : Array Value} {w : World} {y : Aft w} {v : Value} (h : Calls P f args y.x fun e w' => e = .returned v ∧ Below y.x.heap.size y.x w') :
  Calls P f args y.x fun e w'' => e = .returned v ∧ ∃ z : Aft w, w'' = z.x :=
 h.mono fun _ w'' ⟨he, hb⟩ => ⟨he, ⟨w'', y.h.trans (hb.mono y.h.size)⟩, rfl⟩
theorem aft_same {P : Program} {f : FuncId} {args : Array Value} {w : World} {y : Aft w} {v : Value} (h : Calls P f args y.x fun e w' => e = .returned v ∧ y.x = w') :
  Calls P f args y.x fun e w'' => e = .returned v ∧ ∃ z : Aft w, w'' = z.x :=
 h.mono fun _ _ ⟨he, hw⟩ => ⟨he, y, hw.symm⟩
end S2
end Go.Proofs.YtgipkikedacmdaaGreat

namespace Go.Proofs.YtgipkikedacmdaaGreat
namespace S2
open Go.ChangeShapes Go.WideShapes Go.ChangeAt Go.RowKit Go.Joins Go.Deep
def wt (x : Th) : Nat := x.s.size + 16 * x.l.length
theorem ThAt.later {w w' : World} {g o : Nat} {x : Th} (h : ThAt w g o x) (hb : Below w.heap.size w w') (hg : g < w.heap.size) : ThAt w' g o x :=
 ⟨(hb.cell (p := ⟨g, o, none⟩) hg).trans h.k, (hb.cell (p := ⟨g, o + 1, none⟩) hg).trans h.n, (hb.cell (p := ⟨g, o + 2, none⟩) hg).trans h.s, (hb.cell (p := ⟨g, o + 3, none⟩) hg).trans h.b,
  (hb.cell (p := ⟨g, o + 4, none⟩) hg).trans h.t1, (hb.cell (p := ⟨g, o + 5, none⟩) hg).trans h.t2, (hb.cell (p := ⟨g, o + 6, none⟩) hg).trans h.l⟩

structure Lay (w : World) (S : Nat) (rp rb : Option Nat) (v : Value) (L : List UInt8) : Prop where
 pen : PenAt w S rp L
 row : Row w rb v L
 pr : ∀ k, rp = some k → S < k
 br : ∀ k, rb = some k → S < k
 ap : ∀ k, rp = some k → rb ≠ some k
theorem Lay.before {w x : World} {S : Nat} {rp rb : Option Nat} {v : Value} {L : List UInt8} (h : Lay w S rp rb v L) (k : Keeps (fun _ => False) w x) : Lay x S rp rb v L :=
 ⟨h.pen.before k, h.row.before k, h.pr, h.br, h.ap⟩
structure Mid (w : World) (S : Nat) (rp rb : Option Nat) (v : Value) (L M : List UInt8) : Prop where
 pen : PenAt w S rp M
 row : Row w rb v L
 pr : ∀ k, rp = some k → S < k
 br : ∀ k, rb = some k → S < k
 ap : ∀ k, rp = some k → rb ≠ some k
theorem Mid.lay {w w3 : World} {S : Nat} {rp rb rb' : Option Nat} {v v' : Value} {L M : List UInt8} (h : Mid w S rp rb v L M) (hr : Row w3 rb' v' M) (hs : RowStep rb rb' w w3) : Lay w3 S rp rb' v' M := by
 have hS := h.pen.lt
 refine ⟨h.pen.keep hs.keeps (fun e => by have := h.br _ e; omega) (fun x hx e => h.ap x hx e), hr, h.pr, fun k hk => ?_, fun k hk hb => ?_⟩
 ·rcases hs.row with e | e
  ·exact h.br k (by rw [← e]; exact hk)
  ·have := e k hk; omega
 ·rcases hs.row with e | e
  ·exact h.ap k hk (by rw [← e]; exact hb)
  ·have h1 := e k hb
   have h2 := h.pen.rowLt hk
   omega
theorem SL.cells {w : World} {g : Nat} {b : Addr} {l : List (Int × Int)} (h : SL w g (some b) l) : ∀ (j : Nat) (u : Value), (cellsL l)[j]? = some u → w.cell? (b.add j) = some u := by
 intro j u hj
 have hlt : j < l.length * 2 := by
  have := (List.getElem?_eq_some_iff.1 hj).1
  rwa [cellsL_length] at this
 obtain ⟨⟨x, y⟩, hxy⟩ := get_lt (l := l) (j := j / 2) (by omega)
 obtain ⟨o, hb, hc⟩ := h (not_nil (j := j / 2) (by omega))
 simp only [Option.some.injEq] at hb
 subst hb
 obtain ⟨c1, c2⟩ := cellsL_at l (j / 2) x y hxy
 obtain ⟨h1, h2⟩ := hc (j / 2) x y hxy
 rw [Go.WideShapes.add_plain]
 rcases Nat.mod_two_eq_zero_or_one j with hm | hm
 ·have e : j / 2 * 2 = j := by omega
  rw [e] at c1 h1
  rw [h1, ← c1, hj]
 ·have e : j / 2 * 2 + 1 = j := by omega
  rw [e] at c2
  rw [show o + j / 2 * 2 + 1 = o + j by omega] at h2
  rw [h2, ← c2, hj]
theorem SL.later {w x : World} {g : Nat} {a : Option Addr} {l : List (Int × Int)} (h : SL w g a l) (hg : l ≠ [] → g < w.heap.size) (hb : Below w.heap.size w x) : SL x g a l := by
 intro hne
 exact h.keep (ofB (S := fun k => w.heap.size ≤ k) hb) (fun e => by have := hg hne; omega) hne
theorem SL.low {w x : World} {g : Nat} {a : Option Addr} {l : List (Int × Int)} (h : SL w g a l) (hg : l ≠ [] → g < w.heap.size) (hb : Below w.heap.size w x) : ∃ g', SL x g' a l ∧ g' ≤ w.heap.size := by
 by_cases hne : l = []
 ·subst hne; exact ⟨0, fun h => absurd rfl h, Nat.zero_le _⟩
 ·exact ⟨g, h.later hg hb, Nat.le_of_lt (hg hne)⟩
end S2
end Go.Proofs.YtgipkikedacmdaaGreat

namespace Go.Proofs.YtgipkikedacmdaaGreat
namespace S2
open Go.RowKit
theorem leN_low (n k : Nat) : leN (low n k) = n % 2 ^ (8 * k) := by
 induction k with
 | zero => rw [low_zero]; simp [leN, Nat.mod_one]
 | succ k ih =>
  rw [low_succ, leN_snoc, ih, low_length]
  have e : 2 ^ (8 * (k + 1)) = 2 ^ (8 * k) * 256 := by rw [Nat.mul_add, Nat.pow_add]
  have e2 : (UInt8.ofNat (n >>> (8 * k))).toNat = n / 2 ^ (8 * k) % 256 := by rw [Nat.shiftRight_eq_div_pow]; simp
  rw [e, e2, Nat.mod_mul, Nat.mul_comm (2 ^ (8 * k))]
theorem wrap_back (n : Int) (h1 : -9223372036854775808 ≤ n) (h2 : n ≤ 9223372036854775807) : wrap64 ((IntKind.u64.wrap n).toNat : Int) = n := by
 have e : IntKind.u64.wrap n = n % 18446744073709551616 := rfl
 rw [e]
 unfold wrap64
 omega
theorem wf_i64 {n : Int} (h : (Lit.int .i64 n).wf = true) : -9223372036854775808 ≤ n ∧ n ≤ 9223372036854775807 := by
 simp only [Lit.wf, Bool.and_eq_true, decide_eq_true_eq] at h
 have e1 : IntKind.i64.min = -9223372036854775808 := rfl
 have e2 : IntKind.i64.max = 9223372036854775807 := rfl
 rw [e1, e2] at h
 exact h
theorem u64_lt (n : Int) : (IntKind.u64.wrap n).toNat < 18446744073709551616 := by
 have e : IntKind.u64.wrap n = n % 18446744073709551616 := rfl
 rw [e]
 omega
theorem take_app {α : Type} (a b : List α) (n : Nat) (h : a.length = n) : (a ++ b).take n = a := by subst h; exact List.take_left
theorem drop_app {α : Type} (a b : List α) (n : Nat) (h : a.length = n) : (a ++ b).drop n = b := by subst h; exact List.drop_left
theorem rd_i8 (n : Int) (h : (Lit.int .i64 n).wf = true) (r : List UInt8) : rd (i8 n ++ r) = n := by
 obtain ⟨h1, h2⟩ := wf_i64 h
 unfold rd
 rw [take_app _ _ 8 (i8_length n)]
 unfold i8
 rw [leN_low, Nat.mod_eq_of_lt (u64_lt n)]
 exact wrap_back n h1 h2
theorem read_i (n : Int) (h : (Lit.int .i64 n).wf = true) (r : List UInt8) : okI (i8 n ++ r) false = true ∧ valI (i8 n ++ r) false = n ∧ behind true 8 (i8 n ++ r) = r := by
 have hok : okI (i8 n ++ r) false = true := by
  have := i8_length n
  simp [okI, this]
 exact ⟨hok, by unfold valI; rw [if_pos hok]; exact rd_i8 n h r, by rw [behind_yes]; exact drop_app _ _ 8 (i8_length n)⟩
theorem tx_take (s : ByteArray) (hs : s.size ≤ 1048576) (r : List UInt8) : leN ((tx s ++ r).take 4) = s.size := by
 have e : tx s ++ r = low s.size 4 ++ (s.data.toList ++ r) := by unfold tx; rw [List.append_assoc]
 rw [e, take_app _ _ 4 (low_length _ _), leN_low]
 exact Nat.mod_eq_of_lt (by omega)
theorem read_t (s : ByteArray) (hs : s.size ≤ 1048576) (r : List UInt8) : okT (tx s ++ r) false = true ∧ valT (tx s ++ r) false = s ∧ behind true (4 + leN ((tx s ++ r).take 4)) (tx s ++ r) = r := by
 have h1 := tx_take s hs r
 have hl := tx_length s
 have hok : okT (tx s ++ r) false = true := by
  unfold okT
  rw [h1]
  simp only [Bool.not_false, Bool.true_and, decide_eq_true_eq, List.length_drop, List.length_append]
  omega
 refine ⟨hok, ?_, ?_⟩
 ·unfold valT
  rw [if_pos hok]
  unfold atT
  rw [h1]
  have e : tx s ++ r = low s.size 4 ++ (s.data.toList ++ r) := by unfold tx; rw [List.append_assoc]
  rw [e, drop_app _ _ 4 (low_length _ _), take_app _ _ _ (ba_len s)]
 ·rw [behind_yes, h1]
  exact drop_app _ _ _ hl
theorem read_b (b : Bool) (r : List UInt8) : okB (tb b ++ r) false = true ∧ valB (tb b ++ r) false = b ∧ behind true 1 (tb b ++ r) = r := by
 cases b
 ·exact ⟨by simp [okB, tb, low, leN], by simp [valB, okB, tb, low, leN], by rw [behind_yes]; rfl⟩
 ·exact ⟨by simp [okB, tb, low, leN], by simp [valB, okB, tb, low, leN], by rw [behind_yes]; rfl⟩
theorem rdS_st (t : Int × Int) (h1 : (Lit.int .i64 t.1).wf = true) (h2 : (Lit.int .i64 t.2).wf = true) (r : List UInt8) : rdS (st t ++ r) = t := by
 unfold rdS st
 rw [List.append_assoc, rd_i8 _ h1, drop_app _ _ 8 (i8_length _), rd_i8 _ h2]
theorem read_s (t : Int × Int) (h1 : (Lit.int .i64 t.1).wf = true) (h2 : (Lit.int .i64 t.2).wf = true) (r : List UInt8) : okS (st t ++ r) false = true ∧ valS (st t ++ r) false = t ∧ behind true 16 (st t ++ r) = r := by
 have hl := st_length t
 have hok : okS (st t ++ r) false = true := by simp [okS, hl]
 exact ⟨hok, by unfold valS; rw [if_pos hok]; exact rdS_st t h1 h2 r, by rw [behind_yes]; exact drop_app _ _ _ hl⟩
theorem rdL_at (l : List (Int × Int)) (h : ∀ s ∈ l, (Lit.int .i64 s.1).wf = true ∧ (Lit.int .i64 s.2).wf = true) (p r : List UInt8) (hp : p.length = 8) : rdL (p ++ (l.flatMap st ++ r)) l.length = l := by
 apply List.ext_getElem?
 intro j
 by_cases hj : j < l.length
 ·have e1 : (rdL (p ++ (l.flatMap st ++ r)) l.length)[j]? = some (rdS ((p ++ (l.flatMap st ++ r)).drop (8 + 16 * j))) := by simp [rdL, hj]
  have e2 : l.flatMap st = (l.take j).flatMap st ++ (st l[j] ++ (l.drop (j + 1)).flatMap st) := by
   rw [← List.flatMap_cons, ← List.flatMap_append, List.getElem_cons_drop, List.take_append_drop]
  have e3 : ((l.take j).flatMap st).length = 16 * j := by rw [flat_length st 16 st_length, List.length_take]; congr 1; omega
  rw [e1, ← List.drop_drop, drop_app _ _ 8 hp, e2, List.append_assoc, drop_app _ _ _ e3, List.append_assoc]
  obtain ⟨w1, w2⟩ := h l[j] (List.getElem_mem hj)
  rw [rdS_st _ w1 w2, List.getElem?_eq_getElem hj]
 ·rw [List.getElem?_eq_none (by rw [rdL_length]; omega), List.getElem?_eq_none (by omega)]
theorem len_wf {n : Nat} (h : n ≤ 1250) : (Lit.int .i64 (n : Int)).wf = true := by
 simp only [Lit.wf, Bool.and_eq_true, decide_eq_true_eq]
 have e1 : IntKind.i64.min = -9223372036854775808 := rfl
 have e2 : IntKind.i64.max = 9223372036854775807 := rfl
 rw [e1, e2]
 omega
theorem rd_sts (l : List (Int × Int)) (hl : l.length ≤ 1250) (r : List UInt8) : rd (sts l ++ r) = l.length := by
 unfold sts
 rw [List.append_assoc]
 exact rd_i8 _ (len_wf hl) _
theorem read_l (l : List (Int × Int)) (h : ∀ s ∈ l, (Lit.int .i64 s.1).wf = true ∧ (Lit.int .i64 s.2).wf = true) (hl : l.length ≤ 1250) (r : List UInt8) :
  okL (sts l ++ r) false = true ∧ valL (sts l ++ r) false = l ∧ behind true (8 + 16 * (rd (sts l ++ r)).toNat) (sts l ++ r) = r := by
 have h1 := rd_sts l hl r
 have h2 := sts_len l
 have hok : okL (sts l ++ r) false = true := by
  have hh : hasL (sts l ++ r) := by
   unfold hasL
   rw [h1]
   simp only [List.length_append, Int.toNat_natCast]
   omega
  simp [okL, hh]
 refine ⟨hok, ?_, ?_⟩
 ·unfold valL
  rw [if_pos hok, h1, Int.toNat_natCast]
  unfold sts
  rw [List.append_assoc]
  exact rdL_at l h _ r (i8_length _)
 ·rw [behind_yes, h1, Int.toNat_natCast]
  exact drop_app _ _ _ h2
end S2
end Go.Proofs.YtgipkikedacmdaaGreat

namespace Go.Proofs.YtgipkikedacmdaaGreat
namespace S2
open Go.RowKit Go.Deep
def Cut (r : List UInt8) (bl : Bool) (R : List UInt8) : Prop := bl = true ∨ ∃ t, t ≠ [] ∧ r ++ t = R
theorem Cut.blind {r : List UInt8} {R : List UInt8} : Cut r true R := .inl rfl
theorem behind_len (ok : Bool) (k : Nat) (l : List UInt8) : (behind ok k l).length ≤ l.length := by
 cases ok
 ·rw [behind_no]; exact Nat.le_refl _
 ·rw [behind_yes, List.length_drop]; omega
end S2
end Go.Proofs.YtgipkikedacmdaaGreat

namespace Go.Proofs.YtgipkikedacmdaaGreat
open S1
namespace SD
open Go.RowKit
theorem low_cons (n k : Nat) : S2.low n (k + 1) = UInt8.ofNat n :: S2.low (n / 256) k := by
 unfold S2.low
 rw [List.range_succ_eq_map, List.map_cons, List.map_map]
 congr 1
 refine List.map_congr_left fun i _ => ?_
 show UInt8.ofNat (n >>> (8 * (i + 1))) = UInt8.ofNat ((n / 256) >>> (8 * i))
 congr 1
 rw [Nat.mul_add, Nat.add_comm (8 * i), Nat.shiftRight_add, Nat.shiftRight_eq_div_pow n (8 * 1)]
theorem low_leN : ∀ l : List UInt8, S2.low (S2.leN l) l.length = l := by
 intro l
 induction l with
 | nil => rfl
 | cons x r ih =>
  rw [List.length_cons, low_cons]
  have hx : x.toNat < 256 := x.toNat_lt
  have e1 : S2.leN (x :: r) = x.toNat + 256 * S2.leN r := rfl
  have e2 : (x.toNat + 256 * S2.leN r) / 256 = S2.leN r := by omega
  rw [e1, e2, ih]
  congr 1
  have e3 : UInt8.ofNat (x.toNat + 256 * S2.leN r) = UInt8.ofNat x.toNat := by
   apply UInt8.toNat_inj.1
   simp only [UInt8.toNat_ofNat']
   omega
  rw [e3]
  simp
theorem wrap_same (N : Nat) (h : N < 2 ^ 64) : (IntKind.u64.wrap (wrap64 (N : Int))).toNat = N := by
 have e : ∀ n : Int, IntKind.u64.wrap n = n % 18446744073709551616 := fun _ => rfl
 rw [e]
 unfold wrap64
 omega
theorem i8_rd (r : List UInt8) (h : 8 ≤ r.length) : S2.i8 (S2.rd r) = r.take 8 := by
 have hl : (r.take 8).length = 8 := by rw [List.length_take]; omega
 have hlt := S2.leN_lt (r.take 8)
 rw [hl] at hlt
 unfold S2.i8 S2.rd
 rw [wrap_same _ hlt]
 have := low_leN (r.take 8)
 rwa [hl] at this
theorem inv_i {r : List UInt8} (h : 8 ≤ r.length) : S2.i8 (S2.rd r) ++ r.drop 8 = r := by
 rw [i8_rd r h, List.take_append_drop]
theorem st_rdS {r : List UInt8} (h : 16 ≤ r.length) : S2.st (S2.rdS r) = r.take 16 := by
 unfold S2.st S2.rdS
 rw [i8_rd r (by omega), i8_rd (r.drop 8) (by rw [List.length_drop]; omega)]
 rw [← List.take_add]
theorem flat_rdL (r : List UInt8) : ∀ n, 8 + 16 * n ≤ r.length → (S2.rdL r n).flatMap S2.st = (r.drop 8).take (16 * n) := by
 intro n
 induction n with
 | zero => intro _; simp [S2.rdL]
 | succ n ih =>
  intro h
  rw [S2.rdL_succ, List.flatMap_append, ih (by omega)]
  simp only [List.flatMap_cons, List.flatMap_nil, List.append_nil]
  rw [st_rdS (by rw [List.length_drop]; omega)]
  have e : r.drop (8 + 16 * n) = (r.drop 8).drop (16 * n) := by rw [List.drop_drop]
  rw [e, show 16 * (n + 1) = 16 * n + 16 by omega, List.take_add]
theorem inv_l {r : List UInt8} (h : S2.hasL r) : S2.sts (S2.rdL r (S2.rd r).toNat) ++ r.drop (8 + 16 * (S2.rd r).toNat) = r := by
 obtain ⟨h1, h2, h3⟩ := h
 unfold S2.sts
 rw [S2.rdL_length, Int.toNat_of_nonneg h2, flat_rdL r _ (by omega), i8_rd r h1]
 rw [← List.take_add, List.take_append_drop]
def r1 (r : List UInt8) (bl : Bool) : List UInt8 := S2.behind (S2.okI r bl) 8 r
def one1 (r : List UInt8) (bl : Bool) : Int × List (Int × Int) := (S2.valI r bl, S2.valL (r1 r bl) (!S2.okI r bl))
def rest1 (r : List UInt8) (bl : Bool) : List UInt8 := S2.behind (S2.okL (r1 r bl) (!S2.okI r bl)) (8 + 16 * (S2.rd (r1 r bl)).toNat) (r1 r bl)
def dim1 (r : List UInt8) (bl : Bool) : Bool := !S2.okL (r1 r bl) (!S2.okI r bl)
def manyD : Nat → List UInt8 → Bool → Dd × List UInt8 × Bool
 | 0, r, bl => ([], r, bl)
 | n + 1, r, bl => ((manyD n r bl).1 ++ [one1 (manyD n r bl).2.1 (manyD n r bl).2.2], rest1 (manyD n r bl).2.1 (manyD n r bl).2.2, dim1 (manyD n r bl).2.1 (manyD n r bl).2.2)
theorem behind_ok {ok : Bool} (h : ok = true) (k : Nat) (l : List UInt8) : S2.behind ok k l = l.drop k := by
 subst h
 exact S2.behind_yes k l
theorem valI_yes {r : List UInt8} {bl : Bool} (h : S2.okI r bl = true) : S2.valI r bl = S2.rd r := by unfold S2.valI; rw [if_pos h]
theorem valL_yes {r : List UInt8} {bl : Bool} (h : S2.okL r bl = true) : S2.valL r bl = S2.rdL r (S2.rd r).toNat := by unfold S2.valL; rw [if_pos h]
theorem behind_len (ok : Bool) (k : Nat) (l : List UInt8) : (S2.behind ok k l).length ≤ l.length := by
 unfold S2.behind
 split
 ·rw [List.length_drop]; omega
 ·exact Nat.le_refl _
theorem r1_len (r : List UInt8) (bl : Bool) : (r1 r bl).length ≤ r.length := behind_len _ _ _
theorem rest1_len (r : List UInt8) (bl : Bool) : (rest1 r bl).length ≤ r.length := Nat.le_trans (behind_len _ _ _) (r1_len r bl)
theorem valL_len (r : List UInt8) (bl : Bool) : (S2.valL r bl).length ≤ r.length := by
 unfold S2.valL
 split
 ·rename_i h
  rw [S2.rdL_length]
  unfold S2.okL at h
  simp only [Bool.and_eq_true, decide_eq_true_eq] at h
  obtain ⟨_, _, _, h3⟩ := h
  omega
 ·exact Nat.zero_le _
theorem many_len (n : Nat) (r : List UInt8) (bl : Bool) : (manyD n r bl).1.length = n ∧ (manyD n r bl).2.1.length ≤ r.length ∧ ∀ x ∈ (manyD n r bl).1, x.2.length ≤ r.length := by
 induction n with
 | zero => exact ⟨rfl, Nat.le_refl _, fun x hx => by cases hx⟩
 | succ n ih =>
  obtain ⟨h1, h2, h3⟩ := ih
  refine ⟨?_, Nat.le_trans (rest1_len _ _) h2, fun x hx => ?_⟩
  ·show ((manyD n r bl).1 ++ [_]).length = _
   rw [List.length_append, h1]
   rfl
  ·rcases List.mem_append.1 hx with hx | hx
   ·exact h3 x hx
   ·rw [List.mem_singleton] at hx
    subst hx
    exact Nat.le_trans (Nat.le_trans (valL_len _ _) (r1_len _ _)) h2
theorem one_inv {r : List UInt8} {bl : Bool} (h : dim1 r bl = false) : bl = false ∧ lay1 (one1 r bl) ++ rest1 r bl = r := by
 unfold dim1 at h
 simp only [Bool.not_eq_false'] at h
 have h2 := h
 unfold S2.okL at h2
 simp only [Bool.and_eq_true, decide_eq_true_eq, Bool.not_not] at h2
 obtain ⟨hi, hl⟩ := h2
 have hi2 := hi
 unfold S2.okI at hi2
 simp only [Bool.and_eq_true, decide_eq_true_eq, Bool.not_eq_true'] at hi2
 obtain ⟨hb, h8⟩ := hi2
 refine ⟨hb, ?_⟩
 have e1 : r1 r bl = r.drop 8 := behind_ok hi 8 r
 have e2 : rest1 r bl = (r.drop 8).drop (8 + 16 * (S2.rd (r.drop 8)).toNat) := (behind_ok h _ _).trans (by rw [e1])
 have e3 : one1 r bl = (S2.rd r, S2.rdL (r.drop 8) (S2.rd (r.drop 8)).toNat) := by
  unfold one1
  rw [valI_yes hi, valL_yes h, e1]
 rw [e2, e3]
 unfold lay1
 rw [e1] at hl
 rw [List.append_assoc, inv_l hl, inv_i h8]
theorem many_inv (n : Nat) (r : List UInt8) (bl : Bool) (h : (manyD n r bl).2.2 = false) : bl = false ∧ layF (manyD n r bl).1 ++ (manyD n r bl).2.1 = r := by
 induction n with
 | zero => exact ⟨h, by simp [manyD, layF]⟩
 | succ n ih =>
  obtain ⟨h1, h2⟩ := one_inv (r := (manyD n r bl).2.1) (bl := (manyD n r bl).2.2) h
  obtain ⟨h3, h4⟩ := ih h1
  refine ⟨h3, ?_⟩
  have e : layF (manyD (n + 1) r bl).1 = layF (manyD n r bl).1 ++ lay1 (one1 (manyD n r bl).2.1 (manyD n r bl).2.2) := by
   show layF ((manyD n r bl).1 ++ [_]) = _
   unfold layF
   rw [List.flatMap_append]
   simp
  rw [e, List.append_assoc]
  show _ ++ (lay1 _ ++ rest1 _ _) = _
  rw [h2, h4]
theorem one_front {x : Int × List (Int × Int)} (h1 : (Lit.int .i64 x.1).wf = true) (h2 : ∀ s ∈ x.2, (Lit.int .i64 s.1).wf = true ∧ (Lit.int .i64 s.2).wf = true) (h3 : x.2.length ≤ 1250) (R : List UInt8) :
  one1 (lay1 x ++ R) false = x ∧ rest1 (lay1 x ++ R) false = R ∧ dim1 (lay1 x ++ R) false = false := by
 have ea : lay1 x ++ R = S2.i8 x.1 ++ (S2.sts x.2 ++ R) := by unfold lay1; rw [List.append_assoc]
 obtain ⟨a1, a2, a3⟩ := S2.read_i x.1 h1 (S2.sts x.2 ++ R)
 obtain ⟨b1, b2, b3⟩ := S2.read_l x.2 h2 h3 R
 have e1 : r1 (lay1 x ++ R) false = S2.sts x.2 ++ R := by unfold r1; rw [ea, a1]; exact a3
 refine ⟨?_, ?_, ?_⟩
 ·unfold one1
  rw [e1, ea, a1, a2]
  show (x.1, S2.valL _ false) = x
  rw [b2]
 ·unfold rest1
  rw [e1, ea, a1]
  show S2.behind (S2.okL _ false) _ _ = R
  rw [b1]
  exact b3
 ·unfold dim1
  rw [e1, ea, a1]
  show (!S2.okL _ false) = false
  rw [b1]
  rfl
theorem many_cons (n : Nat) (r : List UInt8) (bl : Bool) : manyD (n + 1) r bl = (one1 r bl :: (manyD n (rest1 r bl) (dim1 r bl)).1, (manyD n (rest1 r bl) (dim1 r bl)).2) := by
 induction n with
 | zero => rfl
 | succ n ih =>
  show (((manyD (n + 1) r bl).1 ++ [one1 (manyD (n + 1) r bl).2.1 (manyD (n + 1) r bl).2.2], rest1 (manyD (n + 1) r bl).2.1 (manyD (n + 1) r bl).2.2, dim1 (manyD (n + 1) r bl).2.1 (manyD (n + 1) r bl).2.2) : Dd × List UInt8 × Bool) = _
  rw [ih]
  rfl
theorem many_front : ∀ {d : Dd}, (∀ x ∈ d, (Lit.int .i64 x.1).wf = true ∧ (∀ s ∈ x.2, (Lit.int .i64 s.1).wf = true ∧ (Lit.int .i64 s.2).wf = true) ∧ x.2.length ≤ 1250) → ∀ R, manyD d.length (layF d ++ R) false = (d, R, false) := by
 intro d
 induction d with
 | nil => intro _ R; simp [manyD, layF]
 | cons x r ih =>
  intro h R
  obtain ⟨h1, h2, h3⟩ := h x (by simp)
  have e : layF (x :: r) ++ R = lay1 x ++ (layF r ++ R) := by unfold layF; rw [List.flatMap_cons, List.append_assoc]
  obtain ⟨a1, a2, a3⟩ := one_front h1 h2 h3 (layF r ++ R)
  rw [List.length_cons, many_cons, e, a1, a2, a3, ih (fun y hy => h y (by simp [hy])) R]
end SD
end Go.Proofs.YtgipkikedacmdaaGreat

namespace Go.Proofs.YtgipkikedacmdaaGreat
namespace SP
open Go.RowKit
theorem low_cons (n k : Nat) : S2.low n (k + 1) = UInt8.ofNat n :: S2.low (n / 256) k := by
 unfold S2.low
 rw [List.range_succ_eq_map, List.map_cons, List.map_map]
 congr 1
 refine List.map_congr_left fun i _ => ?_
 show UInt8.ofNat (n >>> (8 * (i + 1))) = UInt8.ofNat ((n / 256) >>> (8 * i))
 congr 1
 rw [Nat.mul_add, Nat.add_comm (8 * i), Nat.shiftRight_add, Nat.shiftRight_eq_div_pow n (8 * 1)]
theorem low_leN : ∀ l : List UInt8, S2.low (S2.leN l) l.length = l := by
 intro l
 induction l with
 | nil => rfl
 | cons x r ih =>
  rw [List.length_cons, low_cons]
  have hx : x.toNat < 256 := x.toNat_lt
  have e1 : S2.leN (x :: r) = x.toNat + 256 * S2.leN r := rfl
  have e2 : (x.toNat + 256 * S2.leN r) / 256 = S2.leN r := by omega
  rw [e1, e2, ih]
  congr 1
  have e3 : UInt8.ofNat (x.toNat + 256 * S2.leN r) = UInt8.ofNat x.toNat := by
   apply UInt8.toNat_inj.1
   simp only [UInt8.toNat_ofNat']
   omega
  rw [e3]
  simp
theorem low_take {l : List UInt8} {k : Nat} (h : k ≤ l.length) : S2.low (S2.leN (l.take k)) k = l.take k := by
 have e := low_leN (l.take k)
 have hl : (l.take k).length = k := by rw [List.length_take]; omega
 rwa [hl] at e
theorem wrapU (n : Int) : IntKind.u64.wrap n = n % 18446744073709551616 := rfl
theorem wrap_same (N : Nat) (h : N < 2 ^ 64) : (IntKind.u64.wrap (wrap64 (N : Int))).toNat = N := by
 rw [wrapU]
 unfold wrap64
 omega
theorem i8_rd (r : List UInt8) (h : 8 ≤ r.length) : S2.i8 (S2.rd r) = r.take 8 := by
 have hl : (r.take 8).length = 8 := by rw [List.length_take]; omega
 have hlt := S2.leN_lt (r.take 8)
 rw [hl] at hlt
 unfold S2.i8 S2.rd
 rw [wrap_same _ hlt]
 exact low_take h
theorem inv_i {r : List UInt8} (h : 8 ≤ r.length) : S2.i8 (S2.rd r) ++ r.drop 8 = r := by
 rw [i8_rd r h, List.take_append_drop]
theorem st_rdS {r : List UInt8} (h : 16 ≤ r.length) : S2.st (S2.rdS r) = r.take 16 := by
 unfold S2.st S2.rdS
 rw [i8_rd r (by omega), i8_rd (r.drop 8) (by rw [List.length_drop]; omega)]
 rw [← List.take_add]
theorem flat_rdL (r : List UInt8) : ∀ n, 8 + 16 * n ≤ r.length → (S2.rdL r n).flatMap S2.st = (r.drop 8).take (16 * n) := by
 intro n
 induction n with
 | zero => intro _; simp [S2.rdL]
 | succ n ih =>
  intro h
  rw [S2.rdL_succ, List.flatMap_append, ih (by omega)]
  simp only [List.flatMap_cons, List.flatMap_nil, List.append_nil]
  rw [st_rdS (by rw [List.length_drop]; omega)]
  have e : r.drop (8 + 16 * n) = (r.drop 8).drop (16 * n) := by rw [List.drop_drop]
  rw [e, show 16 * (n + 1) = 16 * n + 16 by omega, List.take_add]
theorem inv_l {r : List UInt8} (h : S2.hasL r) : S2.sts (S2.rdL r (S2.rd r).toNat) ++ r.drop (8 + 16 * (S2.rd r).toNat) = r := by
 obtain ⟨h1, h2, h3⟩ := h
 unfold S2.sts
 rw [S2.rdL_length, Int.toNat_of_nonneg h2, flat_rdL r _ (by omega), i8_rd r h1]
 rw [← List.take_add, List.take_append_drop]
def u64 (x : Int) : Nat := (IntKind.u64.wrap x).toNat
theorem u64_int (x : Int) : ((u64 x : Nat) : Int) = IntKind.u64.wrap x := by
 unfold u64
 rw [wrapU]
 have : (0 : Int) ≤ x % 18446744073709551616 := Int.emod_nonneg _ (by decide)
 omega
theorem i8_u64 (x : Int) : S2.i8 (wrap64 (u64 x : Nat)) = S2.i8 x := by
 unfold S2.i8
 congr 2
 rw [u64_int, wrapU, wrapU]
 unfold wrap64
 omega
theorem u64_wrap {n : Nat} (h : n < 18446744073709551616) : u64 (wrap64 (n : Int)) = n := wrap_same n h
theorem wrap64_wf (n : Int) : (Lit.int .i64 (wrap64 n)).wf = true := by
 simp only [Lit.wf, Bool.and_eq_true, decide_eq_true_eq]
 have e1 : IntKind.i64.min = -9223372036854775808 := rfl
 have e2 : IntKind.i64.max = 9223372036854775807 := rfl
 rw [e1, e2]
 unfold wrap64
 omega
theorem wf_len {n : Nat} (h : n ≤ 1000000) : (Lit.int .i64 (n : Int)).wf = true := by
 simp only [Lit.wf, Bool.and_eq_true, decide_eq_true_eq]
 have e1 : IntKind.i64.min = -9223372036854775808 := rfl
 have e2 : IntKind.i64.max = 9223372036854775807 := rfl
 rw [e1, e2]
 omega
abbrev Cur := List UInt8 × Bool × Bool
def bad (c : Cur) : Bool := c.2.1 || c.2.2
theorem bad_no {c : Cur} : bad c = false ↔ c.2.1 = false ∧ c.2.2 = false := by
 unfold bad
 simp
structure Cod (α : Type) where
 lay : α → List UInt8
 val : Cur → α
 fin : Cur → Cur
 good : α → Prop
structure Cod.Ok {α : Type} (k : Cod α) : Prop where
 inv : ∀ c, bad (k.fin c) = false → bad c = false ∧ k.lay (k.val c) ++ (k.fin c).1 = c.1
 front : ∀ x R, k.good x → k.val (k.lay x ++ R, false, false) = x ∧ k.fin (k.lay x ++ R, false, false) = (R, false, false)
 len : ∀ c, (k.fin c).1.length ≤ c.1.length
theorem behind_ok {ok : Bool} (h : ok = true) (k : Nat) (l : List UInt8) : S2.behind ok k l = l.drop k := by
 subst h
 exact S2.behind_yes k l
theorem behind_le (ok : Bool) (k : Nat) (l : List UInt8) : (S2.behind ok k l).length ≤ l.length := by
 unfold S2.behind
 cases ok
 ·exact Nat.le_refl _
 ·simp
def cI : Cod Int := ⟨S2.i8, fun c => S2.valI c.1 c.2.1, fun c => (S2.behind (S2.okI c.1 c.2.1) 8 c.1, !S2.okI c.1 c.2.1, c.2.2), fun x => (Lit.int .i64 x).wf = true⟩
theorem okI_yes {l : List UInt8} {b : Bool} (h : S2.okI l b = true) : b = false ∧ 8 ≤ l.length ∧ S2.valI l b = S2.rd l := by
 have h2 := h
 unfold S2.okI at h2
 simp only [Bool.and_eq_true, decide_eq_true_eq, Bool.not_eq_true'] at h2
 refine ⟨h2.1, h2.2, ?_⟩
 unfold S2.valI
 rw [if_pos h]
theorem cI_ok : cI.Ok := by
 refine ⟨fun c h => ?_, fun x R hx => ?_, fun c => behind_le _ _ _⟩
 ·obtain ⟨h1, h2⟩ := bad_no.1 h
  simp only [cI, Bool.not_eq_false'] at h1 h2
  obtain ⟨h3, h4, h5⟩ := okI_yes h1
  refine ⟨bad_no.2 ⟨h3, h2⟩, ?_⟩
  show S2.i8 (S2.valI c.1 c.2.1) ++ S2.behind (S2.okI c.1 c.2.1) 8 c.1 = c.1
  rw [h5, behind_ok h1, inv_i h4]
 ·obtain ⟨a1, a2, a3⟩ := S2.read_i x hx R
  refine ⟨a2, ?_⟩
  show (S2.behind (S2.okI (S2.i8 x ++ R) false) 8 (S2.i8 x ++ R), !S2.okI (S2.i8 x ++ R) false, false) = _
  rw [a1, a3]
  rfl
def cN : Cod Nat := ⟨fun n => S2.i8 (wrap64 (n : Int)), fun c => u64 (S2.valI c.1 c.2.1), cI.fin, fun n => n < 18446744073709551616⟩
theorem cN_ok : cN.Ok := by
 refine ⟨fun c h => ?_, fun x R hx => ?_, cI_ok.len⟩
 ·obtain ⟨h1, h2⟩ := cI_ok.inv c h
  refine ⟨h1, ?_⟩
  show S2.i8 (wrap64 (u64 (S2.valI c.1 c.2.1) : Nat)) ++ _ = _
  rw [i8_u64]
  exact h2
 ·obtain ⟨h1, h2⟩ := cI_ok.front (wrap64 (x : Int)) R (wrap64_wf _)
  refine ⟨?_, h2⟩
  have h3 : S2.valI (S2.i8 (wrap64 (x : Int)) ++ R) false = wrap64 (x : Int) := h1
  show u64 (S2.valI (S2.i8 (wrap64 (x : Int)) ++ R) false) = x
  rw [h3]
  exact u64_wrap hx
def cT : Cod ByteArray := ⟨S2.tx, fun c => S2.valT c.1 c.2.1, fun c => (S2.behind (S2.okT c.1 c.2.1) (4 + S2.leN (c.1.take 4)) c.1, !S2.okT c.1 c.2.1, c.2.2), fun s => s.size ≤ 1048576⟩
theorem inv_t {l : List UInt8} (h1 : 4 ≤ l.length) (h2 : S2.leN (l.take 4) ≤ (l.drop 4).length) : S2.tx (S2.atT l) ++ l.drop (4 + S2.leN (l.take 4)) = l := by
 have e1 : (S2.atT l).data.toList = (l.drop 4).take (S2.leN (l.take 4)) := rfl
 have e2 : (S2.atT l).size = S2.leN (l.take 4) := by
  show (S2.atT l).data.size = _
  rw [← Array.length_toList, e1, List.length_take]
  omega
 unfold S2.tx
 rw [e2, e1, low_take h1, ← List.take_add, List.take_append_drop]
theorem cT_ok : cT.Ok := by
 refine ⟨fun c h => ?_, fun x R hx => ?_, fun c => behind_le _ _ _⟩
 ·obtain ⟨h1, h2⟩ := bad_no.1 h
  simp only [cT, Bool.not_eq_false'] at h1 h2
  have h3 := h1
  unfold S2.okT at h3
  simp only [Bool.and_eq_true, decide_eq_true_eq, Bool.not_eq_true'] at h3
  obtain ⟨h4, h5, h6, h7⟩ := h3
  refine ⟨bad_no.2 ⟨h4, h2⟩, ?_⟩
  show S2.tx (S2.valT c.1 c.2.1) ++ S2.behind (S2.okT c.1 c.2.1) _ c.1 = c.1
  rw [behind_ok h1]
  unfold S2.valT
  rw [if_pos h1]
  exact inv_t h5 h7
 ·obtain ⟨a1, a2, a3⟩ := S2.read_t x hx R
  refine ⟨a2, ?_⟩
  show (S2.behind (S2.okT (S2.tx x ++ R) false) (4 + S2.leN ((S2.tx x ++ R).take 4)) (S2.tx x ++ R), !S2.okT (S2.tx x ++ R) false, false) = _
  rw [a1, a3]
  rfl
def cB : Cod Bool := ⟨S2.tb, fun c => S2.valB c.1 c.2.1, fun c => (S2.behind (S2.okB c.1 c.2.1) 1 c.1, !S2.okB c.1 c.2.1, c.2.2), fun _ => True⟩
theorem cB_ok : cB.Ok := by
 refine ⟨fun c h => ?_, fun x R hx => ?_, fun c => behind_le _ _ _⟩
 ·obtain ⟨h1, h2⟩ := bad_no.1 h
  simp only [cB, Bool.not_eq_false'] at h1 h2
  have h3 := h1
  unfold S2.okB at h3
  simp only [Bool.and_eq_true, decide_eq_true_eq, Bool.not_eq_true'] at h3
  obtain ⟨h4, h5, h6⟩ := h3
  refine ⟨bad_no.2 ⟨h4, h2⟩, ?_⟩
  show S2.tb (S2.valB c.1 c.2.1) ++ S2.behind (S2.okB c.1 c.2.1) 1 c.1 = c.1
  rw [behind_ok h1]
  have e : S2.tb (S2.valB c.1 c.2.1) = c.1.take 1 := by
   unfold S2.tb S2.valB
   rw [h1, Bool.true_and]
   have h8 := low_take h5
   by_cases h9 : S2.leN (c.1.take 1) = 1
   ·rw [h9] at h8
    rw [decide_eq_true h9]
    exact h8
   ·rw [show S2.leN (c.1.take 1) = 0 by omega] at h8
    rw [decide_eq_false h9]
    exact h8
  rw [e, List.take_append_drop]
 ·obtain ⟨a1, a2, a3⟩ := S2.read_b x R
  refine ⟨a2, ?_⟩
  show (S2.behind (S2.okB (S2.tb x ++ R) false) 1 (S2.tb x ++ R), !S2.okB (S2.tb x ++ R) false, false) = _
  rw [a1, a3]
  rfl
def cS : Cod (Int × Int) := ⟨S2.st, fun c => S2.valS c.1 c.2.1, fun c => (S2.behind (S2.okS c.1 c.2.1) 16 c.1, !S2.okS c.1 c.2.1, c.2.2), fun s => (Lit.int .i64 s.1).wf = true ∧ (Lit.int .i64 s.2).wf = true⟩
theorem cS_ok : cS.Ok := by
 refine ⟨fun c h => ?_, fun x R hx => ?_, fun c => behind_le _ _ _⟩
 ·obtain ⟨h1, h2⟩ := bad_no.1 h
  simp only [cS, Bool.not_eq_false'] at h1 h2
  have h3 := h1
  unfold S2.okS at h3
  simp only [Bool.and_eq_true, decide_eq_true_eq, Bool.not_eq_true'] at h3
  refine ⟨bad_no.2 ⟨h3.1, h2⟩, ?_⟩
  show S2.st (S2.valS c.1 c.2.1) ++ S2.behind (S2.okS c.1 c.2.1) 16 c.1 = c.1
  rw [behind_ok h1]
  unfold S2.valS
  rw [if_pos h1, st_rdS h3.2, List.take_append_drop]
 ·obtain ⟨a1, a2, a3⟩ := S2.read_s x hx.1 hx.2 R
  refine ⟨a2, ?_⟩
  show (S2.behind (S2.okS (S2.st x ++ R) false) 16 (S2.st x ++ R), !S2.okS (S2.st x ++ R) false, false) = _
  rw [a1, a3]
  rfl
def cL : Cod (List (Int × Int)) := ⟨S2.sts, fun c => S2.valL c.1 c.2.1, fun c => (S2.behind (S2.okL c.1 c.2.1) (8 + 16 * (S2.rd c.1).toNat) c.1, !S2.okL c.1 c.2.1, c.2.2), fun l => (∀ s ∈ l, (Lit.int .i64 s.1).wf = true ∧ (Lit.int .i64 s.2).wf = true) ∧ l.length ≤ 1250⟩
theorem cL_ok : cL.Ok := by
 refine ⟨fun c h => ?_, fun x R hx => ?_, fun c => behind_le _ _ _⟩
 ·obtain ⟨h1, h2⟩ := bad_no.1 h
  simp only [cL, Bool.not_eq_false'] at h1 h2
  have h3 := h1
  unfold S2.okL at h3
  simp only [Bool.and_eq_true, decide_eq_true_eq, Bool.not_eq_true'] at h3
  refine ⟨bad_no.2 ⟨h3.1, h2⟩, ?_⟩
  show S2.sts (S2.valL c.1 c.2.1) ++ S2.behind (S2.okL c.1 c.2.1) _ c.1 = c.1
  rw [behind_ok h1]
  unfold S2.valL
  rw [if_pos h1]
  exact inv_l h3.2
 ·obtain ⟨a1, a2, a3⟩ := S2.read_l x hx.1 hx.2 R
  refine ⟨a2, ?_⟩
  show (S2.behind (S2.okL (S2.sts x ++ R) false) (8 + 16 * (S2.rd (S2.sts x ++ R)).toNat) (S2.sts x ++ R), !S2.okL (S2.sts x ++ R) false, false) = _
  rw [a1, a3]
  rfl
def Cod.two {α β : Type} (a : Cod α) (b : Cod β) : Cod (α × β) := ⟨fun x => a.lay x.1 ++ b.lay x.2, fun c => (a.val c, b.val (a.fin c)), fun c => b.fin (a.fin c), fun x => a.good x.1 ∧ b.good x.2⟩
theorem Cod.two_ok {α β : Type} {a : Cod α} {b : Cod β} (ha : a.Ok) (hb : b.Ok) : (a.two b).Ok := by
 refine ⟨fun c h => ?_, fun x R hx => ?_, fun c => Nat.le_trans (hb.len _) (ha.len _)⟩
 ·obtain ⟨h1, h2⟩ := hb.inv _ h
  obtain ⟨h3, h4⟩ := ha.inv _ h1
  refine ⟨h3, ?_⟩
  show (a.lay (a.val c) ++ b.lay (b.val (a.fin c))) ++ (b.fin (a.fin c)).1 = c.1
  rw [List.append_assoc, h2, h4]
 ·obtain ⟨h1, h2⟩ := ha.front x.1 (b.lay x.2 ++ R) hx.1
  obtain ⟨h3, h4⟩ := hb.front x.2 R hx.2
  have e : (a.two b).lay x ++ R = a.lay x.1 ++ (b.lay x.2 ++ R) := by
   show (a.lay x.1 ++ b.lay x.2) ++ R = _
   rw [List.append_assoc]
  rw [e]
  refine ⟨?_, ?_⟩
  ·show (a.val _, b.val (a.fin _)) = x
   rw [h1, h2, h3]
  ·show b.fin (a.fin _) = _
   rw [h2, h4]
def many {α : Type} (k : Cod α) : Nat → Cur → List α × Cur
 | 0, c => ([], c)
 | n + 1, c => if (k.fin c).1.length = c.1.length then ([], k.fin c) else (k.val c :: (many k n (k.fin c)).1, (many k n (k.fin c)).2)
theorem many_len {α : Type} {k : Cod α} (hk : k.Ok) (n : Nat) : ∀ c, (many k n c).2.1.length + (many k n c).1.length ≤ c.1.length ∧ (many k n c).1.length ≤ n := by
 induction n with
 | zero => intro c; exact ⟨Nat.le_refl _, Nat.le_refl _⟩
 | succ n ih =>
  intro c
  have hl := hk.len c
  unfold many
  split
  ·rename_i h
   exact ⟨by simpa using hl, Nat.zero_le _⟩
  ·rename_i h
   obtain ⟨h1, h2⟩ := ih (k.fin c)
   simp only [List.length_cons]
   omega
theorem many_inv {α : Type} {k : Cod α} (hk : k.Ok) (hp : ∀ x, 1 ≤ (k.lay x).length) (n : Nat) : ∀ c, bad (many k n c).2 = false → bad c = false ∧ (many k n c).1.flatMap k.lay ++ (many k n c).2.1 = c.1 ∧ (many k n c).1.length = n := by
 induction n with
 | zero => intro c h; exact ⟨h, rfl, rfl⟩
 | succ n ih =>
  intro c
  unfold many
  split
  ·rename_i h
   intro hb
   obtain ⟨h1, h2⟩ := hk.inv c hb
   have h3 := congrArg List.length h2
   have h4 := hp (k.val c)
   rw [List.length_append] at h3
   omega
  ·rename_i h
   intro hb
   obtain ⟨h1, h2, h3⟩ := ih _ hb
   obtain ⟨h4, h5⟩ := hk.inv c h1
   refine ⟨h4, ?_, ?_⟩
   ·have e : (k.val c :: (many k n (k.fin c)).1).flatMap k.lay ++ (many k n (k.fin c)).2.1 = c.1 := by rw [List.flatMap_cons, List.append_assoc, h2, h5]
    exact e
   ·show _ + 1 = _
    rw [h3]
theorem many_front {α : Type} {k : Cod α} (hk : k.Ok) (hp : ∀ x, 1 ≤ (k.lay x).length) (R : List UInt8) : ∀ l : List α, (∀ x ∈ l, k.good x) → many k l.length (l.flatMap k.lay ++ R, false, false) = (l, R, false, false) := by
 intro l
 induction l with
 | nil => intro _; rfl
 | cons x r ih =>
  intro h
  have e : (x :: r).flatMap k.lay ++ R = k.lay x ++ (r.flatMap k.lay ++ R) := by rw [List.flatMap_cons, List.append_assoc]
  obtain ⟨h1, h2⟩ := hk.front x (r.flatMap k.lay ++ R) (h x (by simp))
  have hp := hp x
  rw [e, List.length_cons]
  unfold many
  rw [h1, h2, if_neg (by simp only [List.length_append]; omega), ih (fun y hy => h y (by simp [hy]))]
def said (c : Cur) : Cur := ((cI.fin c).1, (cI.fin c).2.1, c.2.2 || decide (cI.val c < 0))
def Cod.list {α : Type} (k : Cod α) : Cod (List α) :=
 ⟨fun l => S2.i8 l.length ++ l.flatMap k.lay, fun c => (many k (cI.val c).toNat (said c)).1, fun c => (many k (cI.val c).toNat (said c)).2, fun l => l.length ≤ 1000000 ∧ ∀ x ∈ l, k.good x⟩
theorem said_len (c : Cur) : (said c).1.length ≤ c.1.length := cI_ok.len c
theorem said_is (c : Cur) : said c = ((cI.fin c).1, (cI.fin c).2.1, c.2.2 || decide (cI.val c < 0)) := rfl
theorem list_lay {α : Type} (k : Cod α) (l : List α) : k.list.lay l = cI.lay (l.length : Int) ++ l.flatMap k.lay := rfl
theorem list_val {α : Type} (k : Cod α) (c : Cur) : k.list.val c = (many k (cI.val c).toNat (said c)).1 := rfl
theorem list_fin {α : Type} (k : Cod α) (c : Cur) : k.list.fin c = (many k (cI.val c).toNat (said c)).2 := rfl
theorem said_front {n : Nat} (hn : (Lit.int .i64 (n : Int)).wf = true) (T : List UInt8) : cI.val (cI.lay (n : Int) ++ T, false, false) = (n : Int) ∧ said (cI.lay (n : Int) ++ T, false, false) = (T, false, false) := by
 obtain ⟨h1, h2⟩ := cI_ok.front (n : Int) T hn
 refine ⟨h1, ?_⟩
 rw [said_is, h1, h2]
 have : decide ((n : Int) < 0) = false := decide_eq_false (by omega)
 rw [this]
 simp
theorem Cod.list_ok {α : Type} {k : Cod α} (hk : k.Ok) (hp : ∀ x, 1 ≤ (k.lay x).length) : k.list.Ok := by
 refine ⟨fun c h => ?_, fun l R hl => ?_, fun c => ?_⟩
 ·rw [list_fin] at h
  obtain ⟨h1, h2, h3⟩ := many_inv hk hp _ _ h
  rw [said_is] at h1
  obtain ⟨h4, h5⟩ := bad_no.1 h1
  simp only [Bool.or_eq_false_iff] at h4 h5
  obtain ⟨h6, h7⟩ := cI_ok.inv c (bad_no.2 ⟨h4, h5.1⟩)
  refine ⟨h6, ?_⟩
  have h8 : 0 ≤ cI.val c := by
   have := of_decide_eq_false h5.2
   omega
  have h9 : (said c).1 = (cI.fin c).1 := by rw [said_is]
  rw [list_val, list_fin, list_lay, h3, Int.toNat_of_nonneg h8, List.append_assoc, h2, h9, h7]
 ·obtain ⟨h1, h2⟩ := said_front (wf_len hl.1) (l.flatMap k.lay ++ R)
  have hm := many_front hk hp R l hl.2
  rw [list_lay, List.append_assoc, list_val, list_fin, h1, h2, Int.toNat_natCast, hm]
  exact ⟨rfl, rfl⟩
 ·have h1 := (many_len hk (cI.val c).toNat (said c)).1
  have h2 := said_len c
  rw [list_fin]
  omega
theorem list_len {α : Type} {k : Cod α} (hk : k.Ok) (c : Cur) : (k.list.val c).length + (k.list.fin c).1.length ≤ c.1.length := by
 have h1 := (many_len hk (cI.val c).toNat (said c)).1
 have h2 := said_len c
 show (many k (cI.val c).toNat (said c)).1.length + (many k (cI.val c).toNat (said c)).2.1.length ≤ _
 omega
def doneC (c : Cur) : Int := if c.2.2 then 20 else S2.doneN c.1 c.2.1
def parseK {α : Type} (k : Cod α) (check : α → Int) (B : List UInt8) : Option α := if doneC (k.fin (B, false, false)) = 0 ∧ check (k.val (B, false, false)) = 0 then some (k.val (B, false, false)) else none
end SP
end Go.Proofs.YtgipkikedacmdaaGreat

namespace Go.Proofs.YtgipkikedacmdaaGreat
open Go.Lib renaming hid → hI
namespace SP
open Go.ChangeShapes Go.WideShapes Go.ChangeAt Go.RowKit Go.Joins Go.Deep
def EyeS (w : World) (s b g : Nat) (c : Cur) : Prop := w.heap[s]? = some (.cells #[.pointer (some ⟨b, 0, none⟩), .bool c.2.2] 142 (0, 0)) ∧ S2.EyeAt w b g c.1 c.2.1 ∧ s ≠ b ∧ (c.1 ≠ [] → s ≠ g)
def Both (s b x : Nat) : Prop := x = s ∨ x = b
theorem EyeS.next {w w' : World} {s b g : Nat} {c c' : Cur} (h : EyeS w s b g c) (he : S2.EyeAt w' b g c'.1 c'.2.1) (hd : c'.2.2 = c.2.2) (hn : c'.1.length ≤ c.1.length) (k : S2.Keeps (S2.Only b) w w') : EyeS w' s b g c' :=
 ⟨by rw [k.block s (lt_of_block h.1) (fun e => h.2.2.1 e), hd]; exact h.1, he, h.2.2.1, fun hne => h.2.2.2 (fun e => hne (List.eq_nil_of_length_eq_zero (by rw [e] at hn; simpa using hn)))⟩
theorem EyeS.keep {S : Nat → Prop} {w w' : World} {s b g : Nat} {c : Cur} (h : EyeS w s b g c) (k : S2.Keeps S w w') (hs : ¬ S s) (hb : ¬ S b) (hg : c.1 ≠ [] → ¬ S g) : EyeS w' s b g c :=
 ⟨(k.block s (lt_of_block h.1) hs).trans h.1, h.2.1.keep k hb hg, h.2.2⟩
theorem EyeS.before {w w' : World} {s b g : Nat} {c : Cur} (h : EyeS w s b g c) (k : S2.Keeps (fun _ => False) w w') : EyeS w' s b g c := h.keep k (fun h => h) (fun h => h) fun _ h => h
theorem EyeS.ptr {w : World} {s b g : Nat} {c : Cur} (h : EyeS w s b g c) : w.cell? ⟨s, 0, none⟩ = some (.pointer (some ⟨b, 0, none⟩)) := by rw [cell_of_row w _ _ _ _ _ h.1]; rfl
theorem EyeS.lie {w : World} {s b g : Nat} {c : Cur} (h : EyeS w s b g c) : w.cell? ⟨s, 1, none⟩ = some (.bool c.2.2) := by rw [cell_of_row w _ _ _ _ _ h.1]; rfl
theorem EyeS.lieSet {w : World} {s b g : Nat} {c : Cur} (h : EyeS w s b g c) : EyeS (w.setCell ⟨s, 1, none⟩ (.bool true)) s b g (c.1, c.2.1, true) := by
 refine ⟨?_, h.2.1.keep (S2.kSet (p := ⟨s, 1, none⟩) (S2.Keeps.refl (fun x => x = s) w) (.inl rfl) _) (fun e => h.2.2.1 e.symm) (fun hne e => h.2.2.2 hne e.symm), h.2.2.1, h.2.2.2⟩
 simp only [World.setCell]
 rw [Array.getElem?_modify, if_pos rfl, h.1]
 rfl
theorem EyeS.lt {w : World} {s b g : Nat} {c : Cur} (h : EyeS w s b g c) : s < w.heap.size ∧ b < w.heap.size ∧ (c.1 ≠ [] → g < w.heap.size) := ⟨lt_of_block h.1, h.2.1.lt, h.2.1.lt2⟩
theorem EyeS.grown {w w' : World} {s b g : Nat} {c : Cur} {r : Option Nat} (h : EyeS w s b g c) (hg : w.grownBy w' r) (h1 : ∀ k, r = some k → w.heap.size ≤ k ∨ (k ≠ s ∧ k ≠ b ∧ (c.1 ≠ [] → k ≠ g))) : EyeS w' s b g c := by
 obtain ⟨l1, l2, l3⟩ := h.lt
 refine h.keep (S2.Keeps.grown (S := fun x => r = some x) hg fun _ _ e => e) (fun e => ?_) (fun e => ?_) (fun hne e => ?_)
 ·rcases h1 _ e with h2 | h2
  ·omega
  ·exact h2.1 rfl
 ·rcases h1 _ e with h2 | h2
  ·omega
  ·exact h2.2.1 rfl
 ·rcases h1 _ e with h2 | h2
  ·have := l3 hne
   omega
  ·exact h2.2.2 hne rfl
theorem both_of {s b : Nat} {w w' : World} (h : S2.Keeps (S2.Only b) w w') : S2.Keeps (Both s b) w w' := h.mono fun _ _ e => .inr e
theorem keeps_after {S : Nat → Prop} {w x y : World} {k : Nat} (h : S2.Keeps S w x) (hg : x.grownBy y (some k)) (hk : w.heap.size ≤ k) : S2.Keeps S w y :=
 ⟨hg.os.trans h.os, hg.tape.trans h.tape, hg.output.trans h.output, Nat.le_trans h.size hg.size, fun j hj hs => (hg.block j (Nat.lt_of_lt_of_le hj h.size) (fun e => by cases e; omega)).trans (h.block j hj hs)⟩
def SeeS {α : Type} (k : Cod α) (val : α → Value) (w : World) (s b g : Nat) (c : Cur) (e : Ending) (w' : World) : Prop := e = .returned (val (k.val c)) ∧ EyeS w' s b g (k.fin c) ∧ S2.Keeps (S2.Only b) w w'
theorem sint_any {w : World} {s b g : Nat} {c : Cur} (he : EyeS w s b g c) : Calls Tryz.prog 103 #[.pointer (some ⟨b, 0, none⟩)] w (SeeS cI (fun x => .int .i64 x) w s b g c) :=
 (S2.eyeInt_any w b g c.1 c.2.1 he.2.1).mono fun e w' h => ⟨h.1, he.next h.2.1 rfl (cI_ok.len c) h.2.2, h.2.2⟩
theorem stext_any {w : World} {s b g : Nat} {c : Cur} (he : EyeS w s b g c) : Calls Tryz.prog 201 #[.pointer (some ⟨b, 0, none⟩)] w (SeeS cT (fun x => .string x) w s b g c) :=
 (S2.eyeText_any w b g c.1 c.2.1 he.2.1).mono fun e w' h => ⟨h.1, he.next h.2.1 rfl (cT_ok.len c) h.2.2, h.2.2⟩
theorem keeps_afterO {S : Nat → Prop} {w x y : World} {r : Option Nat} (h : S2.Keeps S w x) (hg : x.grownBy y r) (hk : ∀ k, r = some k → w.heap.size ≤ k) : S2.Keeps S w y :=
 ⟨hg.os.trans h.os, hg.tape.trans h.tape, hg.output.trans h.output, Nat.le_trans h.size hg.size, fun j hj hs => (hg.block j (Nat.lt_of_lt_of_le hj h.size) (fun e => by have := hk j e.symm; omega)).trans (h.block j hj hs)⟩
theorem sdone_any {w : World} {s b g : Nat} {c : Cur} (he : EyeS w s b g c) :
  Calls Tryz.prog 46 #[.pointer (some ⟨s, 0, none⟩)] w fun e w' => e = .returned (.int .i64 (doneC c)) ∧ w = w' := by
 have HE := hI he
 have p0 := he.ptr
 have p1 := he.lie
 clear he
 cases hd : c.2.2
 ·have HV : Hid (doneC c = S2.doneN c.1 c.2.1) := by show _ = _; unfold doneC; rw [hd]; rfl
  rw [hd] at p1
  go_enter Tryz.func46, Tryz.ntmps46
  go_wp2_with (go_at_call 130; go_must (refine (S2.done_any w b g c.1 c.2.1 HE.out.2.1).mono ?_; rintro e w1 ⟨rfl, rfl⟩))
  go_ret
  exact ⟨by rw [HV.out]; rfl, rfl⟩
 ·have HV : Hid (doneC c = 20) := by show _ = _; unfold doneC; rw [hd]; rfl
  rw [hd] at p1
  go_enter Tryz.func46, Tryz.ntmps46
  go_wp2
  go_ret
  exact ⟨by rw [HV.out]; rfl, rfl⟩
theorem sopen_any (gv : Nat) (va : Value) (B : List UInt8) (w : World) (hB : S2.Bw w gv va B) (hlen : B.length ≤ 1000000) :
  Calls Tryz.prog 44 #[va] w fun e w' => ∃ s b g, e = .returned (.pointer (some ⟨s, 0, none⟩)) ∧ EyeS w' s b g (B, false, false) ∧ w.heap.size ≤ s ∧ w.heap.size ≤ b ∧ (B ≠ [] → w.heap.size ≤ g) ∧ Below w.heap.size w w' := by
 have HBS := hI hB
 have HLB := hI hlen
 clear hB hlen
 go_enter Tryz.func44, Tryz.ntmps44
 go_wp2_with (go_at_call 122; go_must (refine (S2.open_w w gv _ B HBS.out (by have := HLB.out; omega)).mono ?_; rintro e w1 ⟨b, g, rfl, he, hb1, hg1, hbel⟩; have HE := hI he; have HB1 := hI hb1; have HG1 := hI hg1; have HBL := hI hbel; clear he hb1 hg1 hbel))
 go_ret
 have hlt := HE.out.lt
 refine ⟨w1.heap.size, b, g, rfl, ⟨?_, HE.out.before (S2.kAlloc (S2.Keeps.refl _ _) _), by omega, fun hne => ?_⟩, HBL.out.size, HB1.out, HG1.out, HBL.out.alloc HBL.out.size _⟩
 ·show (w1.heap.push _)[w1.heap.size]? = _
  rw [Array.getElem?_push_size]
 ·have := HE.out.lt2 hne
  omega
end SP
end Go.Proofs.YtgipkikedacmdaaGreat

namespace Go.Proofs.YtgipkikedacmdaaGreat
open Go.Lib renaming hid → hI
open S1 SP
namespace SD
open Go.RowKit
def SeenC (w : World) (b g : Nat) (bl : Bool) (s : List (Int × Int)) (l' : List UInt8) (e : Ending) (w' : World) : Prop :=
 ∃ a c, e = .returned (.slice a s.length c) ∧ SL w' a s ∧ (a = none → c = 0) ∧ s.length ≤ c ∧ (∀ b' o, a = some ⟨b', o, none⟩ → w.heap.size ≤ b') ∧ (∀ p, a = some p → w.heap.size ≤ p.block) ∧ S2.EyeAt w' b g l' bl ∧ S2.Keeps (S2.Only b) w w'
theorem ownL_at {w : World} {base : Nat} {v : Value} {l : List (Int × Int)} (h : OwnL w base v l) : ∃ a cap, v = .slice a l.length cap ∧ SL w a l ∧ (a = none → cap = 0) ∧ (∀ b o, a = some ⟨b, o, none⟩ → base ≤ b) ∧ l.length ≤ cap ∧ (∀ p, a = some p → base ≤ p.block) := by
 obtain ⟨a, cap, h1, h2, h3, h4, h5⟩ := h.sl
 refine ⟨a, cap, h1, h2, h3, h4, h5, fun p hp => ?_⟩
 obtain ⟨_, ⟨e, _⟩ | ⟨g, c2, cur, e, hg, _⟩⟩ := h
 ·rw [e] at h1
  obtain ⟨rfl, _⟩ := Value.slice.inj h1
  cases hp
 ·rw [e] at h1
  obtain ⟨rfl, _⟩ := Value.slice.inj h1
  obtain rfl := Option.some.inj hp
  exact hg
theorem eyeStampsC_see (w : World) (b g : Nat) (l L : List UInt8) (V : List (Int × Int)) (he : S2.EyeAt w b g l false)
  (hin : ∀ W, S2.Keeps (fun _ => False) w W → Calls Tryz.prog 216 #[.pointer (some ⟨b, 0, none⟩)] W fun e w' => ∃ v, e = .returned v ∧ (S2.OwnL w' W.heap.size v V ∧ S2.EyeAt w' b g L false) ∧ S2.Keeps (S2.Only b) W w') :
  Calls Tryz.prog 204 #[.pointer (some ⟨b, 0, none⟩)] w (SeenC w b g false V L) := by
 have HE := hI he
 have KEY := hI hin
 clear he hin
 go_enter Tryz.func204, Tryz.ntmps204
 go_wp2_with (go_at_call 215; go_must (refine (S2.look59_yes _ b g l (fun W v w' => S2.OwnL w' W.heap.size v V ∧ S2.EyeAt w' b g L false) HE.out KEY.out).mono ?_; rintro e w1 ⟨W, v, rfl, hW, ⟨ho, he1⟩, hk1⟩; obtain ⟨a, c, rfl, hs, hn, hx, hc, hx2⟩ := ownL_at (show OwnL _ _ _ _ from ho); have HS := hI hs; have HN := hI hn; have HC := hI hc; have HX := hI (fun b' o h => Nat.le_trans hW.size (hx b' o h)); have HX2 := hI (fun p h => Nat.le_trans hW.size (hx2 p h)); have HE1 := hI he1; have HK1 := hI hk1; clear ho he1 hk1 hs hn hx hc hx2 hW))
 go_ret
 exact ⟨a, c, rfl, HS.out, HN.out, HC.out, HX.out, HX2.out, HE1.out, HK1.out⟩
theorem eyeStampsC_no (w : World) (b g : Nat) (l : List UInt8) (he : S2.EyeAt w b g l false)
  (hin : ∀ W, S2.Keeps (fun _ => False) w W → Calls Tryz.prog 216 #[.pointer (some ⟨b, 0, none⟩)] W (S2.Blinded W b g false)) :
  Calls Tryz.prog 204 #[.pointer (some ⟨b, 0, none⟩)] w (SeenC w b g true [] l) := by
 have HE := hI he
 have KEY := hI hin
 clear he hin
 go_enter Tryz.func204, Tryz.ntmps204
 go_wp2_with (go_at_call 215; refine (S2.look59_no _ b g l HE.out KEY.out).mono ?_; rintro e w1 ⟨rfl, he1, hk1⟩; have HE1 := hI he1; have HK1 := hI hk1; clear he1 hk1)
 go_ret
 exact ⟨none, 0, rfl, SL.nil_ok _ _, fun _ => rfl, Nat.le_refl _, fun _ _ h => (by cases h), fun _ h => (by cases h), HE1.out, HK1.out⟩
theorem eyeStampsC_blind (w : World) (b g : Nat) (l : List UInt8) (he : S2.EyeAt w b g l true) : Calls Tryz.prog 204 #[.pointer (some ⟨b, 0, none⟩)] w (SeenC w b g true [] l) := by
 have HE := hI he
 clear he
 go_enter Tryz.func204, Tryz.ntmps204
 go_wp2_with (go_at_call 215; refine (S2.look59_blind _ b g l HE.out _).mono ?_; rintro e w1 ⟨rfl, hk1⟩; have HE1 := hI (HE.out.before hk1); have HK1 := hI hk1; clear hk1)
 go_ret
 exact ⟨none, 0, rfl, SL.nil_ok _ _, fun _ => rfl, Nat.le_refl _, fun _ _ h => (by cases h), fun _ h => (by cases h), HE1.out, HK1.out.mono fun _ _ h => h.elim⟩
theorem behind_no (k : Nat) (l : List UInt8) : S2.behind false k l = l := by simp [S2.behind]
theorem eyeStampsC_any (w : World) (b g : Nat) (l : List UInt8) (bl : Bool) (he : S2.EyeAt w b g l bl) (hlen : l.length ≤ 1000000) :
  Calls Tryz.prog 204 #[.pointer (some ⟨b, 0, none⟩)] w (SeenC w b g (!S2.okL l bl) (S2.valL l bl) (S2.behind (S2.okL l bl) (8 + 16 * (S2.rd l).toNat) l)) := by
 cases bl
 ·by_cases h : S2.hasL l
  ·have hok : S2.okL l false = true := by simp [S2.okL, h]
   rw [hok, valL_yes hok, behind_ok rfl]
   refine eyeStampsC_see w b g l _ _ he fun W hW => ?_
   refine (S2.stampsIn_any W b g l false (he.before hW) hlen).mono fun e w' hh => ?_
   rcases hh with ⟨_, v, h1, h2, h3, h4⟩ | ⟨hn, _⟩
   ·exact ⟨v, h1, ⟨h2, h3⟩, h4⟩
   ·exact absurd h hn
  ·have hok : S2.okL l false = false := by simp [S2.okL, h]
   have hv : S2.valL l false = [] := by simp [S2.valL, hok]
   rw [hok, hv, behind_no]
   refine eyeStampsC_no w b g l he fun W hW => ?_
   refine (S2.stampsIn_any W b g l false (he.before hW) hlen).mono fun e w' hh => ?_
   rcases hh with ⟨hn, _⟩ | ⟨_, hn⟩
   ·exact absurd hn h
   ·exact hn
 ·have hok : S2.okL l true = false := by simp [S2.okL]
  have hv : S2.valL l true = [] := by simp [S2.valL, hok]
  rw [hok, hv, behind_no]
  exact eyeStampsC_blind w b g l he
theorem ownD_keep {w w' : World} {base b : Nat} {v : Value} {F : List Dp} (h : OwnD w base v F) (hb : b < base) (k : S2.Keeps (S2.Only b) w w') : OwnD w' base v F := by
 obtain ⟨h1, h2 | ⟨g, cap, cur, hv, hg, hh, r⟩⟩ := h
 ·exact ⟨h1, .inl h2⟩
 ·exact ⟨h1, .inr ⟨g, cap, cur, hv, hg, (k.block g (lt_of_block hh) (fun e => by have e2 : g = b := e; omega)).trans hh, r⟩⟩
theorem sl_keep {w w' : World} {b : Nat} {a : Option Addr} {l : List (Int × Int)} (h : SL w a l) (hb : ∀ p, a = some p → p.block ≠ b) (k : S2.Keeps (S2.Only b) w w') : SL w' a l := by
 intro hne
 obtain ⟨g, o, ha, hg, hl⟩ := h hne
 have hgb : ¬ S2.Only b g := fun e => hb _ ha e
 exact ⟨g, o, ha, Nat.lt_of_lt_of_le hg k.size, fun i x y hi => ⟨k.cell hgb (hl i x y hi).1, k.cell hgb (hl i x y hi).2⟩⟩
theorem hasG_keep {w w' : World} {b : Nat} {v : Value} {F : List Dp} (h : HasG w v F) (hb : ∀ s ∈ F, ∀ p, s.ia = some p → p.block ≠ b) (k : S2.Keeps (S2.Only b) w w') : HasG w' v F :=
 fun s hs => ⟨⟨sl_keep (h s hs).1.1 (hb s hs) k, (h s hs).1.2⟩, (h s hs).2⟩
theorem idsN_le8 {d : Dd} {m : Nat} (h : ∀ x ∈ d, x.2.length ≤ m) : idsN d ≤ d.length * m := by
 induction d with
 | nil => simp [idsN]
 | cons x r ih =>
  rw [idsN_cons, List.length_cons, Nat.add_mul, Nat.one_mul]
  have h1 := h x (by simp)
  have h2 := ih fun y hy => h y (by simp [hy])
  omega
def cD : SP.Cod (Int × List (Int × Int)) := SP.cI.two SP.cL
theorem cD_ok : cD.Ok := SP.Cod.two_ok SP.cI_ok SP.cL_ok
theorem cD_pos (x : Int × List (Int × Int)) : 1 ≤ (cD.lay x).length := by
 show 1 ≤ (S2.i8 _ ++ _).length
 rw [List.length_append, S2.i8_length]
 omega
theorem cD_lay : cD.lay = lay1 := rfl
theorem cD_layD (d : Dd) : cD.list.lay d = layD d := by
 rw [SP.list_lay, cD_lay]
 rfl
theorem cL_cost (c : SP.Cur) : (SP.cL.val c).length + (SP.cL.fin c).1.length ≤ c.1.length := by
 show (S2.valL c.1 c.2.1).length + (S2.behind (S2.okL c.1 c.2.1) (8 + 16 * (S2.rd c.1).toNat) c.1).length ≤ _
 by_cases h : S2.okL c.1 c.2.1 = true
 ·rw [valL_yes h, behind_ok h, S2.rdL_length, List.length_drop]
  unfold S2.okL at h
  simp only [Bool.and_eq_true, decide_eq_true_eq] at h
  obtain ⟨_, _, _, h3⟩ := h
  omega
 ·have h2 : S2.okL c.1 c.2.1 = false := by simpa using h
  have h3 : S2.valL c.1 c.2.1 = [] := by unfold S2.valL; rw [if_neg h]
  rw [h2, h3, behind_no]
  simp
theorem cD_cost (c : SP.Cur) : (cD.val c).2.length + (cD.fin c).1.length ≤ c.1.length := Nat.le_trans (cL_cost (SP.cI.fin c)) (SP.cI_ok.len c)
theorem many_cost (n : Nat) : ∀ c, idsN (SP.many cD n c).1 + (SP.many cD n c).2.1.length ≤ c.1.length := by
 induction n with
 | zero => intro c; show idsN [] + c.1.length ≤ _; simp [idsN]
 | succ n ih =>
  intro c
  have h1 := cD_cost c
  have h2 := ih (cD.fin c)
  unfold SP.many
  split
  ·show idsN [] + (cD.fin c).1.length ≤ _
   have : idsN [] = 0 := rfl
   omega
  ·show idsN (cD.val c :: (SP.many cD n (cD.fin c)).1) + (SP.many cD n (cD.fin c)).2.1.length ≤ _
   rw [idsN_cons]
   omega
theorem list_cost (c : SP.Cur) : idsN (cD.list.val c) ≤ c.1.length := by
 rw [SP.list_val]
 have h1 := many_cost (SP.cI.val c).toNat (SP.said c)
 have h2 := SP.said_len c
 omega
def SeeDp (w : World) (s b g : Nat) (c : SP.Cur) (x : Int × List (Int × Int)) (cf : SP.Cur) (e : Ending) (w' : World) : Prop :=
 ∃ xa xc, e = .returned (.agg #[.int .i64 x.1, .slice xa x.2.length xc]) ∧ SL w' xa x.2 ∧ (xa = none → xc = 0) ∧ x.2.length ≤ xc ∧ (∀ b' o, xa = some ⟨b', o, none⟩ → w.heap.size ≤ b') ∧ (∀ p, xa = some p → w.heap.size ≤ p.block) ∧ SP.EyeS w' s b g cf ∧ S2.Keeps (S2.Only b) w w'
theorem sstamps_any {w : World} {s b g : Nat} {c : SP.Cur} (he : SP.EyeS w s b g c) (hlen : c.1.length ≤ 1000000) : Calls Tryz.prog 204 #[.pointer (some ⟨b, 0, none⟩)] w fun e w' =>
  ∃ xa xc, e = .returned (.slice xa (SP.cL.val c).length xc) ∧ SL w' xa (SP.cL.val c) ∧ (xa = none → xc = 0) ∧ (SP.cL.val c).length ≤ xc ∧ (∀ b' o, xa = some ⟨b', o, none⟩ → w.heap.size ≤ b') ∧ (∀ p, xa = some p → w.heap.size ≤ p.block) ∧ SP.EyeS w' s b g (SP.cL.fin c) ∧ S2.Keeps (S2.Only b) w w' :=
 (eyeStampsC_any w b g c.1 c.2.1 he.2.1 hlen).mono fun e w' h => by
  obtain ⟨a, cc, h1, h2, h3, h4, h5, h6, h7, h8⟩ := h
  exact ⟨a, cc, h1, h2, h3, h4, h5, h6, he.next h7 rfl (SP.cL_ok.len c) h8, h8⟩
theorem dep_block {w : World} {x y : Value} {k : Nat} {T : TypeId} (h : w.heap[k]? = some (.cells #[x, y] T (0, 0))) (u0 u1 : Value) :
  ((w.setCell ⟨k, 0, none⟩ u0).setCell ⟨k, 1, none⟩ u1).heap[k]? = some (.cells #[u0, u1] T (0, 0)) ∧ w.grownBy ((w.setCell ⟨k, 0, none⟩ u0).setCell ⟨k, 1, none⟩ u1) (some k) := by
 have hk := lt_of_block h
 refine ⟨?_, rfl, rfl, rfl, by simp [World.setCell], fun j hj hne => ?_⟩
 ·simp only [World.setCell]
  rw [Array.getElem?_modify, if_pos rfl, Array.getElem?_modify, if_pos rfl, h]
  rfl
 ·have e : j ≠ k := fun e => hne (by rw [e])
  rw [Go.Deep.blk_setCell_other _ _ _ _ e, Go.Deep.blk_setCell_other _ _ _ _ e]
theorem cells_two {Y : World} {k : Nat} {x0 x1 : Value} {T : TypeId} (h : Y.heap[k]? = some (.cells #[x0, x1] T (0, 0))) : Y.cell? ⟨k, 0, none⟩ = some x0 ∧ Y.cell? ⟨k, 1, none⟩ = some x1 ∧ Y.frozen? ⟨k, 0, none⟩ = false ∧ Y.frozen? ⟨k, 1, none⟩ = false := by
 simp only [World.cell?, World.frozen?, h]
 exact ⟨rfl, rfl, rfl, rfl⟩
theorem sl_after {w w' : World} {k : Nat} {a : Option Addr} {l : List (Int × Int)} (h : SL w a l) (hg : w.grownBy w' (some k)) (hb : ∀ p, a = some p → p.block ≠ k) : SL w' a l := by
 intro hne
 obtain ⟨g, o, ha, hgl, hl⟩ := h hne
 have hk := hg.block g hgl (fun e => hb _ ha (Option.some.inj e))
 refine ⟨g, o, ha, Nat.lt_of_lt_of_le hgl hg.size, fun i x y hi => ?_⟩
 have h2 := hl i x y hi
 simp only [World.cell?] at h2 ⊢
 rw [hk]
 exact h2
theorem sdep_any {w : World} {s b g : Nat} {c : SP.Cur} (he : SP.EyeS w s b g c) (hlen : c.1.length ≤ 1000000) : Calls Tryz.prog 177 #[.pointer (some ⟨s, 0, none⟩)] w (SeeDp w s b g c (cD.val c) (cD.fin c)) := by
 have HLT := hI he.lt
 have HAB : Hid ((w.alloc (.cells #[.int .i64 0, .slice none 0 0] 82)).heap[w.heap.size]? = some (.cells #[.int .i64 0, .slice none 0 0] 82 (0, 0))) := by
  show (w.heap.push _)[w.heap.size]? = _
  rw [Array.getElem?_push_size]
 have HK0 : Hid (S2.Keeps (S2.Only b) w (w.alloc (.cells #[.int .i64 0, .slice none 0 0] 82))) := S2.kAlloc (S2.Keeps.refl _ _) _
 have HE0 : Hid (SP.EyeS (w.alloc (.cells #[.int .i64 0, .slice none 0 0] 82)) s b g c) := he.before (S2.kAlloc (S2.Keeps.refl _ _) _)
 have HNB : Hid (¬ S2.Only b w.heap.size) := fun e => by have e2 : w.heap.size = b := e; have := he.lt; omega
 have p0 := HE0.out.ptr
 have HLC := hI hlen
 clear he hlen
 have HV : Hid (cD.val c = (SP.cI.val c, SP.cL.val (SP.cI.fin c))) := rfl
 have HF : Hid (cD.fin c = SP.cL.fin (SP.cI.fin c)) := rfl
 have HLN : Hid ((cD.fin c).1.length ≤ c.1.length) := cD_ok.len c
 have HLI : Hid ((SP.cI.fin c).1.length ≤ c.1.length) := SP.cI_ok.len c
 rw [HV.out]
 unfold SeeDp
 go_enter Tryz.func177, Tryz.ntmps177
 go_wp2_with (first
  | (have htok := HE1; clear htok; go_at_call 204; go_must (refine (sstamps_any HE1.out (by have := HLC.out; have := HLI.out; omega)).mono ?_; rintro e w3 ⟨xa, xc, rfl, h1, h2, h3, h4, h5, h6, h7⟩; have HE2 := hI h6; have HK2 := hI (HK1.out.then h7); have HS1 := hI h1; have HS2 := hI h2; have HS3 := hI h3; have HS5 := hI (fun p hp => Nat.lt_of_lt_of_le HSZ.out (Nat.le_trans HK1.out.size (h5 p hp))); have hb4 := (HK2.out.block w.heap.size HSZ.out HNB.out).trans HAB.out; have HAB5 := hI hb4; obtain ⟨a0, a1, f0, f1⟩ := cells_two hb4; have hrs := lt_of_block hb4; clear h1 h2 h3 h4 h5 h6 h7 hb4))
  | (go_at_call 103; go_must (refine (SP.sint_any HE0.out).mono ?_; rintro e w2 ⟨rfl, h1, h2⟩; have HE1 := hI h1; have p1 := h1.ptr; have HK1 := hI h2; have HSZ : Hid (w.heap.size < (w.alloc (.cells #[.int .i64 0, .slice none 0 0] 82)).heap.size) := (by show _ < _; simp); clear h1 h2)))
 have hE := dep_block HAB5.out (.int .i64 (SP.cI.val c)) (.slice xa (SP.cL.val (SP.cI.fin c)).length xc)
 obtain ⟨z0, z1, _, _⟩ := cells_two hE.1
 have HK5 := hI (SP.keeps_after (HK0.out.then HK2.out) hE.2 (Nat.le_refl _))
 have HE5 := hI (HE2.out.grown hE.2 (fun k hk => by
  have e2 := Option.some.inj hk
  have h1 := HLT.out.1
  have h2 := HLT.out.2.1
  refine .inr ⟨by omega, by omega, fun hne e => ?_⟩
  have := HLT.out.2.2 (fun e3 => hne (List.eq_nil_of_length_eq_zero (by have h5 := HLN.out; rw [HF.out, e3] at h5; simpa using h5)))
  omega))
 have HS6 := hI (sl_after HS1.out hE.2 (fun p hp => by have := HS5.out p hp; omega))
 clear hE
 generalize (w3.setCell ⟨w.heap.size, 0, none⟩ (.int .i64 (SP.cI.val c))).setCell ⟨w.heap.size, 1, none⟩ (.slice xa (SP.cL.val (SP.cI.fin c)).length xc) = w6 at *
 refine bodyPost_ret (v := .agg #[.int .i64 (SP.cI.val c), .slice xa (SP.cL.val (SP.cI.fin c)).length xc]) (by simp [results, Tryz.results177, go_sem, z0, z1]) rfl ?_
 exact ⟨xa, xc, rfl, HS6.out, HS2.out, HS3.out, fun b' o h => Nat.le_of_lt (HS5.out _ h), fun p hp => Nat.le_of_lt (HS5.out p hp), HE5.out, HK5.out⟩
theorem ownD_mono {w : World} {base B : Nat} {v : Value} {d : List Dp} (h : OwnD w B v d) (hb : base ≤ B) : OwnD w base v d := by
 obtain ⟨h1, h2 | ⟨g, cap, cur, hv, hg, rest⟩⟩ := h
 ·exact ⟨h1, .inl h2⟩
 ·exact ⟨h1, .inr ⟨g, cap, cur, hv, Nat.le_trans hb hg, rest⟩⟩

def SeeLDO (w : World) (s b g : Nat) (c : SP.Cur) (e : Ending) (w' : World) : Prop := ∃ v F, e = .returned v ∧ toD F = cD.list.val c ∧ OwnD w' w.heap.size v F ∧ HasG w' v F ∧ (∀ s' ∈ F, ∀ p, s'.ia = some p → w.heap.size ≤ p.block) ∧ SP.EyeS w' s b g (cD.list.fin c) ∧ S2.Keeps (SP.Both s b) w w'
theorem slistDO_any {w : World} {s b g : Nat} {c : SP.Cur} (he : SP.EyeS w s b g c) (hlen : c.1.length ≤ 1000000) :
  Calls Tryz.prog 176 #[.pointer (some ⟨s, 0, none⟩), .func (.func 177) #[] #[]] w (SeeLDO w s b g c) := by
 have HE := hI he
 have HLC := hI hlen
 have p0 := he.ptr
 have HLT0 := hI he.lt
 clear he hlen
 generalize hN : SP.cI.val c = N
 have HLV : Hid (cD.list.val c = (SP.many cD N.toNat (SP.said c)).1) := by rw [← hN]; exact hI rfl
 have HLF : Hid (cD.list.fin c = (SP.many cD N.toNat (SP.said c)).2) := by rw [← hN]; exact hI rfl
 have HSD : Hid (SP.said c = ((SP.cI.fin c).1, (SP.cI.fin c).2.1, c.2.2 || decide (N < 0))) := by rw [← hN]; exact hI rfl
 have HI : Hid (Calls Tryz.prog 103 #[.pointer (some ⟨b, 0, none⟩)] w fun e w' => e = .returned (.int .i64 N) ∧ SP.EyeS w' s b g (SP.cI.fin c) ∧ S2.Keeps (S2.Only b) w w') := by
  rw [← hN]
  exact hI (SP.sint_any HE.out)
 clear hN
 go_enter Tryz.func176, Tryz.ntmps176
 by_cases h0 : N < 0
 ·have hd0 : decide (N < 0) = true := decide_eq_true h0
  have hd1 : decide ((0 : Int) < N) = false := decide_eq_false (by omega)
  rw [hd0, Bool.or_true] at HSD
  go_wp2_with (go_at_call 103; go_must (refine HI.out.mono ?_; rintro e w1 ⟨rfl, h1, h2⟩; have HE1 := hI h1; have HK1 := hI (SP.both_of (s := s) h2); have p1 := h1.ptr; have l1 := h1.lie; have fz := frozen_of_row w1 s 1 _ _ h1.1; clear h1 h2))
  have HE2 : Hid (SP.EyeS (w1.setCell ⟨s, 1, none⟩ (.bool true)) s b g (SP.said c)) := by
   rw [HSD.out]
   exact hI HE1.out.lieSet
  have HK2 : Hid (S2.Keeps (SP.Both s b) w (w1.setCell ⟨s, 1, none⟩ (.bool true))) := hI (S2.kSet (p := ⟨s, 1, none⟩) HK1.out (Or.inl (show SP.Both s b s from .inl rfl)) _)
  generalize w1.setCell ⟨s, 1, none⟩ (.bool true) = w2 at *
  have HG2 : Hid (c.1 ≠ [] → g < w2.heap.size) := fun h => Nat.lt_of_lt_of_le (HLT0.out.2.2 h) HK2.out.size
  have HSB : Hid (s < w2.heap.size ∧ b < w2.heap.size ∧ True) := hI ⟨Nat.lt_of_lt_of_le HLT0.out.1 HK2.out.size, Nat.lt_of_lt_of_le HLT0.out.2.1 HK2.out.size, trivial⟩
  go_loopw [6, 20] (fun v i wr => ∃ (F : List Dp) (cc : SP.Cur), F.length ≤ N.toNat ∧ i = .int .i64 F.length ∧ OwnD wr w2.heap.size v F ∧ HasG wr v F ∧ (∀ s' ∈ F, ∀ p, s'.ia = some p → w.heap.size ≤ p.block) ∧ SP.EyeS wr s b g cc ∧ toD F ++ (SP.many cD (N.toNat - F.length) cc).1 = cD.list.val c ∧ (SP.many cD (N.toNat - F.length) cc).2 = cD.list.fin c ∧ F.length + cc.1.length ≤ c.1.length ∧ w2.heap.size ≤ wr.heap.size ∧ S2.Keeps (SP.Both s b) w wr) (fun _ i _ => N.toNat - (RowKit.intOf i).toNat)
  case atStart => exact ⟨[], SP.said c, Nat.zero_le _, rfl, OwnD.nil _ _, HasG.nil _ _, fun s' hs => (by cases hs), HE2.out, HLV.out.symm, HLF.out.symm, by rw [List.length_nil, Nat.zero_add]; exact SP.said_len c, Nat.le_refl _, HK2.out⟩
  case round =>
   obtain ⟨F, cc, hk, rfl, ho, hg, hqb, he, hv, hf, hln, hs, hkp⟩ := hrel
   have HO := hI ho
   have HG := hI hg
   have HQB := hI hqb
   have HE := hI he
   have HV := hI hv
   have HF := hI hf
   have HLN := hI hln
   have HS := hI hs
   have HKP := hI hkp
   have pr := he.ptr
   obtain ⟨av, cv, rfl, _⟩ := ho.row
   clear ho hg hqb he hv hf hln hs hkp
   by_cases hlt : F.length < N.toNat
   ·exact absurd hlt (by omega)
   ·have hge : ¬ ((F.length : Nat) : Int) < N := by omega
    have hdk : decide (((F.length : Nat) : Int) < N) = false := decide_eq_false hge
    have h0m : N.toNat - F.length = 0 := by omega
    go_wp2
    go_ret
    have hv : cD.list.val c = toD F := by have h := HV.out; rw [h0m] at h; simpa [SP.many] using h.symm
    have hf : cD.list.fin c = cc := by have h := HF.out; rw [h0m] at h; exact h.symm
    exact ⟨_, F, rfl, by rw [hv], ownD_mono HO.out HK2.out.size, HG.out, HQB.out, by rw [hf]; exact HE.out, HKP.out⟩
 ·have hd0 : decide (N < 0) = false := decide_eq_false h0
  rw [hd0, Bool.or_false] at HSD
  go_wp2_with (go_at_call 103; go_must (refine HI.out.mono ?_; rintro e w1 ⟨rfl, h1, h2⟩; have HE1 := hI h1; have HK1 := hI (SP.both_of (s := s) h2); have p1 := h1.ptr; have l1 := h1.lie; have fz := frozen_of_row w1 s 1 _ _ h1.1; clear h1 h2))
  have HE2 : Hid (SP.EyeS w1 s b g (SP.said c)) := by
   rw [HSD.out]
   exact hI HE1.out
  have HK2 := HK1
  have HG2 : Hid (c.1 ≠ [] → g < w1.heap.size) := fun h => Nat.lt_of_lt_of_le (HLT0.out.2.2 h) HK2.out.size
  have HSB : Hid (s < w1.heap.size ∧ b < w1.heap.size ∧ True) := hI ⟨Nat.lt_of_lt_of_le HLT0.out.1 HK2.out.size, Nat.lt_of_lt_of_le HLT0.out.2.1 HK2.out.size, trivial⟩
  generalize w1 = w2 at *
  go_loopw [6, 20] (fun v i wr => ∃ (F : List Dp) (cc : SP.Cur), F.length ≤ N.toNat ∧ i = .int .i64 F.length ∧ OwnD wr w2.heap.size v F ∧ HasG wr v F ∧ (∀ s' ∈ F, ∀ p, s'.ia = some p → w.heap.size ≤ p.block) ∧ SP.EyeS wr s b g cc ∧ toD F ++ (SP.many cD (N.toNat - F.length) cc).1 = cD.list.val c ∧ (SP.many cD (N.toNat - F.length) cc).2 = cD.list.fin c ∧ F.length + cc.1.length ≤ c.1.length ∧ w2.heap.size ≤ wr.heap.size ∧ S2.Keeps (SP.Both s b) w wr) (fun _ i _ => N.toNat - (RowKit.intOf i).toNat)
  case atStart => exact ⟨[], SP.said c, Nat.zero_le _, rfl, OwnD.nil _ _, HasG.nil _ _, fun s' hs => (by cases hs), HE2.out, HLV.out.symm, HLF.out.symm, by rw [List.length_nil, Nat.zero_add]; exact SP.said_len c, Nat.le_refl _, HK2.out⟩
  case round =>
   obtain ⟨F, cc, hk, rfl, ho, hg, hqb, he, hv, hf, hln, hs, hkp⟩ := hrel
   have HO := hI ho
   have HG := hI hg
   have HQB := hI hqb
   have HE := hI he
   have HV := hI hv
   have HF := hI hf
   have HLN := hI hln
   have HS := hI hs
   have HKP := hI hkp
   have pr := he.ptr
   obtain ⟨av, cv, rfl, _⟩ := ho.row
   clear ho hg hqb he hv hf hln hs hkp
   by_cases hlt : F.length < N.toNat
   ·have hk1 : ((F.length : Nat) : Int) < N := by omega
    have hk0 : (0 : Int) ≤ ((F.length : Nat) : Int) := by omega
    have hdk : decide (((F.length : Nat) : Int) < N) = true := decide_eq_true hk1
    obtain ⟨m, hm⟩ : ∃ m, N.toNat - F.length = m + 1 := ⟨N.toNat - F.length - 1, by omega⟩
    have HM : Hid (SP.many cD (N.toNat - F.length) cc = if (cD.fin cc).1.length = cc.1.length then ([], cD.fin cc) else (cD.val cc :: (SP.many cD m (cD.fin cc)).1, (SP.many cD m (cD.fin cc)).2)) := by
     show _ = _
     rw [hm]
     rfl
    have HMM := hI hm
    have HFL := hI (cD_ok.len cc)
    have HLT : Hid (cc.1.length ≤ 1000000 ∧ F.length ≤ 1000000) := by
     have := HLN.out
     have := HLC.out
     exact ⟨by omega, by omega⟩
    have hF6 : F.length ≤ 1000000 := HLT.out.2
    have HSP := hI (sdep_any HE.out HLT.out.1)
    have HGG : Hid (cc.1 ≠ [] → g < w2.heap.size) := fun h => HG2.out (fun e => h (List.eq_nil_of_length_eq_zero (by have h1 := HLN.out; have h2 : c.1.length = 0 := (by rw [e]; rfl); omega)))
    clear hm
    by_cases hq : (cD.fin cc).1.length = cc.1.length
    ·rw [if_pos hq] at HM
     have hqd : ((((cD.fin cc).1.length : Nat) : Int) == ((cc.1.length : Nat) : Int)) = true := by simp [hq]
     clear hq
     generalize cD.val cc = x at *
     generalize hcf : cD.fin cc = cf at *
     clear hcf
     go_wp2_with (first
      | (have htok := HE5; clear htok; go_at_call 102; go_must (refine (S2.left_any _ b g cf.1 cf.2.1 (HE5.out.before (S2.kAlloc (S2.Keeps.refl _ _) _)).2.1).mono ?_; rintro e w6 ⟨rfl, rfl⟩))
      | (go_at_call 177; go_must (refine HSP.out.mono ?_; rintro e w5 ⟨xa, xc, rfl, h1, h2, h3, h4, h5, h6, h7⟩; have HE5 := hI h6; have HK5 := hI h7; have HM1 := hI h1; have HM2 := hI h2; have HM3 := hI h3; have HM5 := hI h5; have HO5 := hI (ownD_keep HO.out HSB.out.2.1 h7); have HG5 := hI (hasG_keep HG.out (fun s' hs p hp => by have := HQB.out s' hs p hp; have := HLT0.out.2.1; omega) h7); have HMV := hI (apart_g HO.out h1 h4 (Nat.le_refl _)); have p5 := S2.alloc_cell h6.ptr (.cells #[.int .i64 x.1, .slice xa x.2.length xc] 82); clear h1 h2 h3 h4 h5 h6 h7))
      | (go_at_call 102; go_must (refine (S2.left_any wr b g cc.1 cc.2.1 HE.out.2.1).mono ?_; rintro e w4 ⟨rfl, rfl⟩)))
     go_ret
     have hv : cD.list.val c = toD F := by have h := HV.out; rw [HM.out] at h; simpa using h.symm
     have hf : cD.list.fin c = cf := by have h := HF.out; rw [HM.out] at h; exact h.symm
     exact ⟨_, F, rfl, by rw [hv], ownD_mono (HO5.out.later (blAlloc (Below.refl _ _) _)) HK2.out.size, HG5.out.later (blAlloc (Below.refl _ _) _), HQB.out, by rw [hf]; exact HE5.out.before (S2.kAlloc (S2.Keeps.refl _ _) _), S2.kAlloc (HKP.out.then (SP.both_of HK5.out)) _⟩
    ·rw [if_neg hq] at HM
     have HQ := hI hq
     have hqd : ((((cD.fin cc).1.length : Nat) : Int) == ((cc.1.length : Nat) : Int)) = false := by simpa using (fun e => hq (by omega))
     clear hq
     generalize cD.val cc = x at *
     generalize hcf : cD.fin cc = cf at *
     clear hcf
     go_wp2_with (first
      | (have htok := HE5; clear htok; go_at_call 102; go_must (refine (S2.left_any _ b g cf.1 cf.2.1 (HE5.out.before (S2.kAlloc (S2.Keeps.refl _ _) _)).2.1).mono ?_; rintro e w6 ⟨rfl, rfl⟩))
      | (go_at_call 177; go_must (refine HSP.out.mono ?_; rintro e w5 ⟨xa, xc, rfl, h1, h2, h3, h4, h5, h6, h7⟩; have HE5 := hI h6; have HK5 := hI h7; have HM1 := hI h1; have HM2 := hI h2; have HM3 := hI h3; have HM5 := hI h5; have HO5 := hI (ownD_keep HO.out HSB.out.2.1 h7); have HG5 := hI (hasG_keep HG.out (fun s' hs p hp => by have := HQB.out s' hs p hp; have := HLT0.out.2.1; omega) h7); have HMV := hI (apart_g HO.out h1 h4 (Nat.le_refl _)); have p5 := S2.alloc_cell h6.ptr (.cells #[.int .i64 x.1, .slice xa x.2.length xc] 82); clear h1 h2 h3 h4 h5 h6 h7))
      | (go_at_call 102; go_must (refine (S2.left_any wr b g cc.1 cc.2.1 HE.out.2.1).mono ?_; rintro e w4 ⟨rfl, rfl⟩))
      | (at_builtin; go_must (refine append_dp1 rfl (.tmp 37) (.tmp 39) rfl w2.heap.size (v := .slice av F.length cv) (d := F) (ad := ⟨w5.heap.size + 1, 0, none⟩) (cap := 1) (m := ⟨x.1, xa, xc, x.2⟩) rfl rfl (HO5.out.later (blAlloc (blAlloc (Below.refl _ _) _) _)) (dp_one (w0 := w5.alloc (.cells #[.int .i64 x.1, .slice xa x.2.length xc] 82)) (m := ⟨x.1, xa, xc, x.2⟩) (by simp) rfl) (by have := HLT.out; omega) (Nat.le_trans HS.out (Nat.le_trans HK5.out.size (blAlloc (blAlloc (Below.refl w5.heap.size w5) (.cells #[.int .i64 x.1, .slice xa x.2.length xc] 82)) (.cells #[.int .i64 x.1, .slice xa x.2.length xc] 82)).size)) ?_; intro v7 w7 h1 h2 h3; have HO7 := hI h1; have HG7 := hI h2; have HGG7 := hI ((HG5.out.later (blAlloc (blAlloc (Below.refl _ _) (.cells #[.int .i64 x.1, .slice xa x.2.length xc] 82)) (.cells #[.int .i64 x.1, .slice xa x.2.length xc] 82))).push (m := ⟨x.1, xa, xc, x.2⟩) (show IdsAt _ _ from ⟨HM1.out.later (blAlloc (blAlloc (Below.refl _ _) (.cells #[.int .i64 x.1, .slice xa x.2.length xc] 82)) (.cells #[.int .i64 x.1, .slice xa x.2.length xc] 82)), HM2.out, HM3.out⟩) HMV.out h2 h3); clear h1 h2 h3)))
     have HOB := hI (HO5.out.later (blAlloc (blAlloc (Below.refl _ _) (.cells #[.int .i64 x.1, .slice xa x.2.length xc] 82)) (.cells #[.int .i64 x.1, .slice xa x.2.length xc] 82)))
     have HE7 : Hid (SP.EyeS w7 s b g cf) := hI ((HE5.out.before (S2.kAlloc (S2.kAlloc (S2.Keeps.refl _ _) _) _)).grown HG7.out (fun k hk => by
      have h1 := (HOB.out.block k hk).1
      have h2 := HSB.out
      refine .inr ⟨by omega, by omega, fun hne => ?_⟩
      have h3 := HGG.out (fun e => hne (List.eq_nil_of_length_eq_zero (by have h4 := HFL.out; rw [e] at h4; simpa using h4)))
      omega))
     have HK7 : Hid (S2.Keeps (SP.Both s b) w w7) := hI (SP.keeps_afterO (S2.kAlloc (S2.kAlloc (HKP.out.then (SP.both_of HK5.out)) _) _) HG7.out (fun k hk => Nat.le_trans HK2.out.size (HOB.out.block k hk).1))
     have HS7 : Hid (w2.heap.size ≤ w7.heap.size) := hI (Nat.le_trans HS.out (Nat.le_trans HK5.out.size (Nat.le_trans (blAlloc (blAlloc (Below.refl w5.heap.size w5) (.cells #[.int .i64 x.1, .slice xa x.2.length xc] 82)) (.cells #[.int .i64 x.1, .slice xa x.2.length xc] 82)).size HG7.out.size)))
     have HQ7 : Hid (∀ s' ∈ F ++ [(⟨x.1, xa, xc, x.2⟩ : Dp)], ∀ p, s'.ia = some p → w.heap.size ≤ p.block) := hI (by
      intro s' hs p hp
      rcases List.mem_append.1 hs with hs | hs
      ·exact HQB.out s' hs p hp
      ·rw [List.mem_singleton] at hs
       subst hs
       have := HM5.out p hp
       have := HS.out
       have := HK2.out.size
       omega)
     have hm2 : N.toNat - (F ++ [(⟨x.1, xa, xc, x.2⟩ : Dp)]).length = m := by have := HMM.out; rw [List.length_append, List.length_singleton]; omega
     clear HOB HG7
     go_roundw
     case rel =>
      refine ⟨F ++ [(⟨x.1, xa, xc, x.2⟩ : Dp)], cf, by rw [List.length_append, List.length_singleton]; omega, by rw [List.length_append, List.length_singleton]; go_num, HO7.out, HGG7.out, HQ7.out, HE7.out, ?_, ?_, ?_, HS7.out, HK7.out⟩
      ·have e : toD (F ++ [(⟨x.1, xa, xc, x.2⟩ : Dp)]) = toD F ++ [x] := by unfold toD; rw [List.map_append]; rfl
       rw [hm2, e, List.append_assoc]
       have h := HV.out
       rw [HM.out] at h
       exact h
      ·rw [hm2]
       have h := HF.out
       rw [HM.out] at h
       exact h
      ·have h1 := HLN.out
       have h2 := HFL.out
       have h3 := HQ.out
       rw [List.length_append, List.length_singleton]
       omega
     case measure => simp [RowKit.intOf]; omega
   ·have hge : ¬ ((F.length : Nat) : Int) < N := by omega
    have hdk : decide (((F.length : Nat) : Int) < N) = false := decide_eq_false hge
    have h0m : N.toNat - F.length = 0 := by omega
    go_wp2
    go_ret
    have hv : cD.list.val c = toD F := by have h := HV.out; rw [h0m] at h; simpa [SP.many] using h.symm
    have hf : cD.list.fin c = cc := by have h := HF.out; rw [h0m] at h; exact h.symm
    exact ⟨_, F, rfl, by rw [hv], ownD_mono HO.out HK2.out.size, HG.out, HQB.out, by rw [hf]; exact HE.out, HKP.out⟩
theorem sdepsO_any {w : World} {s b g : Nat} {c : SP.Cur} (he : SP.EyeS w s b g c) (hlen : c.1.length ≤ 1000000) : Calls Tryz.prog 126 #[.pointer (some ⟨s, 0, none⟩)] w (SeeLDO w s b g c) := by
 have HI := hI (slistDO_any he hlen)
 clear he hlen
 go_enter Tryz.func126, Tryz.ntmps126
 go_wp2_with (go_at_call 176; go_must (refine HI.out.mono ?_; rintro e w1 ⟨v, F, rfl, h1, h2, h3, h6, h4, h5⟩; have H6 := hI h6; have H1 := hI h1; have H2 := hI h2; have H3 := hI h3; have H4 := hI h4; have H5 := hI h5; clear h1 h2 h3 h4 h5 h6))
 go_ret
 exact ⟨v, F, rfl, H1.out, H2.out, H3.out, H6.out, H4.out, H5.out⟩
end SD
end Go.Proofs.YtgipkikedacmdaaGreat

namespace Go.Proofs.YtgipkikedacmdaaGreat
namespace S2
open Go.RowKit Go.Deep
def RAt (w : World) (b g : Nat) (B : List UInt8) (i : Nat) (bl : Bool) : Prop :=
 ∃ v, w.heap[b]? = some (.cells #[v, .int .i64 (i : Int), .bool bl] 166 (0, 0)) ∧ Bs w g v B ∧ i ≤ B.length ∧ B.length ≤ 20000 ∧ (B ≠ [] → g ≠ b)
theorem RAt.lt {w : World} {b g : Nat} {B : List UInt8} {i : Nat} {bl : Bool} (h : RAt w b g B i bl) : b < w.heap.size := by
 obtain ⟨v, hv, _⟩ := h
 exact lt_of_block hv
theorem RAt.keep {S : Nat → Prop} {w w' : World} {b g : Nat} {B : List UInt8} {i : Nat} {bl : Bool} (h : RAt w b g B i bl) (k : Keeps S w w') (hb : ¬ S b) (hg : B ≠ [] → ¬ S g) : RAt w' b g B i bl := by
 obtain ⟨v, hv, h1, h2⟩ := h
 exact ⟨v, (k.block b (lt_of_block hv) hb).trans hv, h1.keep k hg, h2⟩
theorem RAt.before {w x : World} {b g : Nat} {B : List UInt8} {i : Nat} {bl : Bool} (h : RAt w b g B i bl) (k : Keeps (fun _ => False) w x) : RAt x b g B i bl := h.keep k (fun h => h) (fun _ h => h)
theorem RAt.set {w : World} {b g : Nat} {B : List UInt8} {i : Nat} {bl : Bool} (h : RAt w b g B i bl) (j : Nat) (hj : j ≤ B.length) : RAt (w.setCell ⟨b, 1, none⟩ (.int .i64 (j : Int))) b g B j bl := by
 obtain ⟨v, hv, h1, _, h3, h4⟩ := h
 exact ⟨v, block_setCell hv _, h1.keep (S := Only b) (Keeps.setCell (S := Only b) (p := ⟨b, 1, none⟩) (fun _ => rfl) _) (fun hne e => h4 hne e), hj, h3, h4⟩
theorem RAt.cells {w : World} {b g : Nat} {B : List UInt8} {i : Nat} {bl : Bool} (h : RAt w b g B i bl) :
  ∃ a c, Bs w g (.slice a B.length c) B ∧ w.cell? ⟨b, 0, none⟩ = some (.slice a B.length c) ∧ w.cell? ⟨b, 1, none⟩ = some (.int .i64 (i : Int)) ∧ w.cell? ⟨b, 2, none⟩ = some (.bool bl) ∧ w.frozen? ⟨b, 1, none⟩ = false ∧ w.frozen? ⟨b, 2, none⟩ = false ∧ b < w.heap.size ∧ i ≤ B.length ∧ B.length ≤ 20000 := by
 obtain ⟨v, hv, h1, h2, h3, h4⟩ := h
 have hf : ∃ a c, v = .slice a B.length c := by
  rcases h1 with ⟨rfl, rfl⟩ | ⟨o, cap, rfl, _⟩
  ·exact ⟨_, _, rfl⟩
  ·exact ⟨_, _, rfl⟩
 obtain ⟨a, c, rfl⟩ := hf
 exact ⟨a, c, h1, by rw [cell_of_row _ _ _ _ _ _ hv]; rfl, by rw [cell_of_row _ _ _ _ _ _ hv]; rfl, by rw [cell_of_row _ _ _ _ _ _ hv]; rfl, frozen_of_row _ _ _ _ _ hv, frozen_of_row _ _ _ _ _ hv, lt_of_block hv, h2, h3⟩

theorem RAt.lt2 {w : World} {b g : Nat} {B : List UInt8} {i : Nat} {bl : Bool} (h : RAt w b g B i bl) (hne : B ≠ []) : g < w.heap.size := by
 obtain ⟨v, _, hb, _⟩ := h
 exact hb.lt hne
end S2
end Go.Proofs.YtgipkikedacmdaaGreat
