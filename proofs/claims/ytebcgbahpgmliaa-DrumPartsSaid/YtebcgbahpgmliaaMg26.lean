/- DrumParts: appending many lists at once is appending them one by one. Conditions: none. -/
import Derived.Test.YtebcgbahpgmliaaMg25
import Derived.Test.YtebcgbahpgmliaaMg08
import Derived.Test.YtebcgbahpgmliaaMg09
import Derived.Test.YtebcgbahpgmliaaMg00
set_option maxRecDepth 100000
set_option maxHeartbeats 16000000
set_option linter.unusedVariables false
namespace Go.Proofs.Ytebcgbahpgmliaa
open S2
namespace SZ
open Go.ChangeShapes Go.WideShapes Go.ChangeAt Go.RowKit Go.Joins Go.Deep
theorem cells_bl14 : Try.prog.cellsOf 39 = 1 := by kernel_rfl
theorem bytes_u14 : Try.prog.bytesOf 5 = 1 := by kernel_rfl
section
variable {H : Type} {enc : TypeId × Value → H}
theorem weightsAll_mem14 {P : Program} {e : TypeId} {d : DataW H} {n : Nat} (hn : n ∈ d.weights P e) : ∀ {l : List (DataW H)}, d ∈ l → n ∈ DataW.weightsAll P e l
 | y :: r, h => by
  unfold DataW.weightsAll
  rcases List.mem_cons.1 h with rfl | h
  ·exact List.mem_append_left _ hn
  ·exact List.mem_append_right _ (weightsAll_mem14 hn h)
theorem weights_elem14 {P : Program} {t e : TypeId} (ht : P.underlying t = some (.slice e)) {elems spare : List (DataW H)} {d : DataW H} (hd : d ∈ elems) {n : Nat} (hn : n ∈ d.weights P e) : n ∈ (DataW.slice elems spare : DataW H).weights P t := by
 simp only [DataW.weights, ht]
 exact List.mem_cons_of_mem _ (List.mem_append_left _ (weightsAll_mem14 hn hd))
theorem weightsEach_mem14 {P : Program} {n : Nat} : ∀ {ts : List TypeId} {ds : List (DataW H)} {j : Nat} {t : TypeId} {d : DataW H}, ts[j]? = some t → ds[j]? = some d → n ∈ d.weights P t → n ∈ DataW.weightsEach P ts ds
 | t0 :: ts, d0 :: ds, 0, t, d, ht, hd, hn => by
  simp at ht hd
  subst ht hd
  unfold DataW.weightsEach
  exact List.mem_append_left _ hn
 | t0 :: ts, d0 :: ds, j + 1, t, d, ht, hd, hn => by
  unfold DataW.weightsEach
  exact List.mem_append_right _ (weightsEach_mem14 (by simpa using ht) (by simpa using hd) hn)
theorem bytes_cells14 {w : World} {cs : List Value} {fuel : Nat} {x : DataW H × List MemPlace} (hf' : DataW.trod enc Try.prog w 0 (fun _ => true) true fuel 39 cs = some x) :
  ∃ (a : Option Addr) (l : List UInt8) (cap g : Nat), cs = [.slice a l.length cap] ∧ Bw w g (.slice a l.length cap) l ∧ (l ≠ [] → g < w.heap.size) ∧ (l.length = 0 ∨ ∃ n ∈ x.1.weights Try.prog 39, l.length ≤ n) := by
 rcases open_ints Try.underlying39 Try.underlying5 cells_u8 hf' with ⟨hcs, _⟩ | ⟨a, len, cap, zs, hcs, _, hl, hm, hz, hx, hcell, hwf⟩
 ·exact ⟨none, [], 0, 0, hcs, ⟨none, 0, rfl, fun _ => ⟨rfl, rfl⟩, Nat.zero_le _, fun h => absurd rfl h⟩, fun h => absurd rfl h, .inl rfl⟩
 ·subst hcs
  simp only [if_true] at hz
  have hlen : (zs.take len).length = len := by rw [List.length_take]; omega
  have hL : ∃ l : List UInt8, zs.take len = l.map fun x => (x.toNat : Int) := by
   have hwf2 : ∀ n ∈ zs.take len, (Lit.int .u8 n).wf = true := fun n hn => hwf n (List.mem_of_mem_take hn)
   clear hlen hcell hwf hx hf' hz
   generalize zs.take len = ys at *
   induction ys with
   | nil => exact ⟨[], rfl⟩
   | cons z ys ih =>
    obtain ⟨x, rfl⟩ := byte_wf (hwf2 z (by simp))
    obtain ⟨l, rfl⟩ := ih (fun n hn => hwf2 n (by simp [hn]))
    exact ⟨x :: l, rfl⟩
  obtain ⟨l, hl2⟩ := hL
  have hll : l.length = len := by rw [← hlen, hl2, List.length_map]
  obtain ⟨g, hg⟩ : ∃ g, l ≠ [] → g < w.heap.size ∧ ∃ o, some a = some ⟨g, o, none⟩ ∧ ∀ (j : Nat) (x : UInt8), l[j]? = some x → w.cell? ⟨g, o + j, none⟩ = some (bv x) := by
   by_cases hne : l = []
   ·exact ⟨0, fun h => absurd hne h⟩
   ·have hpos : 0 < len := by rw [← hll]; exact List.length_pos_iff.2 hne
    obtain ⟨b, o, rfl, hb, hx2⟩ := at_addr (n := zs.length) hcell (by omega)
    refine ⟨b, fun _ => ⟨hb, o, rfl, fun j x hj => ?_⟩⟩
    have hjl : j < len := by
     have := (List.getElem?_eq_some_iff.1 hj).1
     omega
    rw [hx2 j (by omega)]
    have h1 : (zs.take len)[j]? = some (x.toNat : Int) := by rw [hl2]; simp [hj]
    rw [List.getElem?_take_of_lt hjl] at h1
    simp [List.getD, h1, bv]
  refine ⟨some a, l, cap, g, by rw [hll], ⟨some a, cap, rfl, (fun h => by cases h), by rw [hll]; omega, fun hne => (hg hne).2⟩, fun hne => (hg hne).1, .inr ⟨zs.length * 1, ?_, ?_⟩⟩
  ·rw [hx]
   simp only [DataW.weights, Try.underlying39, bytes_u14]
   have e : (lits (H := H) .u8 (zs.take len)).length + (lits (H := H) .u8 (zs.drop len)).length = zs.length := by simp [lits]; omega
   rw [e]
   exact List.mem_cons_self
  ·rw [hll, Nat.mul_one]
   rw [List.length_take] at hlen
   omega
theorem blists_cells14 {w : World} {cs : List Value} {fuel : Nat} {x : DataW H × List MemPlace} (hf' : DataW.trod enc Try.prog w 0 (fun _ => true) true fuel 32 cs = some x) :
  ∃ (a : Option Addr) (L : List (List UInt8)) (cap : Nat), cs = [.slice a L.length cap] ∧ Bl w (fun k => k < w.heap.size) (.slice a L.length cap) L ∧ L.length ≤ maxLen ∧ ∀ l ∈ L, l.length = 0 ∨ ∃ n ∈ x.1.weights Try.prog 32, l.length ≤ n := by
 rcases open_slice Try.underlying32 hf' with ⟨hcs, _⟩ | ⟨a, len, cap, m, n, D, Pl, hcs, _, hl, hm, hmm, hx, hi⟩
 ·exact ⟨none, [], 0, hcs, ⟨none, 0, rfl, fun h => absurd rfl h⟩, Nat.zero_le _, fun r h => (by cases h)⟩
 ·subst hcs
  simp only [if_true] at hmm
  subst hmm
  have hone : ∀ i, i < len → ∃ q : List UInt8, (∃ xa xc gx, w.cell? (a.add i) = some (.slice xa q.length xc) ∧ Bw w gx (.slice xa q.length xc) q ∧ (q ≠ [] → gx < w.heap.size)) ∧ (q.length = 0 ∨ ∃ n ∈ (D i).weights Try.prog 39, q.length ≤ n) := by
   intro i hlt
   obtain ⟨cs', hc, ht⟩ := hi i (by omega)
   rw [cells_bl14] at hc
   obtain ⟨_, hlen, hat⟩ := World.cells?_some hc
   match cs', hlen with
   | [c0], _ =>
    obtain ⟨qa, ql, qc, g, h0, h1, h2, h3⟩ := bytes_cells14 ht
    simp only [List.cons.injEq, and_true] at h0
    subst h0
    refine ⟨ql, ⟨qa, qc, g, ?_, h1, h2⟩, h3⟩
    have := hat 0 (by omega)
    rw [Nat.mul_one] at this
    have e : (a.add i).add 0 = a.add i := by unfold Addr.add; split <;> simp_all
    rw [e] at this
    exact this
  obtain ⟨f, hf2⟩ : ∃ f : Nat → List UInt8, ∀ i, i < len → (∃ xa xc gx, w.cell? (a.add i) = some (.slice xa (f i).length xc) ∧ Bw w gx (.slice xa (f i).length xc) (f i) ∧ (f i ≠ [] → gx < w.heap.size)) ∧ ((f i).length = 0 ∨ ∃ n ∈ (D i).weights Try.prog 39, (f i).length ≤ n) :=
   ⟨fun i => if h : i < len then Classical.choose (hone i h) else [], fun i hlt => by simp only [hlt, dif_pos]; exact Classical.choose_spec (hone i hlt)⟩
  have hlen : ((List.range len).map f).length = len := by simp
  have hat : ∀ (j : Nat) (s : List UInt8), ((List.range len).map f)[j]? = some s → j < len ∧ s = f j := by
   intro j s hj
   have hjl : j < len := by
    have := (List.getElem?_eq_some_iff.1 hj).1
    simpa using this
   exact ⟨hjl, by simpa [List.getElem?_map, List.getElem?_range, hjl, eq_comm] using hj⟩
  have hmem : ∀ s ∈ (List.range len).map f, ∃ i, i < len ∧ s = f i := by
   intro s hs
   obtain ⟨i, hi2, rfl⟩ := List.mem_map.1 hs
   exact ⟨i, List.mem_range.1 hi2, rfl⟩
  refine ⟨some a, (List.range len).map f, _, by rw [hlen], ⟨_, _, rfl, fun hne => ?_⟩, by rw [hlen]; omega, fun s hs => ?_⟩
  ·have h0 : 0 < len := by
    rcases Nat.eq_zero_or_pos len with h | h
    ·subst h
     exact absurd rfl hne
    ·exact h
   obtain ⟨⟨_, _, _, h00, _⟩, _⟩ := hf2 0 h0
   have e : a.add 0 = a := by unfold Addr.add; split <;> simp_all
   rw [e] at h00
   obtain ⟨b, off, spot⟩ := a
   have hspot : spot = none := World.cell?_spot h00
   subst hspot
   refine ⟨b, off, rfl, World.block_lt_of_cell? _ _ h00, World.block_lt_of_cell? _ _ h00, fun i s hi' => ?_⟩
   obtain ⟨hil, rfl⟩ := hat i s hi'
   obtain ⟨⟨xa, xc, gx, g0, g1, g2⟩, _⟩ := hf2 i hil
   rw [Go.WideShapes.add_plain] at g0
   exact ⟨xa, xc, gx, g0, g1, g2⟩
  ·obtain ⟨i, hil, rfl⟩ := hmem s hs
   rcases (hf2 i hil).2 with h | ⟨n, hn, h⟩
   ·exact .inl h
   ·refine .inr ⟨n, ?_, h⟩
    rw [hx]
    exact weights_elem14 Try.underlying32 (List.mem_map.2 ⟨i, List.mem_range.2 hil, rfl⟩) hn
theorem open_blists14 {r : Reach} {b0 : Nat} {w : World} {v : Value} {d : DataW H} {p : List MemPlace} (hv : Value.okWide Try.prog w r b0 32 v) (h : DataW.Trod enc Try.prog w 0 (fun _ => true) true 32 v d p) :
  ∃ (a : Option Addr) (L : List (List UInt8)) (cap : Nat), v = .slice a L.length cap ∧ Bl w (fun k => k < w.heap.size) v L ∧ L.length ≤ maxLen ∧
   ∀ (ts : List TypeId) (ds : List (DataW H)) (i : Nat), (DataW.weightsEach Try.prog ts ds).all (· ≤ reachBytes) = true → ts[i]? = some 32 → ds[i]? = some d → ∀ l ∈ L, l.length ≤ 140737488355328 := by
 obtain ⟨a0, len, cap, rfl⟩ := okWide_slice Try.underlying32 hv
 obtain ⟨fuel, hf⟩ := h
 have hf' : DataW.trod enc Try.prog w 0 (fun _ => true) true fuel 32 [.slice a0 len cap] = some (d, p) := by simpa [Value.cells] using hf
 obtain ⟨a, L, cap', hcs, h1, h2, h3⟩ := blists_cells14 hf'
 simp only [List.cons.injEq, and_true] at hcs
 rw [hcs]
 refine ⟨a, L, cap', rfl, h1, h2, fun ts ds i hsz ht hd l hl => ?_⟩
 rcases h3 l hl with h | ⟨n, hn, h⟩
 ·omega
 ·have hm := weightsEach_mem14 ht hd hn
  have h4 := List.all_eq_true.1 hsz n hm
  have h5 := reachBytes_lt
  simp only [decide_eq_true_eq] at h4
  omega
end
theorem whole14_any (w : World) (T : Nat → Prop) (v : Value) (L : List (List UInt8)) (h : Bl w T v L) (hT : ∀ k, T k → k < w.heap.size) (hL : L.length ≤ 1000000) (hs : totL L ≤ 1000000000000) :
  Calls Try.prog 16 #[v] w fun r w' => ∃ v' g, r = .returned v' ∧ Row w' g v' L.flatten ∧ New w g ∧ Keeps (fun _ => False) w w' := by
 obtain ⟨a, cap, rfl⟩ := h.form
 have HB := Lib.hid h
 have HT := Lib.hid hT
 clear h hT
 go_enter Try.func16, Try.ntmps16
 go_wp2
 go_loopw [3, 4] (fun r i wr => ∃ (k : Nat) (g : Option Nat), k ≤ L.length ∧ i = .int .i64 k ∧ Row wr g r (L.take k).flatten ∧ New w g ∧ Keeps (fun _ => False) w wr) (fun _ i _ => L.length - (RowKit.intOf i).toNat)
 case atStart => exact ⟨0, none, Nat.zero_le _, rfl, Row.nil _, (fun k e => by cases e), Keeps.refl _ _⟩
 case round =>
  obtain ⟨k, g, hk, rfl, hro, hnew, hkp⟩ := hrel
  by_cases hlt : k < L.length
  ·obtain ⟨x, hx⟩ := get_lt14 hlt
   obtain ⟨gb, o, xa, xc, gx, rfl, hTg, hgq, hc, hb, hTx⟩ := HB.out.at hx
   have hc2 := hkp.cell (b := gb) (o := o + k) (fun h => h) hc
   have hgq2 := Nat.lt_of_lt_of_le hgq hkp.size
   have hb2 := hb.keep hkp (fun hne h => h)
   have hlen := totL_take hx
   have hle := totL_le L (k + 1)
   have HLEN : Hid ((L.take k).flatten.length + x.length ≤ 1099511627776) := by
    show _ ≤ _
    have e : (L.take k).flatten.length = totL (L.take k) := rfl
    omega
   have HX := Lib.hid hx
   have HC := Lib.hid hb2
   have HRO1 := Lib.hid hro
   have HN1 := Lib.hid hnew
   have HK1 := Lib.hid hkp
   obtain ⟨ra, rn, rc, hrv⟩ := hro.form
   subst hrv
   clear hb hTx hc hgq hx hb2 hro hnew hkp hlen hle hTg
   go_wp2_with (at_builtin; refine wpList_app rfl (.tmp 11) (.tmp 15) 39 rfl rfl rfl HRO1.out HC.out.src HLEN.out ?_; intro v' w' g' h1 h2 h3; obtain ⟨va, vn, vc, rfl⟩ := h1.form; have H1 := Lib.hid h1; have H2 := Lib.hid h2; have H3 := Lib.hid h3; clear h1 h2 h3)
   go_roundw
   case rel =>
    refine ⟨k + 1, g', hlt, by go_num, by rw [flat_take HX.out]; exact H1.out, ?_, ?_⟩
    ·rcases H3.out with e | e
     ·rw [e]; exact HN1.out
     ·exact e.later HK1.out
    ·refine HK1.out.trans (Keeps.grown H2.out (S := fun k => g = some k) (fun k _ e => e)) (fun x hx e => ?_)
     have := HN1.out x e
     omega
   case measure => simp [RowKit.intOf]; omega
  ·obtain rfl : k = L.length := by omega
   go_wp2
   go_ret
   exact ⟨_, g, rfl, by simpa using hro, hnew, hkp⟩
end SZ
end Go.Proofs.Ytebcgbahpgmliaa

namespace Go.Proofs.Ytebcgbahpgmliaa
open S2
namespace SZ
open Go.ChangeShapes Go.WideShapes Go.ChangeAt Go.RowKit
def dP (f : Int) (bs : List UInt8) (n : Int) (k : Nat) : Dm := ⟨[⟨f, bs, 0⟩], n, -1, false, k⟩
def dE (n : Int) (k : Nat) : Dm := ⟨[], n, -1, false, k⟩
theorem goodN_of {f : Int} (h1 : 1 ≤ f) (h2 : f ≤ 1000) : goodN f = true := by unfold goodN; simp [h1, h2]
section
variable {f n : Int} {bs l : List UInt8} {k : Nat}
theorem opD_P {D : Dm} (hg : goodN f = true) (ho : D.off = false) (hl : D.left = -1) (K : Dm → Int × Dm) : opD D f K = K D := by
 unfold opD
 rw [if_neg (by rw [hg]; decide), if_neg (by rw [ho, hl]; rintro (h | h) <;> cases h), if_neg (by rw [hl]; decide)]
theorem dP_1 (hg : goodN f = true) (h : (bs.length : Int) ≤ n) : appendD (newD n) f bs = (0, dP f bs n 1) := by
 unfold appendD
 rw [opD_P hg rfl rfl]
 unfold appendK
 rw [if_neg]
 ·rfl
 ·show ¬ (n - ((0 : Nat) : Int) < _)
  omega
theorem dP_2 (hg : goodN f = true) (h : (bs.length : Int) + l.length ≤ n) : appendD (dP f bs n k) f l = (0, dP f (bs ++ l) n (k + 1)) := by
 unfold appendD
 rw [opD_P hg rfl rfl]
 unfold appendK
 rw [if_neg]
 ·show (0, (⟨putF [⟨f, bs, 0⟩] (addF [⟨f, bs, 0⟩] f l), n, -1, false, k + 1⟩ : Dm)) = _
  have e1 : addF [⟨f, bs, 0⟩] f l = ⟨f, bs ++ l, 0⟩ := by simp [addF, getF]
  rw [e1]
  simp [putF, dP]
 ·show ¬ (n - ((bs.length + 0 : Nat) : Int) < _)
  omega
theorem dP_3 (hg : goodN f = true) (h : (bs.length : Int) = n) : appendD (dP f bs n k) f ([[120]] : List (List UInt8)).flatten = (5, dP f bs n k) := by
 unfold appendD
 rw [opD_P hg rfl rfl]
 unfold appendK
 rw [if_pos]
 show (n - ((bs.length + 0 : Nat) : Int) < ((1 : Nat) : Int))
 omega
theorem getF_P : getF [⟨f, bs, 0⟩] f = some ⟨f, bs, 0⟩ := by simp [getF]
theorem dP_4 (hg : goodN f = true) : readD (dP f bs n k) f = (bs, 0) := by
 unfold readD
 rw [if_neg (by rw [hg]; decide), if_neg (by show ¬ (false = true); decide)]
 show (match getF [⟨f, bs, 0⟩] f with | some f => (f.b, (0 : Int)) | none => ([], 7)) = _
 rw [getF_P]
theorem dP_5 : ∃ c : Int, readD (dP f bs n k) (f + 1) = ([], c) ∧ c ≠ 0 := by
 unfold readD
 by_cases hg : goodN (f + 1) = false
 ·exact ⟨2, by rw [if_pos hg], by decide⟩
 ·refine ⟨7, ?_, by decide⟩
  rw [if_neg hg, if_neg (by show ¬ (false = true); decide)]
  show (match getF [⟨f, bs, 0⟩] (f + 1) with | some f => (f.b, (0 : Int)) | none => ([], 7)) = _
  have e : getF [⟨f, bs, 0⟩] (f + 1) = none := by
   unfold getF
   rw [List.find?_cons]
   have h2 : ((f == f + 1) : Bool) = false := by simp; omega
   rw [h2]
   rfl
  rw [e]
theorem dP_6 (hg : goodN f = true) : deleteD (dP f bs n k) f = (0, dE n (k + 1)) := by
 unfold deleteD
 rw [opD_P hg rfl rfl]
 unfold deleteK
 show (match getF [⟨f, bs, 0⟩] f with | some _ => ((0 : Int), (⟨delF [⟨f, bs, 0⟩] f, n, -1, false, k + 1⟩ : Dm)) | none => (7, _)) = _
 rw [getF_P]
 simp [delF, dE]
theorem dP_7 (hg : goodN f = true) : deleteD (dE n k) f = (7, dE n k) := by
 unfold deleteD
 rw [opD_P hg rfl rfl]
 rfl
theorem dP_free : (dP f bs n k).free = n - bs.length := by
 show n - ((bs.length + 0 : Nat) : Int) = _
 omega
theorem dE_free : (dE n k).free = n := by
 show n - ((0 : Nat) : Int) = _
 omega
end
def dK (f : Int) (L : List (List UInt8)) (n : Int) (k : Nat) : Dm := if k = 0 then newD n else dP f (L.take k).flatten n k
theorem dK_done (f : Int) (L : List (List UInt8)) (n : Int) (k : Nat) : (dK f L n k).done = k := by
 unfold dK
 split
 ·rename_i h; rw [h]; rfl
 ·rfl
theorem dK_step {f n : Int} {L : List (List UInt8)} {k : Nat} {l : List UInt8} (hg : goodN f = true) (hl : L[k]? = some l) (hn : (totL L : Int) ≤ n) : appendD (dK f L n k) f ([l] : List (List UInt8)).flatten = (0, dK f L n (k + 1)) := by
 have e : ([l] : List (List UInt8)).flatten = l := by simp
 have h1 := totL_take hl
 have h2 := totL_le L (k + 1)
 rw [e]
 unfold dK
 rw [if_neg (Nat.succ_ne_zero k)]
 by_cases h0 : k = 0
 ·subst h0
  rw [if_pos rfl, flat_take hl]
  rw [totL_nil] at h1
  rw [dP_1 hg (by omega)]
  simp
 ·rw [if_neg h0, flat_take hl]
  refine dP_2 hg ?_
  have e2 : (L.take k).flatten.length = totL (L.take k) := rfl
  omega

structure Two (w x : World) (a : Nat) (A : Nat → Prop) (D : Dm) (b : Nat) (B : Nat → Prop) (E : Dm) : Prop where
 l : Liv w x a A D
 r : Liv w x b B E
 d : ∀ k, A k → ¬ B k
section
variable {w x y : World} {a b : Nat} {A B : Nat → Prop} {D E D' E' : Dm}
theorem Two.keep (h : Two w x a A D b B E) (hk : Keeps (fun _ => False) x y) : Two w y a A D b B E := ⟨h.l.keep hk, h.r.keep hk, h.d⟩
theorem Two.left (h : Two w x a A D b B E) (hk : Keeps A x y) (hl : Liv w y a (Grow A x y) D') : Two w y a (Grow A x y) D' b B E :=
 ⟨hl, h.r.away hk (fun k hb ha => h.d k ha hb) h.l.own, fun k hk2 hb => by
  rcases hk2 with h1 | h1
  ·exact h.d k h1 hb
  ·have := h.r.lt k hb; have := h1.1; omega⟩
theorem Two.right (h : Two w x a A D b B E) (hk : Keeps B x y) (hl : Liv w y b (Grow B x y) E') : Two w y a A D b (Grow B x y) E' :=
 ⟨h.l.away hk h.d h.r.own, hl, fun k ha hk2 => by
  rcases hk2 with h1 | h1
  ·exact h.d k ha h1
  ·have := h.l.lt k ha; have := h1.1; omega⟩
end
theorem bl_bw14 (w : World) {g : Nat} {a : Option Addr} {n c : Nat} {l : List UInt8} (h : Bw w g (.slice a n c) l) (X : World) (hX : X = w.alloc (.cells #[.slice a n c] 39)) :
  Keeps (fun _ => False) w X ∧ Bl X (fun k => Since w X k ∨ l ≠ [] ∧ k = g) (.slice (some ⟨w.heap.size, 0, none⟩) 1 1) [l] := by
 have hb := heap_alloc_new w (.cells #[.slice a n c] 39)
 rw [← hX] at hb
 have hk : Keeps (fun _ => False) w X := by rw [hX]; exact Keeps.alloc _ _ _
 have hs : X.heap.size = w.heap.size + 1 := by rw [hX]; simp
 have hn : n = l.length := by
  obtain ⟨a', c', hv, _⟩ := h
  simp only [Value.slice.injEq] at hv
  exact hv.2.1
 refine ⟨hk, ⟨_, 1, rfl, fun _ => ⟨w.heap.size, 0, rfl, .inl ⟨Nat.le_refl _, by omega⟩, by omega, fun i x hx => ?_⟩⟩⟩
 match i, hx with
 | 0, hx =>
  simp at hx
  subst hx
  exact ⟨a, c, g, by rw [blk_cellp hb, ← hn]; rfl, by rw [← hn]; exact h.keep hk (fun _ h => h), fun hne => .inr ⟨hne, rfl⟩⟩
theorem totL_bound {L : List (List UInt8)} {B : Nat} (h : ∀ l ∈ L, l.length ≤ B) : ∀ k, k ≤ L.length → totL (L.take k) ≤ k * B := by
 intro k
 induction k with
 | zero => intro _; rw [totL_nil]; omega
 | succ k ih =>
  intro hk
  obtain ⟨l, hl⟩ := get_lt14 (l := L) (k := k) (by omega)
  have := totL_take hl
  have := ih (by omega)
  have := h l (List.mem_of_getElem? hl)
  rw [Nat.succ_mul]
  omega
theorem drumParts_walk (v : Value) (L : List (List UInt8)) (f : Int) (w : World) (hB : Bl w (fun k => k < w.heap.size) v L) (hm : L.length ≤ maxLen) (hr : ∀ l ∈ L, l.length ≤ 140737488355328) (hf : (Lit.int .i64 f).wf = true) :
  Calls Try.prog 6 #[v, .int .i64 f] w fun e w' => e = .returned (.bool true) ∧ Below w.heap.size w w' := by
 have hlive := fun W => live14_any W
 have HLIVE := Lib.hid hlive
 clear hlive
 have kc := fun (w : World) (C : Array Value) (n c : Nat) => Lib.run_convert_bytes_const (P := Try.prog) w 39 5 C n c Try.underlying39 Try.underlying5
 obtain ⟨a, cap, rfl⟩ := hB.form
 have HB := Lib.hid hB
 have HR := Lib.hid hr
 have HM := Lib.hid hm
 have HF := Lib.hid hf
 clear hB hr hm hf
 go_enter Try.func6, Try.ntmps6
 go_wp2
 go_loopw [5, 6] (fun s i wr => ∃ k : Nat, k ≤ L.length ∧ k ≤ 61 ∧ i = .int .i64 k ∧ s = .int .i64 (totL (L.take k)) ∧ w = wr) (fun _ i _ => L.length - (RowKit.intOf i).toNat)
 case atStart => exact ⟨0, Nat.zero_le _, by decide, rfl, rfl, rfl⟩
 case round =>
  obtain ⟨k, hk, hk61, rfl, rfl, rfl⟩ := hrel
  by_cases hlt : k < L.length
  ·by_cases h60 : k ≤ 60
   ·obtain ⟨l, hl⟩ := get_lt14 hlt
    obtain ⟨g, o, xa, xc, gx, rfl, hT, hgq, hc, hb, hx⟩ := HB.out.at hl
    have hlen := totL_take hl
    have hbd := totL_bound HR.out (k + 1) hlt
    have hw1 : wrap64 ((totL (L.take k) : Int) + (l.length : Int)) = (totL (L.take (k + 1)) : Int) := by unfold wrap64; omega
    have d1 : decide ((k : Int) < (L.length : Int)) = true := decide_eq_true (by omega)
    have d2 : (k : Int) ≤ 60 := by omega
    have HW1 := Lib.hid hw1
    clear hb hx hl hlen hbd hw1
    go_wp2
    go_roundw
    case rel => exact ⟨k + 1, hlt, by omega, by go_num, by rw [HW1.out], trivial⟩
    case measure => simp [RowKit.intOf]; omega
   ·have d1 : decide ((k : Int) < (L.length : Int)) = true := decide_eq_true (by omega)
    have d2 : ¬ (k : Int) ≤ 60 := by omega
    have d3 : decide ((60 : Int) < (L.length : Int)) = true := decide_eq_true (by omega)
    go_wp2_with (go_at_call 9; refine (HLIVE.out _).mono ?_; rintro e w1 ⟨rfl, hb⟩; have HBB := Lib.hid hb; clear hb)
    go_ret
    exact ⟨rfl, HBB.out⟩
  ·obtain rfl : k = L.length := by omega
   have d1 : decide ((L.length : Int) < (L.length : Int)) = false := decide_eq_false (by omega)
   rw [totL_all]
   by_cases h1 : 60 < L.length
   ·have d3 : decide ((60 : Int) < (L.length : Int)) = true := decide_eq_true (by omega)
    go_wp2_with (go_at_call 9; refine (HLIVE.out _).mono ?_; rintro e w1 ⟨rfl, hb⟩; have HBB := Lib.hid hb; clear hb)
    go_ret
    exact ⟨rfl, HBB.out⟩
   have d3 : decide ((60 : Int) < (L.length : Int)) = false := decide_eq_false (by omega)
   by_cases h2 : 20000 < totL L
   ·have d4 : decide ((20000 : Int) < (totL L : Int)) = true := decide_eq_true (by omega)
    go_wp2_with (go_at_call 9; refine (HLIVE.out _).mono ?_; rintro e w1 ⟨rfl, hb⟩; have HBB := Lib.hid hb; clear hb)
    go_ret
    exact ⟨rfl, HBB.out⟩
   have d4 : decide ((20000 : Int) < (totL L : Int)) = false := decide_eq_false (by omega)
   by_cases h3 : f < 1
   ·have d5 : decide (f < 1) = true := decide_eq_true h3
    go_wp2_with (go_at_call 9; refine (HLIVE.out _).mono ?_; rintro e w1 ⟨rfl, hb⟩; have HBB := Lib.hid hb; clear hb)
    go_ret
    exact ⟨rfl, HBB.out⟩
   have d5 : decide (f < 1) = false := decide_eq_false h3
   by_cases h4 : 1000 < f
   ·go_wp2_with (go_at_call 9; refine (HLIVE.out _).mono ?_; rintro e w1 ⟨rfl, hb⟩; have HBB := Lib.hid hb; clear hb)
    go_ret
    exact ⟨rfl, HBB.out⟩
   have hg : goodN f = true := goodN_of (by omega) (by omega)
   obtain ⟨N, hN⟩ : ∃ N : Nat, N = totL L := ⟨_, rfl⟩
   have hNL : L.flatten.length = N := hN.symm
   rw [← hN] at h2 d4 ⊢
   have hN2 : N ≤ 20000 := by omega
   have hL60 : L.length ≤ 60 := by omega
   have HG := Lib.hid hg
   have HN := Lib.hid hNL
   have HT := Lib.hid hN
   clear hg hN hNL h2 HR d1
   go_wp2_with (first
    | (go_at_call 11; refine (num14_any _ _).mono ?_; rintro e w' ⟨rfl, rfl⟩)
    | fail)
   refine (new_good (N : Int) (by omega) (by omega) _).mono ?_
   intro e w1 hn
   obtain ⟨da, rfl, hb0, hk1, hp1⟩ := Liv.new (Below.refl w.heap.size w) hn
   obtain ⟨A1, hp2⟩ : ∃ A, Liv w w1 da A (newD N) := ⟨_, hp1⟩
   have HLA := Lib.hid hp2
   clear hb0 hk1 hp1 hn hp2
   go_wp2_with fail
   refine (new_good (N : Int) (by omega) (by omega) _).mono ?_
   intro e w2 hn
   obtain ⟨db, rfl, hb0, hk1, hp1⟩ := Liv.new HLA.out.bel hn
   have htw : Two w w2 da A1 (newD N) db (Grow (fun _ => False) w1 w2) (newD N) := ⟨HLA.out.keep hk1, hp1, fun k ha hb => by
    rcases hb with h | h
    ·exact h
    ·have := HLA.out.lt k ha; have := h.1; omega⟩
   obtain ⟨B1, htw2⟩ : ∃ B, Two w w2 da A1 (newD N) db B (newD N) := ⟨_, htw⟩
   have HTW := Lib.hid htw2
   clear hb0 hk1 hp1 hn htw htw2 HLA
   have hap := fun (x : World) (S : Nat → Prop) (h : Liv w x da S (newD N)) => h.append f (by show 0 < 4000000; decide) (HB.out.keep (Keeps.ofBelow (S := fun _ => False) h.bel) (fun _ _ h => h)) (fun k hk2 => ⟨fun hs => by have := h.own k hs; omega, Nat.lt_of_lt_of_le hk2 h.bel.size⟩) (by omega) (by rw [← HT.out]; omega)
   rw [dP_1 HG.out (by have := HN.out; omega)] at hap
   have HAP := Lib.hid hap
   clear hap
   go_wp2_with (first
    | (go_at_call 11; refine (num14_any _ _).mono ?_; rintro e w' ⟨rfl, rfl⟩)
    | (go_at_call 14; refine (HAP.out _ _ HTW.out.l).mono ?_; rintro e w3 ⟨rfl, hk3, hl3⟩; obtain ⟨A3, hl4⟩ : ∃ A, Two w w3 da A (dP f L.flatten N 1) db B1 (newD N) := ⟨_, HTW.out.left hk3 hl3⟩; replace HTW := Lib.hid hl4; clear hk3 hl3 hl4)
    | fail)
   clear HAP
   go_loopw [11] (fun i wx => ∃ (q : Nat) (S : Nat → Prop), q ≤ L.length ∧ i = .int .i64 q ∧ Two w wx da A3 (dP f L.flatten N 1) db S (dK f L N q)) (fun i _ => L.length - (RowKit.intOf i).toNat)
   case atStart => exact ⟨0, _, Nat.zero_le _, rfl, HTW.out⟩
   case round =>
    obtain ⟨q, S2, hq, rfl, hl⟩ := hrel
    replace HTW := Lib.hid hl
    clear hl
    by_cases hlt2 : q < L.length
    ·obtain ⟨x, hx⟩ := get_lt14 hlt2
     obtain ⟨gb, o, xa, xc, gx, rfl, hTg, hgq, hc, hb, hTx⟩ := HB.out.at hx
     have hkw : Keeps (fun _ => False) w wr := Keeps.ofBelow HTW.out.l.bel
     have hc2 := hkw.cell (b := gb) (o := o + q) (fun h => h) hc
     have hgq2 := Nat.lt_of_lt_of_le hgq hkw.size
     have HC := Lib.hid (hb.keep hkw (fun hne h => h))
     have HTX := Lib.hid hTx
     have HX := Lib.hid hx
     have hxs : x.length ≤ 20000 := by have h1 := totL_take hx; have h2 := totL_le L (q + 1); have h3 := HT.out; omega
     clear hb hTx hc hgq hx hTg
     go_wp2_with fail
     obtain ⟨hk, hbl⟩ := bl_bw14 wr HC.out _ rfl
     have hw0 := HTW.out.r.bel.size
     refine (HTW.out.r.keep hk |>.append f (by rw [dK_done]; omega) hbl (fun k hk2 => ?hT) (by simp) (by unfold totL; simp; omega)).mono ?_
     case hT =>
      rcases hk2 with h | ⟨hne, h⟩
      ·exact ⟨fun hs => by have := HTW.out.r.lt k hs; have := h.1; omega, h.2⟩
      ·have h3 := HTX.out hne
       exact ⟨fun hs => by have := HTW.out.r.own k hs; omega, by rw [h]; exact Nat.lt_of_lt_of_le h3 (Nat.le_trans hw0 hk.size)⟩
     rw [dK_step HG.out HX.out (by rw [HT.out]; exact Int.le_refl _)]
     rintro e w4 ⟨rfl, hk2, hl2⟩
     have HT2 := Lib.hid ((HTW.out.keep hk).right hk2 hl2)
     clear hk hbl hk2 hl2 hw0
     go_wp2_with (first | (go_at_call 11; refine (num14_any _ _).mono ?_; rintro e w' ⟨rfl, rfl⟩) | fail)
     go_roundw
     case rel => exact ⟨q + 1, _, hlt2, by go_num, HT2.out⟩
     case measure => simp [RowKit.intOf]; omega
    ·obtain rfl : q = L.length := by omega
     by_cases h0 : L = []
     ·subst h0
      have hN0 : N = 0 := HN.out.symm
      subst hN0
      have hfr := HTW.out.l.free
      rw [dP_free] at hfr
      have HFR := Lib.hid hfr
      have HFI := Lib.hid HTW.out.l.files
      have HBW := Lib.hid HTW.out.l.bel
      clear hfr
      go_wp2_with (first
       | (go_at_call 11; refine (num14_any _ _).mono ?_; rintro e w' ⟨rfl, rfl⟩)
       | (go_at_call 27; refine HFR.out.mono ?_; rintro e w' ⟨rfl, rfl⟩)
       | (go_at_call 26; refine HFI.out.mono ?_; rintro e w5 ⟨v5, rfl, hv5, hb5⟩; obtain ⟨a5, c5, rfl, _⟩ := hv5.il; have HB5 := Lib.hid (HBW.out.trans (hb5.mono HBW.out.size)); clear hv5 hb5)
       | (go_at_call 9; refine (HLIVE.out _).mono ?_; rintro e w6 ⟨rfl, hb⟩; have HBB := Lib.hid (HB5.out.trans (hb.mono HB5.out.size)); clear hb)
       | fail)
      go_ret
      exact ⟨rfl, HBB.out⟩
     have hdk : dK f L N L.length = dP f L.flatten N L.length := by
      unfold dK
      rw [if_neg (by intro h; exact h0 (List.eq_nil_of_length_eq_zero h)), List.take_length]
     obtain ⟨W0, HW, htw⟩ : ∃ W0, Hid (W0 = L.flatten) ∧ Two w wr da A3 (dP f W0 N 1) db S2 (dP f W0 N L.length) := ⟨L.flatten, Lib.hid rfl, by have := HTW.out; rw [hdk] at this; exact this⟩
     have hWN : W0.length = N := by rw [HW.out]; exact HN.out
     replace HTW := Lib.hid htw
     have HWN := Lib.hid hWN
     have hlz : ¬ ((L.length : Int) = 0) := by intro h; exact h0 (List.eq_nil_of_length_eq_zero (by omega))
     have hrd := fun (x : World) (A : Nat → Prop) (b : Nat) (k : Nat) (h : Liv w x b A (dP f W0 N k)) => h.read f
     have hfr := fun (x : World) (A : Nat → Prop) (h : Liv w x da A (dP f W0 N 1)) => h.free
     have e0 : (dP f W0 N 1).free = 0 := by rw [dP_free, hWN]; omega
     rw [e0] at hfr
     simp only [dP_4 HG.out] at hrd
     have HRD := Lib.hid hrd
     have HFR := Lib.hid hfr
     have hap := fun (x : World) (A : Nat → Prop) (y : World) (v : Value) (h : Liv w x da A (dP f W0 N 1)) (hk : Keeps (fun _ => False) x y) (hb : Bl y (Since x y) v [[120]]) => (h.keep hk).append f (by show 1 < 4000000; decide) hb (fun k hk2 => ⟨fun hs => by have := h.lt k hs; have := hk2.1; omega, hk2.2⟩) (by decide) (by decide)
     simp only [dP_3 HG.out (by rw [hWN])] at hap
     have HAP := Lib.hid hap
     have hwh := fun (x : World) (h : Keeps (fun _ => False) w x) => whole14_any x (fun k => k < w.heap.size) (.slice a L.length cap) L (HB.out.keep h (fun _ _ h => h)) (fun k hk => Nat.lt_of_lt_of_le hk h.size) (by omega) (by rw [← HT.out]; omega)
     rw [← HW.out] at hwh
     have HWH := Lib.hid hwh
     clear hdk htw hWN hrd hfr e0 hap hwh h0
     go_wp2_with fail
     refine (HRD.out _ _ _ _ HTW.out.l).mono ?_
     rintro e w8 ⟨x8, g8, rfl, m1, m2, m3⟩
     have HTA0 : Hid (∀ k, A3 k → k < wr.heap.size) := Lib.hid HTW.out.l.lt
     have HW8 : Hid (wr.heap.size ≤ w8.heap.size) := Lib.hid m3.size
     obtain ⟨gx, hxb, hgx⟩ := row_new m1 m2
     obtain ⟨xa, xc, hx8⟩ := row_slice m1
     simp only [HWN.out] at hx8
     subst hx8
     have HXB := Lib.hid hxb
     replace HTW := Lib.hid (HTW.out.keep m3)
     have HGX : Hid (W0 ≠ [] → wr.heap.size ≤ gx) := Lib.hid hgx
     clear m1 m2 m3 hxb hgx
     go_wp2_with fail
     refine (HRD.out _ _ _ _ HTW.out.r).mono ?_
     rintro e w9 ⟨y9, g9, rfl, m1, m2, m3⟩
     obtain ⟨gy, hyb, hgy⟩ := row_new m1 m2
     obtain ⟨ya, yc, hy9⟩ := row_slice m1
     simp only [HWN.out] at hy9
     subst hy9
     replace HXB := Lib.hid (HXB.out.keep m3 (fun _ h => h))
     have HYB := Lib.hid hyb
     replace HTW := Lib.hid (HTW.out.keep m3)
     have HGY : Hid (W0 ≠ [] → w8.heap.size ≤ gy) := Lib.hid hgy
     have HTA := Lib.hid HTA0.out
     clear m1 m2 m3 hyb hgy
     -- the region
     have hgx2 : W0 ≠ [] → ¬ A3 gx := fun hne hs => by have := HTA.out gx hs; have := HGX.out hne; omega
     have hgy2 : W0 ≠ [] → ¬ A3 gy := fun hne hs => by have := HTA.out gy hs; have := HGY.out hne; have := HW8.out; omega
     have HXS := Lib.hid (fun (Y : World) (h : Keeps A3 w9 Y) => Bs.str (HXB.out.keep h hgx2))
     have HYS := Lib.hid (fun (Y : World) (h : Keeps A3 w9 Y) => Bs.str (HYB.out.keep h hgy2))
     have HT9 := Lib.hid (HTW.out.keep (Keeps.drew (fun _ => False) w9))
     have HKW : Hid (Keeps (fun _ => False) w w9.drew) := Lib.hid (Keeps.ofBelow HT9.out.l.bel)
     have hf1 : wrap64 (f + 1) = f + 1 := by unfold wrap64; omega
     have hwz : IntKind.i64.wrap 0 = 0 := by decide
     obtain ⟨c5, hc5, hcn⟩ := dP_5 (f := f) (bs := W0) (n := (N : Int)) (k := 1)
     have hr5 := fun (x : World) (A : Nat → Prop) (h : Liv w x da A (dP f W0 N 1)) => h.read (f + 1)
     simp only [hc5] at hr5
     have HR5 := Lib.hid hr5
     have hd1 := fun (x : World) (A : Nat → Prop) (h : Liv w x da A (dP f W0 N 1)) => h.delete f (by show 1 < 4000000; decide)
     simp only [dP_6 HG.out] at hd1
     have HD1 := Lib.hid hd1
     have hd2 := fun (x : World) (A : Nat → Prop) (h : Liv w x da A (dE N 2)) => h.delete f (by show 2 < 4000000; decide)
     simp only [dP_7 HG.out] at hd2
     have HD2 := Lib.hid hd2
     have hf2 := fun (x : World) (A : Nat → Prop) (h : Liv w x da A (dE N 2)) => h.free
     simp only [dE_free] at hf2
     have HF2 := Lib.hid hf2
     have HCB : Hid ((c5 != 0) = true) := Lib.hid (bne_iff_ne.2 hcn)
     clear hgx2 hgy2 hr5 hd1 hd2 hf2 hc5
     go_wp2_with fail
     refine wp_region_held_drew (S := fun Y => Keeps A3 w9 Y) (by kernel_rfl) (Keeps.drew A3 w9) (fun hHeld => ?_)
     refine wpAnyH_take (i := 0) (oi := ⟨_, _, _, _, _, _⟩) (v := ?_) rfl (by kernel_rfl) (by kernel_rfl) (by kernel_rfl) (fun _ _ _ h => h) (Or.inl ⟨by rfl, ?_⟩) (by assumption) ?_
     rotate_left
     ·intro w hSw
      go_simp
      try with_reducible rfl
     try simp only [Act.put, List.setIfInBounds_toArray, List.set_cons_zero, List.set_cons_succ]
     refine wpAnyH_take (i := 2) (oi := ⟨_, _, _, _, _, _⟩) (v := ?_) rfl (by kernel_rfl) (by kernel_rfl) (by kernel_rfl) (fun _ _ _ h => h) (Or.inl ⟨by rfl, ?_⟩) (by assumption) ?_
     rotate_left
     ·intro w hSw
      go_simp
      try with_reducible rfl
     try simp only [Act.put, List.setIfInBounds_toArray, List.set_cons_zero, List.set_cons_succ]
     refine wpAnyH_ready (rs := [1]) (by kernel_rfl) (by simp) ?_
     refine AllReadyH.cons (o := ⟨_, _, _, _, _, _⟩) rfl (fun K hK => ?_) AllReadyH.nil
     go_simp
     go_at_call 11
     refine (num14_any _ _).mono ?_
     rintro e wn ⟨rfl, rfl⟩
     refine hK.out _ _ (hHeld) (fun hHeld => ?_)
     clear hK K
     try simp only [Act.put, List.setIfInBounds_toArray, List.set_cons_zero, List.set_cons_succ]
     refine wpAnyH_ready (rs := [3]) (by kernel_rfl) (by simp) ?_
     refine AllReadyH.cons (o := ⟨_, _, _, _, _, _⟩) rfl (fun K hK => ?_) AllReadyH.nil
     go_simp
     go_at_call 11
     refine (num14_any _ _).mono ?_
     rintro e wn ⟨rfl, rfl⟩
     refine hK.out _ _ (hHeld) (fun hHeld => ?_)
     clear hK K
     try simp only [Act.put, List.setIfInBounds_toArray, List.set_cons_zero, List.set_cons_succ]
     refine wpAnyH_take (i := 4) (oi := ⟨_, _, _, _, _, _⟩) (v := ?_) rfl (by kernel_rfl) (by kernel_rfl) (by kernel_rfl) (fun _ _ _ h => h) (Or.inl ⟨by rfl, ?_⟩) (by assumption) ?_
     rotate_left
     ·intro w hSw
      go_simp
      try with_reducible rfl
     try simp only [Act.put, List.setIfInBounds_toArray, List.set_cons_zero, List.set_cons_succ]
     refine wpAnyH_take (i := 5) (oi := ⟨_, _, _, _, _, _⟩) (v := ?_) rfl (by kernel_rfl) (by kernel_rfl) (by kernel_rfl) (fun _ _ _ h => h) (Or.inl ⟨by rfl, ?_⟩) (by assumption) ?_
     rotate_left
     ·intro w hSw
      go_simp
      try with_reducible rfl
     try simp only [Act.put, List.setIfInBounds_toArray, List.set_cons_zero, List.set_cons_succ]
     refine wpAnyH_take (i := 6) (oi := ⟨_, _, _, _, _, _⟩) (v := ?_) rfl (by kernel_rfl) (by kernel_rfl) (by kernel_rfl) (fun _ _ _ h => h) (Or.inl ⟨by rfl, ?_⟩) (by assumption) ?_
     rotate_left
     ·intro w hSw
      go_simp
      try with_reducible rfl
     try simp only [Act.put, List.setIfInBounds_toArray, List.set_cons_zero, List.set_cons_succ]
     refine wpAnyH_take (i := 7) (oi := ⟨_, _, _, _, _, _⟩) (v := ?_) rfl (by kernel_rfl) (by kernel_rfl) (by kernel_rfl) (fun _ _ _ h => h) (Or.inl ⟨by rfl, ?_⟩) (by assumption) ?_
     rotate_left
     ·intro w hSw
      go_simp
      try with_reducible rfl
     try simp only [Act.put, List.setIfInBounds_toArray, List.set_cons_zero, List.set_cons_succ]
     refine wpAnyH_take (i := 8) (oi := ⟨_, _, _, _, _, _⟩) (v := ?_) rfl (by kernel_rfl) (by kernel_rfl) (by kernel_rfl) (fun _ _ _ h => h) (Or.inl ⟨by rfl, ?_⟩) (by assumption) ?_
     rotate_left
     ·intro w hSw
      have hfact := HXS.out w hSw
      go_simp
      try with_reducible rfl
     try simp only [Act.put, List.setIfInBounds_toArray, List.set_cons_zero, List.set_cons_succ]
     refine wpAnyH_take (i := 9) (oi := ⟨_, _, _, _, _, _⟩) (v := ?_) rfl (by kernel_rfl) (by kernel_rfl) (by kernel_rfl) (fun _ _ _ h => h) (Or.inl ⟨by rfl, ?_⟩) (by assumption) ?_
     rotate_left
     ·intro w hSw
      go_simp
      try with_reducible rfl
     try simp only [Act.put, List.setIfInBounds_toArray, List.set_cons_zero, List.set_cons_succ]
     refine wpAnyH_ready (rs := [10]) (by kernel_rfl) (by simp) ?_
     refine AllReadyH.cons (o := ⟨_, _, _, _, _, _⟩) rfl (fun K hK => ?_) AllReadyH.nil
     go_simp
     go_at_call 16
     refine (HWH.out _ HKW.out).mono ?_
     rintro e w10 ⟨z10, g10, rfl, m1, m2, m3⟩
     obtain ⟨za, zc, hz10⟩ := row_slice m1
     simp only [HWN.out] at hz10
     subst hz10
     have HZS := Lib.hid (Bs.str m1.bs)
     have HT10 := Lib.hid (HT9.out.keep m3)
     have HS10 : Hid (Keeps A3 w9 w10) := Lib.hid (Keeps.trans hHeld m3 (fun _ _ h => h.elim))
     clear m1 m2 m3
     refine hK.out _ _ (HS10.out) (fun hHeld => ?_)
     clear hK K
     try simp only [Act.put, List.setIfInBounds_toArray, List.set_cons_zero, List.set_cons_succ]
     refine wpAnyH_ready (rs := [11]) (by kernel_rfl) (by simp) ?_
     refine AllReadyH.cons (o := ⟨_, _, _, _, _, _⟩) rfl (fun K hK => ?_) AllReadyH.nil
     have hz := HZS.out
     go_simp
     refine hK.out _ _ (HS10.out) (fun hHeld => ?_)
     clear hK K
     try simp only [Act.put, List.setIfInBounds_toArray, List.set_cons_zero, List.set_cons_succ]
     try clear hz
     refine wpAnyH_take (i := 12) (oi := ⟨_, _, _, _, _, _⟩) (v := ?_) rfl (by kernel_rfl) (by kernel_rfl) (by kernel_rfl) (fun _ _ _ h => h) (Or.inl ⟨by rfl, ?_⟩) (by assumption) ?_
     rotate_left
     ·intro w hSw
      go_simp
      try with_reducible rfl
     try simp only [Act.put, List.setIfInBounds_toArray, List.set_cons_zero, List.set_cons_succ]
     refine wpAnyH_take (i := 13) (oi := ⟨_, _, _, _, _, _⟩) (v := ?_) rfl (by kernel_rfl) (by kernel_rfl) (by kernel_rfl) (fun _ _ _ h => h) (Or.inl ⟨by rfl, ?_⟩) (by assumption) ?_
     rotate_left
     ·intro w hSw
      go_simp
      try with_reducible rfl
     try simp only [Act.put, List.setIfInBounds_toArray, List.set_cons_zero, List.set_cons_succ]
     refine wpAnyH_take (i := 14) (oi := ⟨_, _, _, _, _, _⟩) (v := ?_) rfl (by kernel_rfl) (by kernel_rfl) (by kernel_rfl) (fun _ _ _ h => h) (Or.inl ⟨by rfl, ?_⟩) (by assumption) ?_
     rotate_left
     ·intro w hSw
      go_simp
      try with_reducible rfl
     try simp only [Act.put, List.setIfInBounds_toArray, List.set_cons_zero, List.set_cons_succ]
     refine wpAnyH_take (i := 15) (oi := ⟨_, _, _, _, _, _⟩) (v := ?_) rfl (by kernel_rfl) (by kernel_rfl) (by kernel_rfl) (fun _ _ _ h => h) (Or.inl ⟨by rfl, ?_⟩) (by assumption) ?_
     rotate_left
     ·intro w hSw
      go_simp
      try with_reducible rfl
     try simp only [Act.put, List.setIfInBounds_toArray, List.set_cons_zero, List.set_cons_succ]
     refine wpAnyH_take (i := 16) (oi := ⟨_, _, _, _, _, _⟩) (v := ?_) rfl (by kernel_rfl) (by kernel_rfl) (by kernel_rfl) (fun _ _ _ h => h) (Or.inl ⟨by rfl, ?_⟩) (by assumption) ?_
     rotate_left
     ·intro w hSw
      have hfact := HXS.out w hSw
      go_simp
      try with_reducible rfl
     try simp only [Act.put, List.setIfInBounds_toArray, List.set_cons_zero, List.set_cons_succ]
     refine wpAnyH_take (i := 17) (oi := ⟨_, _, _, _, _, _⟩) (v := ?_) rfl (by kernel_rfl) (by kernel_rfl) (by kernel_rfl) (fun _ _ _ h => h) (Or.inl ⟨by rfl, ?_⟩) (by assumption) ?_
     rotate_left
     ·intro w hSw
      go_simp
      try with_reducible rfl
     try simp only [Act.put, List.setIfInBounds_toArray, List.set_cons_zero, List.set_cons_succ]
     refine wpAnyH_take (i := 18) (oi := ⟨_, _, _, _, _, _⟩) (v := ?_) rfl (by kernel_rfl) (by kernel_rfl) (by kernel_rfl) (fun _ _ _ h => h) (Or.inl ⟨by rfl, ?_⟩) (by assumption) ?_
     rotate_left
     ·intro w hSw
      have hfact := HYS.out w hSw
      go_simp
      try with_reducible rfl
     try simp only [Act.put, List.setIfInBounds_toArray, List.set_cons_zero, List.set_cons_succ]
     refine wpAnyH_take (i := 19) (oi := ⟨_, _, _, _, _, _⟩) (v := ?_) rfl (by kernel_rfl) (by kernel_rfl) (by kernel_rfl) (fun _ _ _ h => h) (Or.inl ⟨by rfl, ?_⟩) (by assumption) ?_
     rotate_left
     ·intro w hSw
      go_simp
      try with_reducible rfl
     try simp only [Act.put, List.setIfInBounds_toArray, List.set_cons_zero, List.set_cons_succ]
     refine wpAnyH_take (i := 20) (oi := ⟨_, _, _, _, _, _⟩) (v := ?_) rfl (by kernel_rfl) (by kernel_rfl) (by kernel_rfl) (fun _ _ _ h => h) (Or.inl ⟨by rfl, ?_⟩) (by assumption) ?_
     rotate_left
     ·intro w hSw
      go_simp
      try with_reducible rfl
     try simp only [Act.put, List.setIfInBounds_toArray, List.set_cons_zero, List.set_cons_succ]
     refine wpAnyH_take (i := 21) (oi := ⟨_, _, _, _, _, _⟩) (v := ?_) rfl (by kernel_rfl) (by kernel_rfl) (by kernel_rfl) (fun _ _ _ h => h) (Or.inl ⟨by rfl, ?_⟩) (by assumption) ?_
     rotate_left
     ·intro w hSw
      go_simp
      try with_reducible rfl
     try simp only [Act.put, List.setIfInBounds_toArray, List.set_cons_zero, List.set_cons_succ]
     refine wpAnyH_take (i := 22) (oi := ⟨_, _, _, _, _, _⟩) (v := ?_) rfl (by kernel_rfl) (by kernel_rfl) (by kernel_rfl) (fun _ _ _ h => h) (Or.inl ⟨by rfl, ?_⟩) (by assumption) ?_
     rotate_left
     ·intro w hSw
      go_simp
      try with_reducible rfl
     try simp only [Act.put, List.setIfInBounds_toArray, List.set_cons_zero, List.set_cons_succ]
     refine wpAnyH_ready (rs := [23]) (by kernel_rfl) (by simp) ?_
     refine AllReadyH.cons (o := ⟨_, _, _, _, _, _⟩) rfl (fun K hK => ?_) AllReadyH.nil
     go_simp
     go_at_call 27
     refine (HFR.out _ _ HT10.out.l).mono ?_
     rintro e w10 ⟨rfl, rfl⟩
     refine hK.out _ _ (HS10.out) (fun hHeld => ?_)
     clear hK K
     try simp only [Act.put, List.setIfInBounds_toArray, List.set_cons_zero, List.set_cons_succ]
     refine wpAnyH_take (i := 24) (oi := ⟨_, _, _, _, _, _⟩) (v := ?_) rfl (by kernel_rfl) (by kernel_rfl) (by kernel_rfl) (fun _ _ _ h => h) (Or.inl ⟨by rfl, ?_⟩) (by assumption) ?_
     rotate_left
     ·intro w hSw
      go_simp
      try with_reducible rfl
     try simp only [Act.put, List.setIfInBounds_toArray, List.set_cons_zero, List.set_cons_succ]
     refine wpAnyH_take (i := 25) (oi := ⟨_, _, _, _, _, _⟩) (v := ?_) rfl (by kernel_rfl) (by kernel_rfl) (by kernel_rfl) (fun _ _ _ h => h) (Or.inl ⟨by rfl, ?_⟩) (by assumption) ?_
     rotate_left
     ·intro w hSw
      go_simp
      try with_reducible rfl
     try simp only [Act.put, List.setIfInBounds_toArray, List.set_cons_zero, List.set_cons_succ]
     refine wpAnyH_take (i := 26) (oi := ⟨_, _, _, _, _, _⟩) (v := ?_) rfl (by kernel_rfl) (by kernel_rfl) (by kernel_rfl) (fun _ _ _ h => h) (Or.inl ⟨by rfl, ?_⟩) (by assumption) ?_
     rotate_left
     ·intro w hSw
      go_simp
      try with_reducible rfl
     try simp only [Act.put, List.setIfInBounds_toArray, List.set_cons_zero, List.set_cons_succ]
     refine wpAnyH_take (i := 27) (oi := ⟨_, _, _, _, _, _⟩) (v := ?_) rfl (by kernel_rfl) (by kernel_rfl) (by kernel_rfl) (fun _ _ _ h => h) (Or.inl ⟨by rfl, ?_⟩) (by assumption) ?_
     rotate_left
     ·intro w hSw
      go_simp
      try with_reducible rfl
     try simp only [Act.put, List.setIfInBounds_toArray, List.set_cons_zero, List.set_cons_succ]
     refine wpAnyH_take (i := 28) (oi := ⟨_, _, _, _, _, _⟩) (v := ?_) rfl (by kernel_rfl) (by kernel_rfl) (by kernel_rfl) (fun _ _ _ h => h) (Or.inl ⟨by rfl, ?_⟩) (by assumption) ?_
     rotate_left
     ·intro w hSw
      go_simp
      try with_reducible rfl
     try simp only [Act.put, List.setIfInBounds_toArray, List.set_cons_zero, List.set_cons_succ]
     refine wpAnyH_ready (rs := [29]) (by kernel_rfl) (by simp) ?_
     refine AllReadyH.cons (o := ⟨_, _, _, _, _, _⟩) rfl (fun K hK => ?_) AllReadyH.nil
     go_simp
     refine hK.out _ _ (Keeps.trans HS10.out (Keeps.alloc (fun _ => False) _ _) (fun _ _ h => h.elim)) (fun hHeld => ?_)
     clear hK K
     try simp only [Act.put, List.setIfInBounds_toArray, List.set_cons_zero, List.set_cons_succ]
     refine wpAnyH_ready (rs := [30]) (by kernel_rfl) (by simp) ?_
     refine AllReadyH.cons (o := ⟨_, _, _, _, _, _⟩) rfl (fun K hK => ?_) AllReadyH.nil
     go_simp
     refine hK.out _ _ (Keeps.trans HS10.out (Keeps.alloc (fun _ => False) _ _) (fun _ _ h => h.elim)) (fun hHeld => ?_)
     clear hK K
     try simp only [Act.put, List.setIfInBounds_toArray, List.set_cons_zero, List.set_cons_succ]
     refine wpAnyH_ready (rs := [31]) (by kernel_rfl) (by simp) ?_
     refine AllReadyH.cons (o := ⟨_, _, _, _, _, _⟩) rfl (fun K hK => ?_) AllReadyH.nil
     go_simp
     refine hK.out _ _ (Keeps.trans hHeld (Keeps.alloc (fun _ => False) _ _) (fun _ _ h => h.elim)) (fun hHeld => ?_)
     clear hK K
     try simp only [Act.put, List.setIfInBounds_toArray, List.set_cons_zero, List.set_cons_succ]
     refine wpAnyH_ready (rs := [32]) (by kernel_rfl) (by simp) ?_
     refine AllReadyH.cons (o := ⟨_, _, _, _, _, _⟩) rfl (fun K hK => ?_) AllReadyH.nil
     go_simp
     go_at_call 14
     refine (HAP.out w10 _ _ _ HT10.out.l (lists_one w10 [120] #[.int .u8 120] rfl (by simp [maxLen]) _ _ rfl).1 (lists_one w10 [120] #[.int .u8 120] rfl (by simp [maxLen]) _ _ rfl).2).mono ?_
     rintro e w11 ⟨rfl, hk11, hl11⟩
     obtain ⟨A11, hl12⟩ : ∃ A, Liv w w11 da A (dP f W0 N 1) := ⟨_, hl11⟩
     have HL11 := Lib.hid hl12
     have HS11 : Hid (Keeps A3 w9 w11) := Lib.hid (Keeps.trans hHeld hk11 (fun _ _ h => h))
     clear hk11 hl11 hl12
     refine hK.out _ _ (HS11.out) (fun hHeld => ?_)
     clear hK K
     try simp only [Act.put, List.setIfInBounds_toArray, List.set_cons_zero, List.set_cons_succ]
     refine wpAnyH_ready (rs := [33]) (by kernel_rfl) (by simp) ?_
     refine AllReadyH.cons (o := ⟨_, _, _, _, _, _⟩) rfl (fun K hK => ?_) AllReadyH.nil
     go_simp
     go_at_call 11
     refine (num14_any _ _).mono ?_
     rintro e wn ⟨rfl, rfl⟩
     refine hK.out _ _ (HS11.out) (fun hHeld => ?_)
     clear hK K
     try simp only [Act.put, List.setIfInBounds_toArray, List.set_cons_zero, List.set_cons_succ]
     refine wpAnyH_take (i := 34) (oi := ⟨_, _, _, _, _, _⟩) (v := ?_) rfl (by kernel_rfl) (by kernel_rfl) (by kernel_rfl) (fun _ _ _ h => h) (Or.inl ⟨by rfl, ?_⟩) (by assumption) ?_
     rotate_left
     ·intro w hSw
      go_simp
      try with_reducible rfl
     try simp only [Act.put, List.setIfInBounds_toArray, List.set_cons_zero, List.set_cons_succ]
     refine wpAnyH_take (i := 35) (oi := ⟨_, _, _, _, _, _⟩) (v := ?_) rfl (by kernel_rfl) (by kernel_rfl) (by kernel_rfl) (fun _ _ _ h => h) (Or.inl ⟨by rfl, ?_⟩) (by assumption) ?_
     rotate_left
     ·intro w hSw
      go_simp
      try with_reducible rfl
     try simp only [Act.put, List.setIfInBounds_toArray, List.set_cons_zero, List.set_cons_succ]
     refine wpAnyH_done (by kernel_rfl) ?_ _
     go_wp2_with fail
     refine (HR5.out _ _ HL11.out).mono ?_
     rintro e w12 ⟨v12, g12, rfl, m1, m2, m3⟩
     obtain ⟨va, vc, rfl⟩ := row_slice m1
     have HL12 := Lib.hid (HL11.out.keep m3)
     clear m1 m2 m3
     go_wp2_with (first
      | (go_at_call 11; refine (num14_any _ _).mono ?_; rintro e w' ⟨rfl, rfl⟩)
      | (go_at_call 19; refine (HD1.out _ _ HL12.out).mono ?_; rintro e w13 ⟨rfl, hk, hl⟩; obtain ⟨A13, hl2⟩ : ∃ A, Liv w w13 da A (dE N 2) := ⟨_, hl⟩; have HL13 := Lib.hid hl2; clear hk hl hl2 HD1)
      | (go_at_call 27; refine (HF2.out _ _ HL13.out).mono ?_; rintro e w' ⟨rfl, rfl⟩)
      | (go_at_call 26; refine HL13.out.files.mono ?_; rintro e w14 ⟨v14, rfl, hv14, hb14⟩; obtain ⟨a14, c14, rfl, _⟩ := hv14.il; have HL14 := Lib.hid (HL13.out.keep (Keeps.ofBelow hb14)); clear hv14 hb14)
      | (go_at_call 19; refine (HD2.out _ _ HL14.out).mono ?_; rintro e w15 ⟨rfl, hk, hl⟩; have HL15 := Lib.hid hl.bel; clear hk hl)
      | (go_at_call 9; refine (HLIVE.out _).mono ?_; rintro e w16 ⟨rfl, hb⟩; have HBB := Lib.hid (HL15.out.trans (hb.mono HL15.out.size)); clear hb)
      | fail)
     go_ret
     refine ⟨?_, HBB.out⟩
     show Ending.returned (.bool (c5 != 0)) = _
     rw [HCB.out]

theorem drumParts_lifted (os : Os) (started : os.Started) (H : Type) (enc : TypeId × Value → H) :
  ReturnsInHanded {} Try.checked os 6 .any (Rows.drumPartsSpec.pre6 enc Try.prog Try.f6 Rows.drumPartsRow.domain false) (Rows.drumPartsSpec.post enc Try.prog Try.f6 false true false false) := by
 refine law_lift_sized (C := Try.checked) own0 started (by kernel_rfl) Try.func6 laid0 rfl (by kernel_rfl) (fun _ _ _ _ => trodAll_mk1 (shut_bool Try.underlying4 true)) (fun ds h => match ds, h with | [_, _], _ => ⟨rfl, rfl, rfl⟩)
  (ChangeSpec.witness6 (enc := enc) (C := Try.checked) false ⟨#[], #[.slice none 0 0, .int .i64 0], []⟩ 8 (by kernel_rfl) (by kernel_rfl) (by kernel_rfl) (by kernel_rfl)) ?_
 intro W base args ds before hval0 hA0 hlt hsz
 have hval : ∀ (j : Nat) t v, Try.f6.params[j]? = some t → args[j]? = some v → Value.okWide Try.prog W .any base t v := hval0
 have hA : DataW.TrodAll enc Try.prog W 0 (fun _ => true) true Try.f6.params.toList args.toList ds before := hA0
 rw [Try.params6] at hA hval
 obtain ⟨v0, v1, d0, d1, p0, p1, rfl, rfl, rfl, h0, h1⟩ := trodAll_two hA
 obtain ⟨a, L, cap, _, hb, hm, hr⟩ := open_blists14 (hval 0 32 v0 rfl rfl) h0
 obtain ⟨n, rfl, rfl, rfl, wn⟩ := open_int Try.underlying3 (hval 1 3 v1 rfl rfl) h1
 exact drumParts_walk v0 L n W hb hm (hr _ _ 0 hsz (by kernel_rfl) rfl) wn
theorem drumParts_holds : Rows.DrumPartsSaid :=
 OpenClaim.holds_of_wide 6 Try.f6 rfl rfl rfl rfl rfl rfl rfl ⟨rfl, rfl, rfl, rfl, rfl⟩ rfl rfl rfl rfl rfl (by kernel_rfl) Try.func6 (by kernel_rfl)
  (of_decide_eq_true (by kernel_rfl)) (by unfold Func.isWrapper; rw [if_neg (of_decide_eq_false (by kernel_rfl))]; exact ⟨rfl, rfl⟩)
  (fun os started H enc _ => drumParts_lifted os started H enc)
#print axioms drumParts_holds
end SZ
end Go.Proofs.Ytebcgbahpgmliaa
