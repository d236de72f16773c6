/- TxnSum. Conditions: none. -/
import Derived.Deep.RegionHeld3
import Derived.Deep.CutBlock
import Derived.WalkSpells
import Derived.Test.YtjlkgbejldcklaaGreatMg40
import Derived.Test.YtjlkgbejldcklaaGreatMg38
import Derived.Test.YtjlkgbejldcklaaGreatMg24
import Derived.Test.YtjlkgbejldcklaaGreatMg34
import Derived.Test.YtjlkgbejldcklaaGreatMg39
import Derived.Test.YtjlkgbejldcklaaGreatMg14
import Derived.Test.YtjlkgbejldcklaaGreatMg31
import Derived.Test.YtjlkgbejldcklaaGreatMg11
set_option linter.unusedVariables false
set_option linter.unusedSimpArgs false
namespace Go.Proofs.YtjlkgbejldcklaaGreat
open S3 SN
namespace SP
open Go.ChangeShapes Go.WideShapes Go.ChangeAt Go.RowKit Go.Joins Go.Deep
def DatAt (w0 wr : World) (v : Value) (D : Al Nat) : Prop := SlG eP w0 v D ∨ OwnPr wr w0.heap.size v D
theorem DatAt.later {w0 x y : World} {v : Value} {D : Al Nat} (h : DatAt w0 x v D) (hb : Below x.heap.size x y) : DatAt w0 y v D := h.imp id fun h => h.later hb
theorem DatAt.sl {w0 x : World} {v : Value} {D : Al Nat} (h : DatAt w0 x v D) (hb : Below w0.heap.size w0 x) : SlG eP x v D := h.elim (fun h => h.later hb) fun h => OwnG.sl h
theorem DatAt.kept {w0 x y : World} {v u : Value} {D : Al Nat} {B : Nat} {m : List AnR} (h : DatAt w0 x v D) (hg : x.grownBy y u.ownBlock) (ho : OwnG eA 96 x B u m) : DatAt w0 y v D :=
  h.imp id fun h => OwnG.kept h hg (rows_ne h ho (by decide))
theorem set_grown (w : World) (k i : Nat) (u : Value) : w.grownBy (w.setCell ⟨k, i, none⟩ u) (some k) := by
  refine ⟨rfl, rfl, rfl, by simp [World.setCell], fun j hj hne => ?_⟩
  have e : j ≠ k := fun e => hne (by rw [e])
  rw [Go.Deep.blk_setCell_other _ _ _ _ e]
end SP
end Go.Proofs.YtjlkgbejldcklaaGreat

namespace Go.Proofs.YtjlkgbejldcklaaGreat
open S3 SN
namespace SP
def keyL : List ByteArray := [⟨#[97]⟩, ⟨#[98]⟩, ⟨#[99]⟩, ⟨#[100]⟩, ⟨#[101]⟩]
def dZ (ks : List ByteArray) (l : List Int) : Al Nat := List.zipWith (fun k n => (k, ofN n)) ks l
def dN (l : List Int) : Al Nat := dZ keyL l
theorem keyL_ris : keyL.Pairwise fun a b => ltT a b = true := by decide +kernel
theorem dZ_ris : ∀ (ks : List ByteArray) (l : List Int), ks.Pairwise (fun a b => ltT a b = true) → RisA (dZ ks l)
  | [], l, _ => by simp [dZ, RisA]
  | k :: ks, [], _ => by simp [dZ, RisA]
  | k :: ks, n :: l, h => by
    obtain ⟨h1, h2⟩ := List.pairwise_cons.1 h
    refine risA_cons.2 ⟨fun q hq => ?_, dZ_ris ks l h2⟩
    obtain ⟨i, hi, rfl⟩ := List.getElem_of_mem hq
    simp only [List.getElem_zipWith, dZ]
    exact h1 _ (List.getElem_mem _)
theorem dN_ris (l : List Int) : RisA (dN l) := dZ_ris _ _ keyL_ris
theorem dN_len {l : List Int} (h : l.length ≤ 5) : (dN l).length = l.length := by
  unfold dN dZ
  rw [List.length_zipWith]
  exact Nat.min_eq_right h
theorem dN_at {l : List Int} {i : Nat} {k : ByteArray} {n : Int} (hk : keyL[i]? = some k) (hn : l[i]? = some n) : (dN l)[i]? = some (k, ofN n) := by
  unfold dN dZ
  rw [List.getElem?_zipWith, hk, hn]
theorem dN_get {l : List Int} {i : Nat} {k : ByteArray} {n : Int} (hk : keyL[i]? = some k) (hn : l[i]? = some n) : getA (dN l) k = some (ofN n) :=
  (getA_mem (dN_ris l)).2 (List.mem_of_getElem? (dN_at hk hn))
theorem dZ_put : ∀ (ks : List ByteArray) (l : List Int) (i : Nat) (k : ByteArray) (n m : Int), ks.Pairwise (fun a b => ltT a b = true) → ks[i]? = some k → l[i]? = some n → putA (dZ ks l) k (ofN m) = dZ ks (l.set i m)
  | [], _, i, _, _, _, _, hk, _ => by simp at hk
  | _ :: _, [], i, _, _, _, _, _, hn => by simp at hn
  | a :: ks, b :: l, 0, k, n, m, h, hk, hn => by
    simp only [List.getElem?_cons_zero, Option.some.injEq] at hk
    subst hk
    show putA ((a, ofN b) :: dZ ks l) a (ofN m) = (a, ofN m) :: dZ ks l
    unfold putA
    rw [if_neg (by rw [lt_irrefl]; decide), if_neg (by rw [lt_irrefl]; decide)]
  | a :: ks, b :: l, i + 1, k, n, m, h, hk, hn => by
    obtain ⟨h1, h2⟩ := List.pairwise_cons.1 h
    simp only [List.getElem?_cons_succ] at hk hn
    show putA ((a, ofN b) :: dZ ks l) k (ofN m) = (a, ofN b) :: dZ ks (l.set i m)
    unfold putA
    rw [if_pos (h1 k (List.mem_of_getElem? hk)), dZ_put ks l i k n m h2 hk hn]
theorem dN_put {l : List Int} {i : Nat} {k : ByteArray} {n m : Int} (hk : keyL[i]? = some k) (hn : l[i]? = some n) : putA (dN l) k (ofN m) = dN (l.set i m) := dZ_put _ _ _ _ n _ keyL_ris hk hn
theorem dN_snoc {l : List Int} {k : ByteArray} (n : Int) (hk : keyL[l.length]? = some k) : dN (l ++ [n]) = dN l ++ [(k, ofN n)] := by
  refine List.ext_getElem? fun i => ?_
  unfold dN dZ
  by_cases h1 : i < l.length
  · have h5 : l.length < keyL.length := (List.getElem?_eq_some_iff.1 hk).1
    rw [List.getElem?_append_left (by rw [List.length_zipWith]; omega), List.getElem?_zipWith, List.getElem?_zipWith, List.getElem?_append_left h1]
  · have h5 : l.length < keyL.length := (List.getElem?_eq_some_iff.1 hk).1
    have hz : (List.zipWith (fun k n => (k, ofN n)) keyL l).length = l.length := by rw [List.length_zipWith]; omega
    rw [List.getElem?_append_right (by omega), hz]
    by_cases h2 : i = l.length
    · subst h2
      rw [List.getElem?_zipWith, hk, List.getElem?_append_right (Nat.le_refl _)]
      simp
    · rw [List.getElem?_eq_none (by rw [List.length_zipWith, List.length_append, List.length_singleton]; omega), List.getElem?_eq_none (by simp; omega)]
theorem sub_whole {a m : Int} (h0 : 0 ≤ m) (h1 : m ≤ a) (h2 : a ≤ 10000000) : adN (ofN a) (ngN (ofN m)) = ofN (a - m) := by
  obtain ⟨za, ra⟩ := zv_ofN a (by omega)
  obtain ⟨zm, rm⟩ := zv_ofN m (by omega)
  obtain ⟨_, _, n3⟩ := ng_form (ofN m) (ofN_lt m) (nanB_ofN m)
  have zn := zv_ng (ofN m) (ofN_lt m) (nanB_ofN m)
  have hna : negB (ofN a) = false := by
    obtain ⟨r, r1, r2, r3⟩ := ofN_form a (by omega)
    rw [r3, decide_eq_false (by omega : ¬ a < 0), negB_wd _ _ (by omega)]
  rw [adN_fin _ _ ra (by rw [n3]; exact rm), zn, za, zm, hna, Bool.false_and]
  have e : a * (KK : Int) + -(m * (KK : Int)) = (a - m) * (KK : Int) := by rw [Int.sub_mul]; rfl
  rw [e]
  have hK : (0 : Int) ≤ (KK : Int) := Int.natCast_nonneg _
  have hs : ¬ (a - m) * (KK : Int) < 0 := Int.not_lt.2 (Int.mul_nonneg (by omega) hK)
  rw [decide_eq_false hs, ite_self]
  unfold ofN
  rw [decide_eq_false (by omega : ¬ a - m < 0), Int.natAbs_mul, Int.natAbs_natCast]
theorem last_two {k1 k2 : ByteArray} (a b : Nat × Bool) (h : k1 ≠ k2) : (lastL [(k1, a), (k2, b)]).length = 2 := by
  have e : lastL [(k1, a), (k2, b)] = putA [(k1, a)] k2 b := rfl
  rw [e]
  unfold putA
  by_cases h1 : ltT k1 k2 = true
  · rw [if_pos h1]; rfl
  · by_cases h2 : ltT k2 k1 = true
    · rw [if_neg h1, if_pos h2]; rfl
    · exact absurd (lt_total (by simpa using h1) (by simpa using h2)) h
theorem move_whole {l : List Int} {x y : Nat} {kx ky : ByteArray} {nx ny m : Int} (hxy : x ≠ y) (hkx : keyL[x]? = some kx) (hky : keyL[y]? = some ky) (hx : l[x]? = some nx) (hy : l[y]? = some ny) (h0 : 0 ≤ m) (hm : m ≤ 1000000) (hnx : 0 ≤ nx ∧ nx ≤ 10000000) (hny : 0 ≤ ny ∧ ny ≤ 10000000) :
    evalA (dN l) [(6, kx, ky, ofN m)] = [(decide (m ≤ nx), 0, [])] ∧ (lastL (evalL (dN l) [(6, kx, ky, ofN m)])).length = (if m ≤ nx then 2 else 0) ∧ applyP (dN l) (lastL (evalL (dN l) [(6, kx, ky, ofN m)])) = dN (if m ≤ nx then (l.set x (nx - m)).set y (ny + m) else l) := by
  have hk : kx ≠ ky := by
    intro e
    subst e
    have hp := keyL_ris
    obtain ⟨ix, ex⟩ := List.getElem?_eq_some_iff.1 hkx
    obtain ⟨iy, ey⟩ := List.getElem?_eq_some_iff.1 hky
    rcases Nat.lt_or_gt_of_ne hxy with h | h
    · have := List.pairwise_iff_getElem.1 hp x y ix iy h
      rw [ex, ey, lt_irrefl] at this
      cases this
    · have := List.pairwise_iff_getElem.1 hp y x iy ix h
      rw [ex, ey, lt_irrefl] at this
      cases this
  have vx : valP (dN l) kx = ofN nx := by unfold valP; rw [dN_get hkx hx]; rfl
  have vy : valP (dN l) ky = ofN ny := by unfold valP; rw [dN_get hky hy]; rfl
  have hb : movB (dN l) (6, kx, ky, ofN m) = decide (m ≤ nx) := by
    unfold movB
    simp only
    have e0 : (0 : Nat) = ofN 0 := by decide +kernel
    rw [vx, cov_whole _ _ (by omega) (by omega), e0, cov_whole _ _ (by omega) (by decide), decide_eq_true h0, Bool.and_true]
  have hA : evalA (dN l) [(6, kx, ky, ofN m)] = [opA (dN l) (6, kx, ky, ofN m)] := rfl
  have hL : evalL (dN l) [(6, kx, ky, ofN m)] = opW (dN l) (6, kx, ky, ofN m) := by show _ ++ [] = _; rw [List.append_nil]
  have oa : opA (dN l) (6, kx, ky, ofN m) = (decide (m ≤ nx), 0, []) := by
    show (movB _ _, 0, []) = _
    rw [hb]
  have ow : opW (dN l) (6, kx, ky, ofN m) = if m ≤ nx then [(kx, ofN (nx - m), false), (ky, ofN (ny + m), false)] else [] := by
    show (if movB _ _ = true then _ else _) = _
    rw [hb]
    by_cases h : m ≤ nx
    · rw [decide_eq_true h, if_pos rfl, if_pos h]
      simp only
      rw [vx, vy, sub_whole h0 h (by omega), add_whole _ _ (by omega) (by omega)]
    · rw [decide_eq_false h, if_neg (by decide), if_neg h]
  refine ⟨by rw [hA, oa], ?_, ?_⟩
  · rw [hL, ow]
    split
    · exact last_two _ _ hk
    · rfl
  · rw [apply_last (dN_ris l), hL, ow]
    split
    · show putA (putA (dN l) kx (ofN (nx - m))) ky (ofN (ny + m)) = _
      rw [dN_put hkx hx, dN_put hky (by rw [List.getElem?_set_ne hxy]; exact hy)]
    · rfl
theorem key_ok {i : Nat} {k : ByteArray} (h : keyL[i]? = some k) : keyB k = true ∧ k.size ≤ 1000 := by
  have hm := List.mem_of_getElem? h
  have : ∀ k ∈ keyL, keyB k = true ∧ k.size ≤ 1000 := by decide +kernel
  exact this k hm
theorem move_ok {x y : Nat} {kx ky : ByteArray} (hxy : kx ≠ ky) (hkx : keyL[x]? = some kx) (hky : keyL[y]? = some ky) (m : Int) : okB (6, kx, ky, ofN m) = true := by
  unfold okB suitB
  simp only
  rw [(key_ok hkx).1, rtN_of _ (nanB_ofN m), (key_ok hky).1]
  have h : (ky.toList == kx.toList) = false := by
    rw [beq_eq_false_iff_ne]
    exact fun e => hxy (text_ext e).symm
  rw [h]
  simp
theorem keys_ne {x y : Nat} {kx ky : ByteArray} (hxy : x ≠ y) (hkx : keyL[x]? = some kx) (hky : keyL[y]? = some ky) : kx ≠ ky := by
  intro e
  subst e
  have hp := keyL_ris
  obtain ⟨ix, ex⟩ := List.getElem?_eq_some_iff.1 hkx
  obtain ⟨iy, ey⟩ := List.getElem?_eq_some_iff.1 hky
  rcases Nat.lt_or_gt_of_ne hxy with h | h
  · have := List.pairwise_iff_getElem.1 hp x y ix iy h
    rw [ex, ey, lt_irrefl] at this
    cases this
  · have := List.pairwise_iff_getElem.1 hp y x iy ix h
    rw [ex, ey, lt_irrefl] at this
    cases this
theorem sum_set {l : List Int} {i : Nat} {n m : Int} (h : l[i]? = some n) : (l.set i m).sum = l.sum - n + m := by
  induction l generalizing i with
  | nil => simp at h
  | cons a l ih =>
    cases i with
    | zero =>
      simp only [List.getElem?_cons_zero, Option.some.injEq] at h
      subst h
      simp only [List.set_cons_zero, List.sum_cons]
      omega
    | succ i =>
      simp only [List.getElem?_cons_succ] at h
      simp only [List.set_cons_succ, List.sum_cons, ih h]
      omega
theorem sum_pos : ∀ {l : List Int}, (∀ n ∈ l, 0 ≤ n) → 0 ≤ l.sum
  | [], _ => Int.le_refl _
  | a :: l, h => by
    have h1 := sum_pos (l := l) fun n hn => h n (by simp [hn])
    have h2 := h a (by simp)
    simp only [List.sum_cons]
    omega
theorem le_sum : ∀ {l : List Int}, (∀ n ∈ l, 0 ≤ n) → ∀ n ∈ l, n ≤ l.sum
  | [], _, n, hn => by cases hn
  | a :: l, h, n, hn => by
    have h1 := sum_pos (l := l) fun n hn => h n (by simp [hn])
    have h2 := h a (by simp)
    simp only [List.sum_cons]
    rcases List.mem_cons.1 hn with rfl | hn
    · omega
    · have := le_sum (fun n hn => h n (by simp [hn])) n hn
      omega
theorem sum_take {l : List Int} {k : Nat} {n : Int} (h : l[k]? = some n) : (l.take (k + 1)).sum = (l.take k).sum + n := by
  rw [List.take_add_one, h, List.sum_append]
  simp
theorem moved_nice {l : List Int} {x y : Nat} {nx ny m : Int} (hxy : x ≠ y) (hx : l[x]? = some nx) (hy : l[y]? = some ny) (h0 : 0 ≤ m) (hm : m ≤ nx) (hl : ∀ n ∈ l, 0 ≤ n) :
    (∀ n ∈ (l.set x (nx - m)).set y (ny + m), 0 ≤ n) ∧ ((l.set x (nx - m)).set y (ny + m)).sum = l.sum := by
  refine ⟨fun n hn => ?_, ?_⟩
  · have hn0 := hl ny (List.mem_of_getElem? hy)
    rcases List.mem_or_eq_of_mem_set hn with h | h
    · rcases List.mem_or_eq_of_mem_set h with h | h
      · exact hl n h
      · omega
    · omega
  · rw [sum_set (n := ny) (by rw [List.getElem?_set_ne hxy]; exact hy), sum_set hx]
    omega
end SP
end Go.Proofs.YtjlkgbejldcklaaGreat

namespace Go.Proofs.YtjlkgbejldcklaaGreat
open S3 SN
namespace SP
open Go.ChangeShapes Go.WideShapes Go.ChangeAt Go.RowKit Go.Joins Go.Deep
def eI : Enc Int := ⟨fun x => [.int .i64 x], 1, fun _ => rfl, fun x u hu => by
  simp only [List.mem_cons, List.not_mem_nil, or_false] at hu
  rcases hu with rfl <;> rfl, by decide⟩
def eT : Enc ByteArray := ⟨fun x => [.string x], 1, fun _ => rfl, fun x u hu => by
  simp only [List.mem_cons, List.not_mem_nil, or_false] at hu
  rcases hu with rfl <;> rfl, by decide⟩
theorem info_it : (Tryz.prog.info? 3).map (fun i => (i.zero, i.size, i.bytes)) = some (some (.int .i64 0), eI.K, 8) := by kernel_rfl
theorem ints_at {w : World} {a : Option Addr} {n cap : Nat} {l : List Int} (h : SlG eI w (.slice a n cap) l) {k : Nat} {x : Int} (hs : l[k]? = some x) : ∃ g o, a = some ⟨g, o, none⟩ ∧ g < w.heap.size ∧ w.cell? ⟨g, o + k, none⟩ = some (.int .i64 x) := by
  obtain ⟨g, o, ha, hg, hc⟩ := h.at hs
  have h0 := hc 0 _ rfl
  have e : o + k * eI.K + 0 = o + k := by show o + k * 1 + 0 = o + k; omega
  rw [e] at h0
  exact ⟨g, o, ha, hg, h0⟩
theorem texts_at {w : World} {g n cap : Nat} {l : List ByteArray} (h : SlG eT w (.slice (some ⟨g, 0, none⟩) n cap) l) {k : Nat} {x : ByteArray} (hs : l[k]? = some x) : g < w.heap.size ∧ w.cell? ⟨g, k, none⟩ = some (.string x) := by
  obtain ⟨g', o, ha, hg, hc⟩ := h.at hs
  have h0 := hc 0 _ rfl
  simp only [Option.some.injEq, Addr.mk.injEq, and_true] at ha
  obtain ⟨rfl, rfl⟩ := ha
  have e : 0 + k * eT.K + 0 = k := by show 0 + k * 1 + 0 = k; omega
  rw [e] at h0
  exact ⟨hg, h0⟩
theorem own_at {w : World} {base g n cap : Nat} {l : List Int} (h : OwnG eI 3 w base (.slice (some ⟨g, 0, none⟩) n cap) l) {k : Nat} {x : Int} (hs : l[k]? = some x) : w.cell? ⟨g, k, none⟩ = some (.int .i64 x) := by
  obtain ⟨g', o', ha, _, hc⟩ := ints_at h.sl hs
  simp only [Option.some.injEq, Addr.mk.injEq, and_true] at ha
  obtain ⟨rfl, rfl⟩ := ha
  rwa [Nat.zero_add] at hc
theorem dN_keys (l : List Int) : ∀ p ∈ dN l, p.1.size ≤ maxLen := by
  intro p hp
  unfold dN dZ at hp
  obtain ⟨i, hi, rfl⟩ := List.getElem_of_mem hp
  rw [List.getElem_zipWith]
  have h5 : i < keyL.length := by
    rw [List.length_zipWith] at hi
    omega
  have := (key_ok (List.getElem?_eq_getElem h5)).2
  unfold maxLen
  simp only
  omega
theorem sum_le {l : List Int} (hl : l.length ≤ 5) (h : ∀ n ∈ l, n ≤ 1000000) : l.sum ≤ 5000000 := by
  have : ∀ (l : List Int), (∀ n ∈ l, n ≤ 1000000) → l.sum ≤ 1000000 * (l.length : Int) := by
    intro l
    induction l with
    | nil => intro _; exact Int.le_refl _
    | cons a l ih =>
      intro h
      have h1 := ih fun n hn => h n (by simp [hn])
      have h2 := h a (by simp)
      simp only [List.sum_cons, List.length_cons]
      omega
  have := this l h
  omega
theorem append_GB {α : Type} {E : Enc α} {T : TypeId} {w : World} {ops : Array Oper} {rest : List Oper} {o : Oper} {a : Act} {Q : Exit → Act → World → Prop} (S : TypeId) (zv : Value) (bytes : Nat)
    (hinfo : (Tryz.prog.info? T).map (fun i => (i.zero, i.size, i.bytes)) = some (some zv, E.K, bytes)) (hund : Tryz.prog.underlying S = some (.slice T)) (hzc : zv.cells.size = E.K)
    (hgd : o.guard = none) (s x : Operand)
    (ho : o.op = .call { callee := .builtin .append, args := #[s, x], argTypes := #[S, S] })
    (base : Nat) (v : Value) (d : List α) (hs : a.eval s = v) (hown : OwnG E T w base v d) (xv : Value) (l : List α) (hx : a.eval x = xv) (hsl : SlG E w xv l)
    (h63 : d.length + l.length ≤ maxLen) (hby : (d.length + l.length) * bytes ≤ 140737488355328) (hbase : base ≤ w.heap.size)
    (h : ∀ v' w', OwnG E T w' base v' (d ++ l) → w.grownBy w' v.ownBlock → wpList Tryz.prog ops Q rest (a.put o.dst v') w') : wpList Tryz.prog ops Q (o :: rest) a w := by
  obtain ⟨i0, hi, hz0, hz1, hz2⟩ := info_parts hinfo
  obtain ⟨ad, cap, rfl, hn, hr⟩ := hsl
  cases ad with
  | none =>
    obtain rfl : cap = 0 := hn rfl
    obtain rfl : l = [] := by
      apply Classical.byContradiction
      intro hne
      obtain ⟨_, _, h, _⟩ := hr hne
      cases h
    refine wpList_append_own_none hgd s x S ho base T i0 E.K hund hi v d.length (cellsG E d) hs hown hx ?_
    exact h v w (by rw [List.append_nil]; exact hown) ⟨rfl, rfl, rfl, Nat.le_refl _, fun _ _ _ => rfl⟩
  | some ad =>
    have hc : ∀ (j : Nat) (u : Value), (cellsG E l)[j]? = some u → w.cell? (ad.add j) = some u := by
      intro j u hj
      have hne : l ≠ [] := by rintro rfl; simp [cellsG] at hj
      obtain ⟨g, o', ha, _, hrow⟩ := hr hne
      simp only [Option.some.injEq] at ha
      subst ha
      exact hrow.cells j u hj
    refine wpList_append_own _ hgd s x S ho base T i0 zv E.K bytes hund hi hz0 hz1 hz2 hzc E.pos v d.length (cellsG E d) hs hown ad l.length cap (cellsG E l) hx (cellsG_length l) hc (cellsG_one l) h63 hby hbase ?_
    intro v' w' h2 h3 _
    refine h v' w' ?_ h3
    show w'.ownsRow base _ E.K v' _ _
    rw [List.length_append, cellsG_append]
    exact h2
theorem own_set {w : World} {base g n cap : Nat} {l : List Int} (h : OwnG eI 3 w base (.slice (some ⟨g, 0, none⟩) n cap) l) {i : Nat} (hi : i < l.length) (x : Int) :
    OwnG eI 3 (w.setCell ⟨g, i, none⟩ (.int .i64 x)) base (.slice (some ⟨g, 0, none⟩) n cap) (l.set i x) := by
  obtain ⟨h1, h2 | ⟨g', cap', cur, hv, hg, hh, hn, hm, hs, hx⟩⟩ := h
  · cases h2.1
  · cases hv
    have hce : cellsG eI (l.set i x) = (cellsG eI l).set i (.int .i64 x) := by
      clear h1 hx hn hi
      induction l generalizing i with
      | nil => rfl
      | cons a r ih =>
        cases i with
        | zero => rfl
        | succ i =>
          show eI.enc a ++ cellsG eI (r.set i x) = _
          rw [ih]
          rfl
    refine ⟨by rw [cellsG_length, List.length_set], .inr ⟨g, cap, cur.setIfInBounds i (.int .i64 x), by rw [List.length_set], hg, ?_, by rw [List.length_set]; exact hn, hm, by simpa using hs, ?_⟩⟩
    · simp only [World.setCell]
      rw [Array.getElem?_modify, if_pos rfl, hh]
      rfl
    · rw [List.length_set, hce, ← hx]
      simp only [Array.toList_setIfInBounds]
      rw [List.take_set]
theorem one_ans {rs : List AnR} {b : Bool} (h : rs.map AnR.ans = [(b, 0, [])]) : ∃ r, rs = [r] ∧ r.yes = b := by
  cases rs with
  | nil => cases h
  | cons r t =>
    cases t with
    | nil =>
      simp only [List.map_cons, List.map_nil, List.cons.injEq, and_true] at h
      exact ⟨r, rfl, congrArg Prod.fst h⟩
    | cons _ _ => simp at h
theorem set_far {w : World} {g h i o : Nat} {u v : Value} (hc : w.cell? ⟨h, o, none⟩ = some v) (hne : h ≠ g) : (w.setCell ⟨g, i, none⟩ u).cell? ⟨h, o, none⟩ = some v := by
  have hb := Go.Deep.blk_setCell_other w ⟨g, i, none⟩ u h hne
  simp only [World.cell?] at hc ⊢
  rw [hb]
  exact hc
theorem slG_place {α : Type} {E : Enc α} {w : World} {a : Option Addr} {n c : Nat} {l : List α} (h : SlG E w (.slice a n c) l) (hl : l ≠ []) : ∃ g o, a = some ⟨g, o, none⟩ ∧ g < w.heap.size := by
  obtain ⟨a', c', hv, _, h2⟩ := h
  obtain ⟨g, o, h3, h4, _⟩ := h2 hl
  cases hv
  exact ⟨g, o, h3, h4⟩
theorem prs_cell {w : World} {g o n c : Nat} {l : Al Nat} (h : SlG eP w (.slice (some ⟨g, o, none⟩) n c) l) {k : Nat} {x : ByteArray × Nat} (hs : l[k]? = some x) : w.cell? ⟨g, o + k * 2, none⟩ = some (.string x.1) ∧ w.cell? ⟨g, o + k * 2 + 1, none⟩ = some (.int .u64 (x.2 : Int)) := by
  obtain ⟨g', o', ha, _, h1, h2⟩ := prs_at h hs
  simp only [Option.some.injEq, Addr.mk.injEq, and_true] at ha
  obtain ⟨rfl, rfl⟩ := ha
  exact ⟨h1, h2⟩
theorem take_sum {l : List Int} (h : ∀ n ∈ l, 0 ≤ n) (k : Nat) : (l.take k).sum ≤ l.sum := by
  have e : l.sum = (l.take k).sum + (l.drop k).sum := by rw [← List.sum_append, List.take_append_drop]
  have := sum_pos (l := l.drop k) fun n hn => h n (List.mem_of_mem_drop hn)
  omega
theorem own_blockI {w : World} {base g n cap : Nat} {l : List Int} (h : OwnG eI 3 w base (.slice (some ⟨g, 0, none⟩) n cap) l) : ∃ cs, w.heap[g]? = some (.cells cs 3 (0, 0)) ∧ base ≤ g := by
  obtain ⟨h1, h2 | ⟨g', cap', cur, hv, hg, hh, _⟩⟩ := h
  · cases h2.1
  · cases hv
    exact ⟨cur, hh, hg⟩
theorem own_other {α : Type} {E : Enc α} {U : TypeId} {w : World} {base B g n cap i : Nat} {v : Value} {d : List α} {l : List Int} {u : Value} (hd : OwnG E U w B v d) (h : OwnG eI 3 w base (.slice (some ⟨g, 0, none⟩) n cap) l) (ht : U ≠ 3) : OwnG E U (w.setCell ⟨g, i, none⟩ u) B v d := by
  obtain ⟨cs, hb, _⟩ := own_blockI h
  exact hd.kept (set_grown w g i u) (.inl (ownG_ne hd hb ht))
theorem own_frozen {w : World} {base g n cap i : Nat} {l : List Int} (h : OwnG eI 3 w base (.slice (some ⟨g, 0, none⟩) n cap) l) : w.frozen? ⟨g, i, none⟩ = false := by
  obtain ⟨cs, hb, _⟩ := own_blockI h
  simp [World.frozen?, hb]
set_option maxRecDepth 100000 in
set_option maxHeartbeats 32000000 in
theorem txnSum_walk (vg vf vt vm : Value) (G Fm T M : List Int) (w : World) (hg8 : G.length * 8 ≤ 140737488355328) (hmf : Fm.length ≤ 9223372036854775807) (hmt : T.length ≤ 9223372036854775807) (hmm : M.length ≤ 9223372036854775807)
    (hG : SlG eI w vg G) (hF : SlG eI w vf Fm) (hT : SlG eI w vt T) (hM : SlG eI w vm M) :
    Calls Tryz.prog 7 #[vg, vf, vt, vm] w fun e w' => e = .returned (.bool true) ∧ Below w.heap.size w w' := by
  obtain ⟨ag, cg, rfl⟩ := hG.form
  obtain ⟨af, cf, rfl⟩ := hF.form
  obtain ⟨at_, ct, rfl⟩ := hT.form
  obtain ⟨am, cm, rfl⟩ := hM.form
  have HG := Lib.hid hG
  have HF := Lib.hid hF
  have HT := Lib.hid hT
  have HM := Lib.hid hM
  have H8 := Lib.hid hg8
  have hgm : G.length ≤ 9223372036854775807 := by omega
  clear hG hF hT hM hg8
  have HOE : Hid (OwnG eI 3 (w.alloc (.cells #[] 3)) w.heap.size (.slice (some ⟨w.heap.size, 0, none⟩) 0 0) []) := Lib.hid (own_emptyG w _ _ _ rfl (Nat.le_refl _))
  have HBE : Hid (Below w.heap.size w (w.alloc (.cells #[] 3))) := Lib.hid (blAlloc (Below.refl _ _) _)
  have HL8 : Hid (([] : List Int).length + G.length ≤ maxLen ∧ (([] : List Int).length + G.length) * 8 ≤ 140737488355328) := Lib.hid (by have := H8.out; unfold maxLen; simp only [List.length_nil]; omega)
  go_enter Tryz.func7, Tryz.ntmps7
  by_cases t0 : G.length < 2
  · have d0 : decide ((G.length : Int) < 2) = true := decide_eq_true (by omega)
    go_upto_region 2 with (at_builtin; go_must (refine append_GB 43 _ 8 info_it Tryz.underlying43 rfl rfl _ _ rfl w.heap.size _ [] rfl HOE.out _ G rfl (HG.out.later HBE.out) HL8.out.1 HL8.out.2 HBE.out.size ?_; intro v1 w1 h1 h2; rw [List.nil_append] at h1; have HN1 := Lib.hid h1; have HB1 : Hid (Below w.heap.size w w1) := Lib.hid (grown_belowG HBE.out HOE.out (Nat.le_refl _) HBE.out.size h2); clear h1 h2))
    obtain ⟨a1, c1, rfl⟩ := HN1.out.form
    go_wp2_with (go_at_call 41; go_must (refine (live8_any _).mono ?_; rintro e w9 ⟨rfl, h5⟩; have HB9 : Hid (Below w.heap.size w w9) := Lib.hid (blThen HB1.out h5); clear h5))
    go_ret
    exact ⟨rfl, HB9.out⟩
  have d0 : decide ((G.length : Int) < 2) = false := decide_eq_false (by omega)
  by_cases t1 : 5 < G.length
  · have d1 : decide ((5 : Int) < (G.length : Int)) = true := decide_eq_true (by omega)
    go_upto_region 2 with (at_builtin; go_must (refine append_GB 43 _ 8 info_it Tryz.underlying43 rfl rfl _ _ rfl w.heap.size _ [] rfl HOE.out _ G rfl (HG.out.later HBE.out) HL8.out.1 HL8.out.2 HBE.out.size ?_; intro v1 w1 h1 h2; rw [List.nil_append] at h1; have HN1 := Lib.hid h1; have HB1 : Hid (Below w.heap.size w w1) := Lib.hid (grown_belowG HBE.out HOE.out (Nat.le_refl _) HBE.out.size h2); clear h1 h2))
    obtain ⟨a1, c1, rfl⟩ := HN1.out.form
    go_wp2_with (go_at_call 41; go_must (refine (live8_any _).mono ?_; rintro e w9 ⟨rfl, h5⟩; have HB9 : Hid (Below w.heap.size w w9) := Lib.hid (blThen HB1.out h5); clear h5))
    go_ret
    exact ⟨rfl, HB9.out⟩
  have d1 : decide ((5 : Int) < (G.length : Int)) = false := decide_eq_false (by omega)
  by_cases t2 : 20 < Fm.length
  · have d2 : decide ((20 : Int) < (Fm.length : Int)) = true := decide_eq_true (by omega)
    go_upto_region 2 with (at_builtin; go_must (refine append_GB 43 _ 8 info_it Tryz.underlying43 rfl rfl _ _ rfl w.heap.size _ [] rfl HOE.out _ G rfl (HG.out.later HBE.out) HL8.out.1 HL8.out.2 HBE.out.size ?_; intro v1 w1 h1 h2; rw [List.nil_append] at h1; have HN1 := Lib.hid h1; have HB1 : Hid (Below w.heap.size w w1) := Lib.hid (grown_belowG HBE.out HOE.out (Nat.le_refl _) HBE.out.size h2); clear h1 h2))
    obtain ⟨a1, c1, rfl⟩ := HN1.out.form
    go_wp2_with (go_at_call 41; go_must (refine (live8_any _).mono ?_; rintro e w9 ⟨rfl, h5⟩; have HB9 : Hid (Below w.heap.size w w9) := Lib.hid (blThen HB1.out h5); clear h5))
    go_ret
    exact ⟨rfl, HB9.out⟩
  have d2 : decide ((20 : Int) < (Fm.length : Int)) = false := decide_eq_false (by omega)
  by_cases t3 : T.length < Fm.length
  · have d3 : decide ((T.length : Int) < (Fm.length : Int)) = true := decide_eq_true (by omega)
    go_upto_region 2 with (at_builtin; go_must (refine append_GB 43 _ 8 info_it Tryz.underlying43 rfl rfl _ _ rfl w.heap.size _ [] rfl HOE.out _ G rfl (HG.out.later HBE.out) HL8.out.1 HL8.out.2 HBE.out.size ?_; intro v1 w1 h1 h2; rw [List.nil_append] at h1; have HN1 := Lib.hid h1; have HB1 : Hid (Below w.heap.size w w1) := Lib.hid (grown_belowG HBE.out HOE.out (Nat.le_refl _) HBE.out.size h2); clear h1 h2))
    obtain ⟨a1, c1, rfl⟩ := HN1.out.form
    go_wp2_with (go_at_call 41; go_must (refine (live8_any _).mono ?_; rintro e w9 ⟨rfl, h5⟩; have HB9 : Hid (Below w.heap.size w w9) := Lib.hid (blThen HB1.out h5); clear h5))
    go_ret
    exact ⟨rfl, HB9.out⟩
  have d3 : decide ((T.length : Int) < (Fm.length : Int)) = false := decide_eq_false (by omega)
  by_cases t4 : M.length < Fm.length
  · have d4 : decide ((M.length : Int) < (Fm.length : Int)) = true := decide_eq_true (by omega)
    go_upto_region 2 with (at_builtin; go_must (refine append_GB 43 _ 8 info_it Tryz.underlying43 rfl rfl _ _ rfl w.heap.size _ [] rfl HOE.out _ G rfl (HG.out.later HBE.out) HL8.out.1 HL8.out.2 HBE.out.size ?_; intro v1 w1 h1 h2; rw [List.nil_append] at h1; have HN1 := Lib.hid h1; have HB1 : Hid (Below w.heap.size w w1) := Lib.hid (grown_belowG HBE.out HOE.out (Nat.le_refl _) HBE.out.size h2); clear h1 h2))
    obtain ⟨a1, c1, rfl⟩ := HN1.out.form
    go_wp2_with (go_at_call 41; go_must (refine (live8_any _).mono ?_; rintro e w9 ⟨rfl, h5⟩; have HB9 : Hid (Below w.heap.size w w9) := Lib.hid (blThen HB1.out h5); clear h5))
    go_ret
    exact ⟨rfl, HB9.out⟩
  have d4 : decide ((M.length : Int) < (Fm.length : Int)) = false := decide_eq_false (by omega)
  go_upto_region 2 with (at_builtin; go_must (refine append_GB 43 _ 8 info_it Tryz.underlying43 rfl rfl _ _ rfl w.heap.size _ [] rfl HOE.out _ G rfl (HG.out.later HBE.out) HL8.out.1 HL8.out.2 HBE.out.size ?_; intro v1 w1 h1 h2; rw [List.nil_append] at h1; have HN1 := Lib.hid h1; have HB1 : Hid (Below w.heap.size w w1) := Lib.hid (grown_belowG HBE.out HOE.out (Nat.le_refl _) HBE.out.size h2); clear h1 h2))
  obtain ⟨a1, c1, rfl⟩ := HN1.out.form
  have hg2 : 2 ≤ G.length := by omega
  have hg5 : G.length ≤ 5 := by omega
  have hgne : G ≠ [] := fun e => by rw [e] at hg2; simp at hg2
  obtain ⟨g1, q1, hq, hg1, hg1l, hg1c, _, _, _⟩ := HN1.out.row hgne
  obtain ⟨rfl, _, rfl⟩ := Value.slice.inj hq
  clear hq
  have HKY : Hid (SlG eT (w1.alloc (.cells #[.string ⟨#[97]⟩, .string ⟨#[98]⟩, .string ⟨#[99]⟩, .string ⟨#[100]⟩, .string ⟨#[101]⟩] 9)) (.slice (some ⟨w1.heap.size, 0, none⟩) 5 5) keyL) := Lib.hid (list_G eT w1 _ keyL _ 5 _ rfl rfl rfl)
  have HB2 : Hid (Below w.heap.size w (w1.alloc (.cells #[.string ⟨#[97]⟩, .string ⟨#[98]⟩, .string ⟨#[99]⟩, .string ⟨#[100]⟩, .string ⟨#[101]⟩] 9))) := Lib.hid (blAlloc HB1.out _)
  have HN2 := Lib.hid (HN1.out.later (blAlloc (Below.refl w1.heap.size w1) (.cells #[.string ⟨#[97]⟩, .string ⟨#[98]⟩, .string ⟨#[99]⟩, .string ⟨#[100]⟩, .string ⟨#[101]⟩] 9)))
  have HKB : Hid (w.heap.size ≤ w1.heap.size) := Lib.hid HB1.out.size
  go_upto_block 0 with fail
  generalize (w1.alloc (.cells #[.string ⟨#[97]⟩, .string ⟨#[98]⟩, .string ⟨#[99]⟩, .string ⟨#[100]⟩, .string ⟨#[101]⟩] 9)) = w2 at *
  generalize w1.heap.size = kb at *
  clear HN1 HB1 HOE HBE HL8
  go_wp2_with fail
  go_loopw [11, 12, 13] (fun dv sv i wi => ∃ k : Nat, k ≤ G.length ∧ i = .int .i64 k ∧ sv = .int .i64 (G.take k).sum ∧ OwnPr wi w2.heap.size dv (dN (G.take k)) ∧ (∀ n ∈ G.take k, 0 ≤ n ∧ n ≤ 1000000) ∧ Below w2.heap.size w2 wi) (fun _ _ i _ => G.length - (intOf i).toNat)
  case atStart => exact ⟨0, Nat.zero_le _, rfl, rfl, OwnG.nil _ _, fun n hn => (by simp at hn), Below.refl _ _⟩
  case round =>
    obtain ⟨k, hk, rfl, rfl, hd, hsm, hb⟩ := hrel
    have HD := Lib.hid hd
    have HSM := Lib.hid hsm
    have HB := Lib.hid hb
    have HBW : Hid (Below w.heap.size w wr) := Lib.hid (blThen HB2.out hb)
    have HN := Lib.hid (HN2.out.later hb)
    have HK := Lib.hid (HKY.out.later hb)
    obtain ⟨ad, cd, rfl⟩ := hd.form
    have HDL := Lib.hid (dN_len (l := G.take k) (by rw [List.length_take]; omega))
    clear hd hsm hb
    have hk0 : (0 : Int) ≤ (k : Int) := by omega
    by_cases hlt : k < G.length
    · obtain ⟨x, hx⟩ := at_lt hlt
      have hk5 : k < 5 := by omega
      obtain ⟨kk, hkk⟩ := at_lt (l := keyL) (show k < keyL.length from hk5)
      have hc := (ints_at HN.out.sl hx)
      obtain ⟨g', o', ha', hgl, hcx⟩ := hc
      simp only [Option.some.injEq, Addr.mk.injEq, and_true] at ha'
      obtain ⟨rfl, rfl⟩ := ha'
      rw [Nat.zero_add] at hcx
      obtain ⟨hkl, hck⟩ := texts_at HK.out hkk
      have hk1 : (k : Int) < (G.length : Int) := by omega
      have hk15 : (k : Int) < 5 := by omega
      have hdk : decide ((k : Int) < (G.length : Int)) = true := decide_eq_true hk1
      by_cases hx0 : x < 0
      · have hdx : decide (x < 0) = true := decide_eq_true hx0
        go_wp2_with (go_at_call 41; go_must (refine (live8_any _).mono ?_; rintro e w9 ⟨rfl, h5⟩; have HB9 : Hid (Below w.heap.size w w9) := Lib.hid (blThen HBW.out h5); clear h5))
        go_ret
        exact ⟨rfl, HB9.out⟩
      have hdx : decide (x < 0) = false := decide_eq_false hx0
      by_cases hx1 : 1000000 < x
      · have hdx1 : decide (1000000 < x) = true := decide_eq_true hx1
        go_wp2_with (go_at_call 41; go_must (refine (live8_any _).mono ?_; rintro e w9 ⟨rfl, h5⟩; have HB9 : Hid (Below w.heap.size w w9) := Lib.hid (blThen HBW.out h5); clear h5))
        go_ret
        exact ⟨rfl, HB9.out⟩
      have hdx1 : decide (1000000 < x) = false := decide_eq_false hx1
      have HSB : Hid ((G.take k).sum ≤ 5000000 ∧ 0 ≤ (G.take k).sum) := Lib.hid ⟨sum_le (by rw [List.length_take]; omega) fun n hn => (HSM.out n hn).2, sum_pos fun n hn => (HSM.out n hn).1⟩
      have hsb := HSB.out
      have HST := Lib.hid (sum_take hx)
      have HDT : Hid (dN (G.take (k + 1)) = dN (G.take k) ++ [(kk, ofN x)]) := Lib.hid (by rw [List.take_add_one, hx]; exact dN_snoc x (by rw [List.length_take, Nat.min_eq_left hk]; exact hkk))
      have HSM1 : Hid (∀ n ∈ G.take (k + 1), 0 ≤ n ∧ n ≤ 1000000) := Lib.hid (by intro n hn; rw [List.take_add_one, hx] at hn; rcases List.mem_append.1 hn with hn | hn; exact HSM.out n hn; simp at hn; subst hn; omega)
      generalize (G.take k).sum = SM at *
      generalize dN (G.take k) = DK at *
      have hwr : IntKind.i64.wrap (SM + x) = SM + x := wrap_in64 (by omega) (by omega)
      have HD4 : Hid (DK.length + [(kk, ofN x)].length ≤ 4000000) := Lib.hid (by have := HDL.out; rw [List.length_take] at this; simp only [List.length_cons, List.length_nil]; omega)
      have HCC := Lib.hid (fun (Y : World) (h : Below w2.heap.size w2 Y) => (⟨(texts_at (HKY.out.later h) hkk).2, own_at (HN2.out.later h) hx⟩ : Y.cell? ⟨kb, k, none⟩ = some (.string kk) ∧ Y.cell? ⟨g1, k, none⟩ = some (.int .i64 x)))
      go_wp2_with fail
      refine wp_region_held_drew (S := (fun Y => Y.cell? ⟨kb, k, none⟩ = some (.string kk) ∧ Y.cell? ⟨g1, k, none⟩ = some (.int .i64 x))) (by kernel_rfl) (HCC.out _ HB.out.drew) (fun hHeld => ?_)
      refine wpAnyH_take (i := 0) (oi := { dst := some 79, op := Op.move (Operand.tmp 11), type := 71, pos := "law.go:132", after := #[], guard := none }) (v := ?_) rfl (by kernel_rfl) (by kernel_rfl) (by kernel_rfl) (fun _ _ _ h => h) (Or.inl ⟨by rfl, ?_⟩) (by assumption) ?_
      rotate_left
      · intro w hSw
        try dsimp only at hSw
        go_simp
        try with_reducible rfl
      try simp only [Act.put, List.setIfInBounds_toArray, List.set_cons_zero, List.set_cons_succ]
      refine wpAnyH_take (i := 1) (oi := { dst := some 80, op := Op.move (Operand.tmp 10), type := 87, pos := "law.go:132", after := #[], guard := none }) (v := ?_) rfl (by kernel_rfl) (by kernel_rfl) (by kernel_rfl) (fun _ _ _ h => h) (Or.inl ⟨by rfl, ?_⟩) (by assumption) ?_
      rotate_left
      · intro w hSw
        try dsimp only at hSw
        go_simp
        try with_reducible rfl
      try simp only [Act.put, List.setIfInBounds_toArray, List.set_cons_zero, List.set_cons_succ]
      refine wpAnyH_take (i := 2) (oi := { dst := some 81, op := Op.move (Operand.tmp 13), type := 3, pos := "law.go:132", after := #[], guard := none }) (v := ?_) rfl (by kernel_rfl) (by kernel_rfl) (by kernel_rfl) (fun _ _ _ h => h) (Or.inl ⟨by rfl, ?_⟩) (by assumption) ?_
      rotate_left
      · intro w hSw
        try dsimp only at hSw
        go_simp
        try with_reducible rfl
      try simp only [Act.put, List.setIfInBounds_toArray, List.set_cons_zero, List.set_cons_succ]
      refine wpAnyH_take (i := 3) (oi := { dst := some 82, op := Op.indexAddr 87 (Operand.tmp 80) (Operand.tmp 81), type := 0, pos := "law.go:132", after := #[{ on := 1, ground := Ground.data }, { on := 2, ground := Ground.data }], guard := none }) (v := ?_) rfl (by kernel_rfl) (by kernel_rfl) (by kernel_rfl) (fun _ _ _ h => h) (Or.inl ⟨by rfl, ?_⟩) (by assumption) ?_
      rotate_left
      · intro w hSw
        try dsimp only at hSw
        go_simp
        try with_reducible rfl
      try simp only [Act.put, List.setIfInBounds_toArray, List.set_cons_zero, List.set_cons_succ]
      refine wpAnyH_take (i := 4) (oi := { dst := some 83, op := Op.load 9 (Operand.tmp 82), type := 9, pos := "law.go:132", after := #[{ on := 3, ground := Ground.data }], guard := none }) (v := ?_) rfl (by kernel_rfl) (by kernel_rfl) (by kernel_rfl) (fun _ _ _ h => h) (Or.inl ⟨by rfl, ?_⟩) (by assumption) ?_
      rotate_left
      · intro w hSw
        try dsimp only at hSw
        go_simp
        try with_reducible rfl
      try simp only [Act.put, List.setIfInBounds_toArray, List.set_cons_zero, List.set_cons_succ]
      refine wpAnyH_take (i := 5) (oi := { dst := some 84, op := Op.move (Operand.tmp 9), type := 43, pos := "law.go:132", after := #[], guard := none }) (v := ?_) rfl (by kernel_rfl) (by kernel_rfl) (by kernel_rfl) (fun _ _ _ h => h) (Or.inl ⟨by rfl, ?_⟩) (by assumption) ?_
      rotate_left
      · intro w hSw
        try dsimp only at hSw
        go_simp
        try with_reducible rfl
      try simp only [Act.put, List.setIfInBounds_toArray, List.set_cons_zero, List.set_cons_succ]
      refine wpAnyH_take (i := 6) (oi := { dst := some 85, op := Op.move (Operand.tmp 13), type := 3, pos := "law.go:132", after := #[], guard := none }) (v := ?_) rfl (by kernel_rfl) (by kernel_rfl) (by kernel_rfl) (fun _ _ _ h => h) (Or.inl ⟨by rfl, ?_⟩) (by assumption) ?_
      rotate_left
      · intro w hSw
        try dsimp only at hSw
        go_simp
        try with_reducible rfl
      try simp only [Act.put, List.setIfInBounds_toArray, List.set_cons_zero, List.set_cons_succ]
      refine wpAnyH_take (i := 7) (oi := { dst := some 86, op := Op.indexAddr 43 (Operand.tmp 84) (Operand.tmp 85), type := 0, pos := "law.go:132", after := #[{ on := 5, ground := Ground.data }, { on := 6, ground := Ground.data }], guard := none }) (v := ?_) rfl (by kernel_rfl) (by kernel_rfl) (by kernel_rfl) (fun _ _ _ h => h) (Or.inl ⟨by rfl, ?_⟩) (by assumption) ?_
      rotate_left
      · intro w hSw
        try dsimp only at hSw
        go_simp
        try with_reducible rfl
      try simp only [Act.put, List.setIfInBounds_toArray, List.set_cons_zero, List.set_cons_succ]
      refine wpAnyH_take (i := 8) (oi := { dst := some 87, op := Op.load 3 (Operand.tmp 86), type := 3, pos := "law.go:132", after := #[{ on := 7, ground := Ground.data }], guard := none }) (v := ?_) rfl (by kernel_rfl) (by kernel_rfl) (by kernel_rfl) (fun _ _ _ h => h) (Or.inl ⟨by rfl, ?_⟩) (by assumption) ?_
      rotate_left
      · intro w hSw
        try dsimp only at hSw
        go_simp
        try with_reducible rfl
      try simp only [Act.put, List.setIfInBounds_toArray, List.set_cons_zero, List.set_cons_succ]
      refine wpAnyH_ready (rs := [9]) (by kernel_rfl) (by simp) ?_
      refine AllReadyH.cons (o := { dst := some 88, op := Op.call { callee := Callee.value (Operand.func 63), args := #[Operand.tmp 87], argTypes := #[2] }, type := 89, pos := "law.go:132", after := #[{ on := 8, ground := Ground.data }], guard := none }) rfl (fun K hK => ?_) ?_
      rotate_left
      · exact AllReadyH.nil
      go_simp
      go_at_call 63
      refine (SN.rof_any _ _).mono ?_
      rintro e w8 ⟨rfl, rfl⟩
      refine hK.out _ _ (HCC.out _ HB.out.drew) (fun hHeld => ?_)
      clear hK K
      try simp only [Act.put, List.setIfInBounds_toArray, List.set_cons_zero, List.set_cons_succ]
      refine wpAnyH_take (i := 10) (oi := { dst := some 89, op := Op.build 92 #[(0, Operand.tmp 83), (1, Operand.tmp 88)], type := 92, pos := "law.go:132", after := #[{ on := 4, ground := Ground.data }, { on := 9, ground := Ground.data }], guard := none }) (v := ?_) rfl (by kernel_rfl) (by kernel_rfl) (by kernel_rfl) (fun _ _ _ h => h) (Or.inl ⟨by rfl, ?_⟩) (by assumption) ?_
      rotate_left
      · intro w hSw
        try dsimp only at hSw
        go_simp
        try with_reducible rfl
      try simp only [Act.put, List.setIfInBounds_toArray, List.set_cons_zero, List.set_cons_succ]
      refine wpAnyH_ready (rs := [11]) (by kernel_rfl) (by simp) ?_
      refine AllReadyH.cons (o := { dst := some 90, op := Op.buildSlice 71 1 #[(0, Operand.tmp 89)], type := 71, pos := "law.go:132", after := #[{ on := 10, ground := Ground.data }], guard := none }) rfl (fun K hK => ?_) ?_
      rotate_left
      · exact AllReadyH.nil
      go_simp
      refine hK.out _ _ (HCC.out _ (blAlloc HB.out.drew _)) (fun hHeld => ?_)
      clear hK K
      try simp only [Act.put, List.setIfInBounds_toArray, List.set_cons_zero, List.set_cons_succ]
      refine wpAnyH_ready (rs := [12]) (by kernel_rfl) (by simp) ?_
      refine AllReadyH.cons (o := { dst := some 91, op := Op.call { callee := Callee.builtin Builtin.append, args := #[Operand.tmp 79, Operand.tmp 90], argTypes := #[71, 71] }, type := 71, pos := "law.go:132", after := #[{ on := 0, ground := Ground.data }, { on := 11, ground := Ground.data }, { on := 9, ground := Ground.chain }], guard := none }) rfl (fun K hK => ?_) ?_
      rotate_left
      · exact AllReadyH.nil
      refine wp_append_G 71 _ 24 info_pr Tryz.underlying71 rfl (by decide) _ _ rfl w2.heap.size _ DK rfl (HD.out.later (blAlloc (Below.refl _ _).drew _)) _ [(kk, ofN x)] rfl (one_G eP _ _ (kk, ofN x) _ _ rfl (by simp)) HD4.out (blAlloc HB.out.drew (.cells #[.string kk, .int .u64 ((ofN x : Nat) : Int)] 92)).size ?_
      intro v3 w3 h1 h2
      have HD3 := Lib.hid h1
      have HB3 : Hid (Below w2.heap.size w2 w3) := Lib.hid (grown_belowG (blAlloc HB.out.drew _) (HD.out.later (blAlloc (Below.refl _ _).drew _)) (Nat.le_refl _) (blAlloc HB.out.drew (.cells #[.string kk, .int .u64 ((ofN x : Nat) : Int)] 92)).size h2)
      clear h1 h2
      refine hK.out _ _ (HCC.out _ HB3.out) (fun hHeld => ?_)
      clear hK K
      try simp only [Act.put, List.setIfInBounds_toArray, List.set_cons_zero, List.set_cons_succ]
      refine wpAnyH_take (i := 13) (oi := { dst := some 11, op := Op.assign (Operand.tmp 91), type := 71, pos := "law.go:132", after := #[{ on := 12, ground := Ground.data }, { on := 12, ground := Ground.chain }, { on := 0, ground := Ground.phase }, { on := 1, ground := Ground.phase }, { on := 2, ground := Ground.phase }, { on := 3, ground := Ground.phase }, { on := 4, ground := Ground.phase }, { on := 5, ground := Ground.phase }, { on := 6, ground := Ground.phase }, { on := 7, ground := Ground.phase }, { on := 8, ground := Ground.phase }, { on := 9, ground := Ground.phase }, { on := 10, ground := Ground.phase }, { on := 11, ground := Ground.phase }, { on := 12, ground := Ground.phase }], guard := none }) (v := ?_) rfl (by kernel_rfl) (by kernel_rfl) (by kernel_rfl) (fun _ _ _ h => h) (Or.inl ⟨by rfl, ?_⟩) (by assumption) ?_
      rotate_left
      · intro w hSw
        try dsimp only at hSw
        go_simp
        try with_reducible rfl
      try simp only [Act.put, List.setIfInBounds_toArray, List.set_cons_zero, List.set_cons_succ]
      refine wpAnyH_done (by kernel_rfl) ?_ _
      go_wp2
      go_roundw
      case rel => exact ⟨k + 1, hlt, by go_num, by rw [HST.out], by rw [HDT.out]; exact HD3.out, HSM1.out, HB3.out⟩
      case measure => simp [intOf]; omega
    · have hge : ¬ (k : Int) < (G.length : Int) := by omega
      have hdk : decide ((k : Int) < (G.length : Int)) = false := decide_eq_false hge
      have HTK : Hid (G.take k = G) := Lib.hid (List.take_of_length_le (by omega))
      rw [HTK.out] at HD HSM HDL ⊢
      have HNN : Hid (∀ n ∈ G, 0 ≤ n) := Lib.hid fun n hn => (HSM.out n hn).1
      have HSG : Hid (G.sum ≤ 5000000) := Lib.hid (sum_le hg5 fun n hn => (HSM.out n hn).2)
      have HD := Lib.hid (OwnG.mono HD.out (show w.heap.size ≤ _ from HB2.out.size))
      clear HTK HB HN2 HKY HB2 HSM
      obtain ⟨w4, rfl⟩ : ∃ w4, w4 = wr := ⟨_, rfl⟩
      go_wp2_with fail
      go_loopw [11, 14] (fun dv i wi => ∃ (j : Nat) (L : List Int), j ≤ Fm.length ∧ i = .int .i64 j ∧ L.length = G.length ∧ (∀ n ∈ L, 0 ≤ n) ∧ L.sum = G.sum ∧ OwnG eI 3 wi w.heap.size (.slice (some ⟨g1, 0, none⟩) G.length c1) L ∧ OwnPr wi w.heap.size dv (dN L) ∧ SlG eT wi (.slice (some ⟨kb, 0, none⟩) 5 5) keyL ∧ Below w.heap.size w wi) (fun _ i _ => Fm.length - (intOf i).toNat)
      case atStart => exact ⟨0, G, Nat.zero_le _, rfl, rfl, HNN.out, rfl, HN.out, HD.out, HK.out, HBW.out⟩
      case round =>
        clear HN HD HK HBW HDL HNN
        obtain ⟨j, L, hj, rfl, hll, hnn, hsum, hn, hd, hky, hb⟩ := hrel
        have HN := Lib.hid hn
        have HD := Lib.hid hd
        have HK := Lib.hid hky
        have HBJ := Lib.hid hb
        have HNN := Lib.hid hnn
        have HSU := Lib.hid hsum
        have HLL := Lib.hid hll
        have HDL := Lib.hid (dN_len (l := L) (by omega))
        obtain ⟨aj, cj, rfl⟩ := hd.form
        clear hn hd hky hb hnn hsum
        have hj0 : (0 : Int) ≤ (j : Int) := by omega
        by_cases hlt2 : j < Fm.length
        · obtain ⟨x, hxf⟩ := at_lt hlt2
          obtain ⟨y, hyt⟩ := at_lt (l := T) (show j < T.length by omega)
          obtain ⟨m, hmm2⟩ := at_lt (l := M) (show j < M.length by omega)
          obtain ⟨gf, of_, rfl, hgf, hcf⟩ := ints_at HF.out hxf
          obtain ⟨gt, ot_, rfl, hgt, hct⟩ := ints_at HT.out hyt
          obtain ⟨gm, om_, rfl, hgm2, hcm⟩ := ints_at HM.out hmm2
          have HFT := Lib.hid (fun (Y : World) (h : Below w.heap.size w Y) => (⟨cell_in h hgf hcf, cell_in h hgt hct⟩ : Y.cell? ⟨gf, of_ + j, none⟩ = some (.int .i64 x) ∧ Y.cell? ⟨gt, ot_ + j, none⟩ = some (.int .i64 y)))
          have HMC := Lib.hid (fun (Y : World) (h : Below w.heap.size w Y) => cell_in h hgm2 hcm)
          have hcmj := HMC.out _ HBJ.out
          have hcmd := HMC.out _ HBJ.out.drew
          have HBD := Lib.hid HBJ.out.drew
          have HGM : Hid (gm < w.heap.size) := Lib.hid hgm2
          have hj1 : (j : Int) < (Fm.length : Int) := by omega
          have hj2 : (j : Int) < (T.length : Int) := by omega
          have hj3 : (j : Int) < (M.length : Int) := by omega
          have hdj : decide ((j : Int) < (Fm.length : Int)) = true := decide_eq_true hj1
          clear hxf hyt hmm2 hcf hct hcm hgf hgt
          by_cases b1 : x < 0
          · have e1 : decide (x < 0) = true := decide_eq_true b1
            go_wp2_with fail
            refine wp_region_held_drew (S := (fun Y => Y.cell? ⟨gf, of_ + j, none⟩ = some (.int .i64 x) ∧ Y.cell? ⟨gt, ot_ + j, none⟩ = some (.int .i64 y))) (by kernel_rfl) (HFT.out _ HBJ.out.drew) (fun hHeld => ?_)
            refine wpAnyH_take (i := 0) (oi := { dst := some 98, op := Op.move (Operand.tmp 1), type := 43, pos := "law.go:135", after := #[], guard := none }) (v := ?_) rfl (by kernel_rfl) (by kernel_rfl) (by kernel_rfl) (fun _ _ _ h => h) (Or.inl ⟨by rfl, ?_⟩) (by assumption) ?_
            rotate_left
            · intro w hSw
              try dsimp only at hSw
              go_simp
              try with_reducible rfl
            try simp only [Act.put, List.setIfInBounds_toArray, List.set_cons_zero, List.set_cons_succ]
            refine wpAnyH_take (i := 1) (oi := { dst := some 99, op := Op.move (Operand.tmp 14), type := 3, pos := "law.go:135", after := #[], guard := none }) (v := ?_) rfl (by kernel_rfl) (by kernel_rfl) (by kernel_rfl) (fun _ _ _ h => h) (Or.inl ⟨by rfl, ?_⟩) (by assumption) ?_
            rotate_left
            · intro w hSw
              try dsimp only at hSw
              go_simp
              try with_reducible rfl
            try simp only [Act.put, List.setIfInBounds_toArray, List.set_cons_zero, List.set_cons_succ]
            refine wpAnyH_take (i := 2) (oi := { dst := some 100, op := Op.indexAddr 43 (Operand.tmp 98) (Operand.tmp 99), type := 0, pos := "law.go:135", after := #[{ on := 0, ground := Ground.data }, { on := 1, ground := Ground.data }], guard := none }) (v := ?_) rfl (by kernel_rfl) (by kernel_rfl) (by kernel_rfl) (fun _ _ _ h => h) (Or.inl ⟨by rfl, ?_⟩) (by assumption) ?_
            rotate_left
            · intro w hSw
              try dsimp only at hSw
              go_simp
              try with_reducible rfl
            try simp only [Act.put, List.setIfInBounds_toArray, List.set_cons_zero, List.set_cons_succ]
            refine wpAnyH_take (i := 3) (oi := { dst := some 101, op := Op.load 3 (Operand.tmp 100), type := 3, pos := "law.go:135", after := #[{ on := 2, ground := Ground.data }], guard := none }) (v := ?_) rfl (by kernel_rfl) (by kernel_rfl) (by kernel_rfl) (fun _ _ _ h => h) (Or.inl ⟨by rfl, ?_⟩) (by assumption) ?_
            rotate_left
            · intro w hSw
              try dsimp only at hSw
              go_simp
              try with_reducible rfl
            try simp only [Act.put, List.setIfInBounds_toArray, List.set_cons_zero, List.set_cons_succ]
            refine wpAnyH_take (i := 4) (oi := { dst := some 102, op := Op.move (Operand.tmp 2), type := 43, pos := "law.go:135", after := #[{ on := 8, ground := Ground.gcOnly Departure.lateStores }], guard := none }) (v := ?_) rfl (by kernel_rfl) (by kernel_rfl) (by kernel_rfl) (fun _ _ _ h => h) (Or.inl ⟨by rfl, ?_⟩) (by assumption) ?_
            rotate_left
            · intro w hSw
              try dsimp only at hSw
              go_simp
              try with_reducible rfl
            try simp only [Act.put, List.setIfInBounds_toArray, List.set_cons_zero, List.set_cons_succ]
            refine wpAnyH_take (i := 5) (oi := { dst := some 103, op := Op.move (Operand.tmp 14), type := 3, pos := "law.go:135", after := #[{ on := 8, ground := Ground.gcOnly Departure.lateStores }], guard := none }) (v := ?_) rfl (by kernel_rfl) (by kernel_rfl) (by kernel_rfl) (fun _ _ _ h => h) (Or.inl ⟨by rfl, ?_⟩) (by assumption) ?_
            rotate_left
            · intro w hSw
              try dsimp only at hSw
              go_simp
              try with_reducible rfl
            try simp only [Act.put, List.setIfInBounds_toArray, List.set_cons_zero, List.set_cons_succ]
            refine wpAnyH_take (i := 6) (oi := { dst := some 104, op := Op.indexAddr 43 (Operand.tmp 102) (Operand.tmp 103), type := 0, pos := "law.go:135", after := #[{ on := 4, ground := Ground.data }, { on := 5, ground := Ground.data }, { on := 8, ground := Ground.gcOnly Departure.lateStores }], guard := none }) (v := ?_) rfl (by kernel_rfl) (by kernel_rfl) (by kernel_rfl) (fun _ _ _ h => h) (Or.inl ⟨by rfl, ?_⟩) (by assumption) ?_
            rotate_left
            · intro w hSw
              try dsimp only at hSw
              go_simp
              try with_reducible rfl
            try simp only [Act.put, List.setIfInBounds_toArray, List.set_cons_zero, List.set_cons_succ]
            refine wpAnyH_take (i := 7) (oi := { dst := some 105, op := Op.load 3 (Operand.tmp 104), type := 3, pos := "law.go:135", after := #[{ on := 6, ground := Ground.data }, { on := 8, ground := Ground.gcOnly Departure.lateStores }], guard := none }) (v := ?_) rfl (by kernel_rfl) (by kernel_rfl) (by kernel_rfl) (fun _ _ _ h => h) (Or.inl ⟨by rfl, ?_⟩) (by assumption) ?_
            rotate_left
            · intro w hSw
              try dsimp only at hSw
              go_simp
              try with_reducible rfl
            try simp only [Act.put, List.setIfInBounds_toArray, List.set_cons_zero, List.set_cons_succ]
            refine wpAnyH_take (i := 8) (oi := { dst := some 15, op := Op.assign (Operand.tmp 101), type := 3, pos := "law.go:135", after := #[{ on := 3, ground := Ground.data }, { on := 0, ground := Ground.phase }, { on := 1, ground := Ground.phase }, { on := 2, ground := Ground.phase }, { on := 3, ground := Ground.phase }, { on := 4, ground := Ground.textOnly Departure.lateStores }, { on := 5, ground := Ground.textOnly Departure.lateStores }, { on := 6, ground := Ground.textOnly Departure.lateStores }, { on := 7, ground := Ground.textOnly Departure.lateStores }], guard := none }) (v := ?_) rfl (by kernel_rfl) (by kernel_rfl) (by kernel_rfl) (fun _ _ _ h => h) (Or.inl ⟨by rfl, ?_⟩) (by assumption) ?_
            rotate_left
            · intro w hSw
              try dsimp only at hSw
              go_simp
              try with_reducible rfl
            try simp only [Act.put, List.setIfInBounds_toArray, List.set_cons_zero, List.set_cons_succ]
            refine wpAnyH_take (i := 9) (oi := { dst := some 16, op := Op.assign (Operand.tmp 105), type := 3, pos := "law.go:135", after := #[{ on := 7, ground := Ground.data }, { on := 8, ground := Ground.chain }, { on := 0, ground := Ground.phase }, { on := 1, ground := Ground.phase }, { on := 2, ground := Ground.phase }, { on := 3, ground := Ground.phase }, { on := 4, ground := Ground.phase }, { on := 5, ground := Ground.phase }, { on := 6, ground := Ground.phase }, { on := 7, ground := Ground.phase }, { on := 8, ground := Ground.phase }], guard := none }) (v := ?_) rfl (by kernel_rfl) (by kernel_rfl) (by kernel_rfl) (fun _ _ _ h => h) (Or.inl ⟨by rfl, ?_⟩) (by assumption) ?_
            rotate_left
            · intro w hSw
              try dsimp only at hSw
              go_simp
              try with_reducible rfl
            try simp only [Act.put, List.setIfInBounds_toArray, List.set_cons_zero, List.set_cons_succ]
            refine wpAnyH_done (by kernel_rfl) ?_ _
            go_wp2_with (go_at_call 41; go_must (refine (live8_any _).mono ?_; rintro e w9 ⟨rfl, h5⟩; have HB9 : Hid (Below w.heap.size w w9) := Lib.hid (blThen HBD.out h5); clear h5))
            go_ret
            exact ⟨rfl, HB9.out⟩
          have e1 : decide (x < 0) = false := decide_eq_false b1
          by_cases b2 : y < 0
          · have e2 : decide (y < 0) = true := decide_eq_true b2
            go_wp2_with fail
            refine wp_region_held_drew (S := (fun Y => Y.cell? ⟨gf, of_ + j, none⟩ = some (.int .i64 x) ∧ Y.cell? ⟨gt, ot_ + j, none⟩ = some (.int .i64 y))) (by kernel_rfl) (HFT.out _ HBJ.out.drew) (fun hHeld => ?_)
            refine wpAnyH_take (i := 0) (oi := { dst := some 98, op := Op.move (Operand.tmp 1), type := 43, pos := "law.go:135", after := #[], guard := none }) (v := ?_) rfl (by kernel_rfl) (by kernel_rfl) (by kernel_rfl) (fun _ _ _ h => h) (Or.inl ⟨by rfl, ?_⟩) (by assumption) ?_
            rotate_left
            · intro w hSw
              try dsimp only at hSw
              go_simp
              try with_reducible rfl
            try simp only [Act.put, List.setIfInBounds_toArray, List.set_cons_zero, List.set_cons_succ]
            refine wpAnyH_take (i := 1) (oi := { dst := some 99, op := Op.move (Operand.tmp 14), type := 3, pos := "law.go:135", after := #[], guard := none }) (v := ?_) rfl (by kernel_rfl) (by kernel_rfl) (by kernel_rfl) (fun _ _ _ h => h) (Or.inl ⟨by rfl, ?_⟩) (by assumption) ?_
            rotate_left
            · intro w hSw
              try dsimp only at hSw
              go_simp
              try with_reducible rfl
            try simp only [Act.put, List.setIfInBounds_toArray, List.set_cons_zero, List.set_cons_succ]
            refine wpAnyH_take (i := 2) (oi := { dst := some 100, op := Op.indexAddr 43 (Operand.tmp 98) (Operand.tmp 99), type := 0, pos := "law.go:135", after := #[{ on := 0, ground := Ground.data }, { on := 1, ground := Ground.data }], guard := none }) (v := ?_) rfl (by kernel_rfl) (by kernel_rfl) (by kernel_rfl) (fun _ _ _ h => h) (Or.inl ⟨by rfl, ?_⟩) (by assumption) ?_
            rotate_left
            · intro w hSw
              try dsimp only at hSw
              go_simp
              try with_reducible rfl
            try simp only [Act.put, List.setIfInBounds_toArray, List.set_cons_zero, List.set_cons_succ]
            refine wpAnyH_take (i := 3) (oi := { dst := some 101, op := Op.load 3 (Operand.tmp 100), type := 3, pos := "law.go:135", after := #[{ on := 2, ground := Ground.data }], guard := none }) (v := ?_) rfl (by kernel_rfl) (by kernel_rfl) (by kernel_rfl) (fun _ _ _ h => h) (Or.inl ⟨by rfl, ?_⟩) (by assumption) ?_
            rotate_left
            · intro w hSw
              try dsimp only at hSw
              go_simp
              try with_reducible rfl
            try simp only [Act.put, List.setIfInBounds_toArray, List.set_cons_zero, List.set_cons_succ]
            refine wpAnyH_take (i := 4) (oi := { dst := some 102, op := Op.move (Operand.tmp 2), type := 43, pos := "law.go:135", after := #[{ on := 8, ground := Ground.gcOnly Departure.lateStores }], guard := none }) (v := ?_) rfl (by kernel_rfl) (by kernel_rfl) (by kernel_rfl) (fun _ _ _ h => h) (Or.inl ⟨by rfl, ?_⟩) (by assumption) ?_
            rotate_left
            · intro w hSw
              try dsimp only at hSw
              go_simp
              try with_reducible rfl
            try simp only [Act.put, List.setIfInBounds_toArray, List.set_cons_zero, List.set_cons_succ]
            refine wpAnyH_take (i := 5) (oi := { dst := some 103, op := Op.move (Operand.tmp 14), type := 3, pos := "law.go:135", after := #[{ on := 8, ground := Ground.gcOnly Departure.lateStores }], guard := none }) (v := ?_) rfl (by kernel_rfl) (by kernel_rfl) (by kernel_rfl) (fun _ _ _ h => h) (Or.inl ⟨by rfl, ?_⟩) (by assumption) ?_
            rotate_left
            · intro w hSw
              try dsimp only at hSw
              go_simp
              try with_reducible rfl
            try simp only [Act.put, List.setIfInBounds_toArray, List.set_cons_zero, List.set_cons_succ]
            refine wpAnyH_take (i := 6) (oi := { dst := some 104, op := Op.indexAddr 43 (Operand.tmp 102) (Operand.tmp 103), type := 0, pos := "law.go:135", after := #[{ on := 4, ground := Ground.data }, { on := 5, ground := Ground.data }, { on := 8, ground := Ground.gcOnly Departure.lateStores }], guard := none }) (v := ?_) rfl (by kernel_rfl) (by kernel_rfl) (by kernel_rfl) (fun _ _ _ h => h) (Or.inl ⟨by rfl, ?_⟩) (by assumption) ?_
            rotate_left
            · intro w hSw
              try dsimp only at hSw
              go_simp
              try with_reducible rfl
            try simp only [Act.put, List.setIfInBounds_toArray, List.set_cons_zero, List.set_cons_succ]
            refine wpAnyH_take (i := 7) (oi := { dst := some 105, op := Op.load 3 (Operand.tmp 104), type := 3, pos := "law.go:135", after := #[{ on := 6, ground := Ground.data }, { on := 8, ground := Ground.gcOnly Departure.lateStores }], guard := none }) (v := ?_) rfl (by kernel_rfl) (by kernel_rfl) (by kernel_rfl) (fun _ _ _ h => h) (Or.inl ⟨by rfl, ?_⟩) (by assumption) ?_
            rotate_left
            · intro w hSw
              try dsimp only at hSw
              go_simp
              try with_reducible rfl
            try simp only [Act.put, List.setIfInBounds_toArray, List.set_cons_zero, List.set_cons_succ]
            refine wpAnyH_take (i := 8) (oi := { dst := some 15, op := Op.assign (Operand.tmp 101), type := 3, pos := "law.go:135", after := #[{ on := 3, ground := Ground.data }, { on := 0, ground := Ground.phase }, { on := 1, ground := Ground.phase }, { on := 2, ground := Ground.phase }, { on := 3, ground := Ground.phase }, { on := 4, ground := Ground.textOnly Departure.lateStores }, { on := 5, ground := Ground.textOnly Departure.lateStores }, { on := 6, ground := Ground.textOnly Departure.lateStores }, { on := 7, ground := Ground.textOnly Departure.lateStores }], guard := none }) (v := ?_) rfl (by kernel_rfl) (by kernel_rfl) (by kernel_rfl) (fun _ _ _ h => h) (Or.inl ⟨by rfl, ?_⟩) (by assumption) ?_
            rotate_left
            · intro w hSw
              try dsimp only at hSw
              go_simp
              try with_reducible rfl
            try simp only [Act.put, List.setIfInBounds_toArray, List.set_cons_zero, List.set_cons_succ]
            refine wpAnyH_take (i := 9) (oi := { dst := some 16, op := Op.assign (Operand.tmp 105), type := 3, pos := "law.go:135", after := #[{ on := 7, ground := Ground.data }, { on := 8, ground := Ground.chain }, { on := 0, ground := Ground.phase }, { on := 1, ground := Ground.phase }, { on := 2, ground := Ground.phase }, { on := 3, ground := Ground.phase }, { on := 4, ground := Ground.phase }, { on := 5, ground := Ground.phase }, { on := 6, ground := Ground.phase }, { on := 7, ground := Ground.phase }, { on := 8, ground := Ground.phase }], guard := none }) (v := ?_) rfl (by kernel_rfl) (by kernel_rfl) (by kernel_rfl) (fun _ _ _ h => h) (Or.inl ⟨by rfl, ?_⟩) (by assumption) ?_
            rotate_left
            · intro w hSw
              try dsimp only at hSw
              go_simp
              try with_reducible rfl
            try simp only [Act.put, List.setIfInBounds_toArray, List.set_cons_zero, List.set_cons_succ]
            refine wpAnyH_done (by kernel_rfl) ?_ _
            go_wp2_with (go_at_call 41; go_must (refine (live8_any _).mono ?_; rintro e w9 ⟨rfl, h5⟩; have HB9 : Hid (Below w.heap.size w w9) := Lib.hid (blThen HBD.out h5); clear h5))
            go_ret
            exact ⟨rfl, HB9.out⟩
          have e2 : decide (y < 0) = false := decide_eq_false b2
          by_cases b3 : (G.length : Int) ≤ x
          · have e3 : decide ((G.length : Int) ≤ x) = true := decide_eq_true b3
            go_wp2_with fail
            refine wp_region_held_drew (S := (fun Y => Y.cell? ⟨gf, of_ + j, none⟩ = some (.int .i64 x) ∧ Y.cell? ⟨gt, ot_ + j, none⟩ = some (.int .i64 y))) (by kernel_rfl) (HFT.out _ HBJ.out.drew) (fun hHeld => ?_)
            refine wpAnyH_take (i := 0) (oi := { dst := some 98, op := Op.move (Operand.tmp 1), type := 43, pos := "law.go:135", after := #[], guard := none }) (v := ?_) rfl (by kernel_rfl) (by kernel_rfl) (by kernel_rfl) (fun _ _ _ h => h) (Or.inl ⟨by rfl, ?_⟩) (by assumption) ?_
            rotate_left
            · intro w hSw
              try dsimp only at hSw
              go_simp
              try with_reducible rfl
            try simp only [Act.put, List.setIfInBounds_toArray, List.set_cons_zero, List.set_cons_succ]
            refine wpAnyH_take (i := 1) (oi := { dst := some 99, op := Op.move (Operand.tmp 14), type := 3, pos := "law.go:135", after := #[], guard := none }) (v := ?_) rfl (by kernel_rfl) (by kernel_rfl) (by kernel_rfl) (fun _ _ _ h => h) (Or.inl ⟨by rfl, ?_⟩) (by assumption) ?_
            rotate_left
            · intro w hSw
              try dsimp only at hSw
              go_simp
              try with_reducible rfl
            try simp only [Act.put, List.setIfInBounds_toArray, List.set_cons_zero, List.set_cons_succ]
            refine wpAnyH_take (i := 2) (oi := { dst := some 100, op := Op.indexAddr 43 (Operand.tmp 98) (Operand.tmp 99), type := 0, pos := "law.go:135", after := #[{ on := 0, ground := Ground.data }, { on := 1, ground := Ground.data }], guard := none }) (v := ?_) rfl (by kernel_rfl) (by kernel_rfl) (by kernel_rfl) (fun _ _ _ h => h) (Or.inl ⟨by rfl, ?_⟩) (by assumption) ?_
            rotate_left
            · intro w hSw
              try dsimp only at hSw
              go_simp
              try with_reducible rfl
            try simp only [Act.put, List.setIfInBounds_toArray, List.set_cons_zero, List.set_cons_succ]
            refine wpAnyH_take (i := 3) (oi := { dst := some 101, op := Op.load 3 (Operand.tmp 100), type := 3, pos := "law.go:135", after := #[{ on := 2, ground := Ground.data }], guard := none }) (v := ?_) rfl (by kernel_rfl) (by kernel_rfl) (by kernel_rfl) (fun _ _ _ h => h) (Or.inl ⟨by rfl, ?_⟩) (by assumption) ?_
            rotate_left
            · intro w hSw
              try dsimp only at hSw
              go_simp
              try with_reducible rfl
            try simp only [Act.put, List.setIfInBounds_toArray, List.set_cons_zero, List.set_cons_succ]
            refine wpAnyH_take (i := 4) (oi := { dst := some 102, op := Op.move (Operand.tmp 2), type := 43, pos := "law.go:135", after := #[{ on := 8, ground := Ground.gcOnly Departure.lateStores }], guard := none }) (v := ?_) rfl (by kernel_rfl) (by kernel_rfl) (by kernel_rfl) (fun _ _ _ h => h) (Or.inl ⟨by rfl, ?_⟩) (by assumption) ?_
            rotate_left
            · intro w hSw
              try dsimp only at hSw
              go_simp
              try with_reducible rfl
            try simp only [Act.put, List.setIfInBounds_toArray, List.set_cons_zero, List.set_cons_succ]
            refine wpAnyH_take (i := 5) (oi := { dst := some 103, op := Op.move (Operand.tmp 14), type := 3, pos := "law.go:135", after := #[{ on := 8, ground := Ground.gcOnly Departure.lateStores }], guard := none }) (v := ?_) rfl (by kernel_rfl) (by kernel_rfl) (by kernel_rfl) (fun _ _ _ h => h) (Or.inl ⟨by rfl, ?_⟩) (by assumption) ?_
            rotate_left
            · intro w hSw
              try dsimp only at hSw
              go_simp
              try with_reducible rfl
            try simp only [Act.put, List.setIfInBounds_toArray, List.set_cons_zero, List.set_cons_succ]
            refine wpAnyH_take (i := 6) (oi := { dst := some 104, op := Op.indexAddr 43 (Operand.tmp 102) (Operand.tmp 103), type := 0, pos := "law.go:135", after := #[{ on := 4, ground := Ground.data }, { on := 5, ground := Ground.data }, { on := 8, ground := Ground.gcOnly Departure.lateStores }], guard := none }) (v := ?_) rfl (by kernel_rfl) (by kernel_rfl) (by kernel_rfl) (fun _ _ _ h => h) (Or.inl ⟨by rfl, ?_⟩) (by assumption) ?_
            rotate_left
            · intro w hSw
              try dsimp only at hSw
              go_simp
              try with_reducible rfl
            try simp only [Act.put, List.setIfInBounds_toArray, List.set_cons_zero, List.set_cons_succ]
            refine wpAnyH_take (i := 7) (oi := { dst := some 105, op := Op.load 3 (Operand.tmp 104), type := 3, pos := "law.go:135", after := #[{ on := 6, ground := Ground.data }, { on := 8, ground := Ground.gcOnly Departure.lateStores }], guard := none }) (v := ?_) rfl (by kernel_rfl) (by kernel_rfl) (by kernel_rfl) (fun _ _ _ h => h) (Or.inl ⟨by rfl, ?_⟩) (by assumption) ?_
            rotate_left
            · intro w hSw
              try dsimp only at hSw
              go_simp
              try with_reducible rfl
            try simp only [Act.put, List.setIfInBounds_toArray, List.set_cons_zero, List.set_cons_succ]
            refine wpAnyH_take (i := 8) (oi := { dst := some 15, op := Op.assign (Operand.tmp 101), type := 3, pos := "law.go:135", after := #[{ on := 3, ground := Ground.data }, { on := 0, ground := Ground.phase }, { on := 1, ground := Ground.phase }, { on := 2, ground := Ground.phase }, { on := 3, ground := Ground.phase }, { on := 4, ground := Ground.textOnly Departure.lateStores }, { on := 5, ground := Ground.textOnly Departure.lateStores }, { on := 6, ground := Ground.textOnly Departure.lateStores }, { on := 7, ground := Ground.textOnly Departure.lateStores }], guard := none }) (v := ?_) rfl (by kernel_rfl) (by kernel_rfl) (by kernel_rfl) (fun _ _ _ h => h) (Or.inl ⟨by rfl, ?_⟩) (by assumption) ?_
            rotate_left
            · intro w hSw
              try dsimp only at hSw
              go_simp
              try with_reducible rfl
            try simp only [Act.put, List.setIfInBounds_toArray, List.set_cons_zero, List.set_cons_succ]
            refine wpAnyH_take (i := 9) (oi := { dst := some 16, op := Op.assign (Operand.tmp 105), type := 3, pos := "law.go:135", after := #[{ on := 7, ground := Ground.data }, { on := 8, ground := Ground.chain }, { on := 0, ground := Ground.phase }, { on := 1, ground := Ground.phase }, { on := 2, ground := Ground.phase }, { on := 3, ground := Ground.phase }, { on := 4, ground := Ground.phase }, { on := 5, ground := Ground.phase }, { on := 6, ground := Ground.phase }, { on := 7, ground := Ground.phase }, { on := 8, ground := Ground.phase }], guard := none }) (v := ?_) rfl (by kernel_rfl) (by kernel_rfl) (by kernel_rfl) (fun _ _ _ h => h) (Or.inl ⟨by rfl, ?_⟩) (by assumption) ?_
            rotate_left
            · intro w hSw
              try dsimp only at hSw
              go_simp
              try with_reducible rfl
            try simp only [Act.put, List.setIfInBounds_toArray, List.set_cons_zero, List.set_cons_succ]
            refine wpAnyH_done (by kernel_rfl) ?_ _
            go_wp2_with (go_at_call 41; go_must (refine (live8_any _).mono ?_; rintro e w9 ⟨rfl, h5⟩; have HB9 : Hid (Below w.heap.size w w9) := Lib.hid (blThen HBD.out h5); clear h5))
            go_ret
            exact ⟨rfl, HB9.out⟩
          have e3 : decide ((G.length : Int) ≤ x) = false := decide_eq_false b3
          by_cases b4 : (G.length : Int) ≤ y
          · have e4 : decide ((G.length : Int) ≤ y) = true := decide_eq_true b4
            go_wp2_with fail
            refine wp_region_held_drew (S := (fun Y => Y.cell? ⟨gf, of_ + j, none⟩ = some (.int .i64 x) ∧ Y.cell? ⟨gt, ot_ + j, none⟩ = some (.int .i64 y))) (by kernel_rfl) (HFT.out _ HBJ.out.drew) (fun hHeld => ?_)
            refine wpAnyH_take (i := 0) (oi := { dst := some 98, op := Op.move (Operand.tmp 1), type := 43, pos := "law.go:135", after := #[], guard := none }) (v := ?_) rfl (by kernel_rfl) (by kernel_rfl) (by kernel_rfl) (fun _ _ _ h => h) (Or.inl ⟨by rfl, ?_⟩) (by assumption) ?_
            rotate_left
            · intro w hSw
              try dsimp only at hSw
              go_simp
              try with_reducible rfl
            try simp only [Act.put, List.setIfInBounds_toArray, List.set_cons_zero, List.set_cons_succ]
            refine wpAnyH_take (i := 1) (oi := { dst := some 99, op := Op.move (Operand.tmp 14), type := 3, pos := "law.go:135", after := #[], guard := none }) (v := ?_) rfl (by kernel_rfl) (by kernel_rfl) (by kernel_rfl) (fun _ _ _ h => h) (Or.inl ⟨by rfl, ?_⟩) (by assumption) ?_
            rotate_left
            · intro w hSw
              try dsimp only at hSw
              go_simp
              try with_reducible rfl
            try simp only [Act.put, List.setIfInBounds_toArray, List.set_cons_zero, List.set_cons_succ]
            refine wpAnyH_take (i := 2) (oi := { dst := some 100, op := Op.indexAddr 43 (Operand.tmp 98) (Operand.tmp 99), type := 0, pos := "law.go:135", after := #[{ on := 0, ground := Ground.data }, { on := 1, ground := Ground.data }], guard := none }) (v := ?_) rfl (by kernel_rfl) (by kernel_rfl) (by kernel_rfl) (fun _ _ _ h => h) (Or.inl ⟨by rfl, ?_⟩) (by assumption) ?_
            rotate_left
            · intro w hSw
              try dsimp only at hSw
              go_simp
              try with_reducible rfl
            try simp only [Act.put, List.setIfInBounds_toArray, List.set_cons_zero, List.set_cons_succ]
            refine wpAnyH_take (i := 3) (oi := { dst := some 101, op := Op.load 3 (Operand.tmp 100), type := 3, pos := "law.go:135", after := #[{ on := 2, ground := Ground.data }], guard := none }) (v := ?_) rfl (by kernel_rfl) (by kernel_rfl) (by kernel_rfl) (fun _ _ _ h => h) (Or.inl ⟨by rfl, ?_⟩) (by assumption) ?_
            rotate_left
            · intro w hSw
              try dsimp only at hSw
              go_simp
              try with_reducible rfl
            try simp only [Act.put, List.setIfInBounds_toArray, List.set_cons_zero, List.set_cons_succ]
            refine wpAnyH_take (i := 4) (oi := { dst := some 102, op := Op.move (Operand.tmp 2), type := 43, pos := "law.go:135", after := #[{ on := 8, ground := Ground.gcOnly Departure.lateStores }], guard := none }) (v := ?_) rfl (by kernel_rfl) (by kernel_rfl) (by kernel_rfl) (fun _ _ _ h => h) (Or.inl ⟨by rfl, ?_⟩) (by assumption) ?_
            rotate_left
            · intro w hSw
              try dsimp only at hSw
              go_simp
              try with_reducible rfl
            try simp only [Act.put, List.setIfInBounds_toArray, List.set_cons_zero, List.set_cons_succ]
            refine wpAnyH_take (i := 5) (oi := { dst := some 103, op := Op.move (Operand.tmp 14), type := 3, pos := "law.go:135", after := #[{ on := 8, ground := Ground.gcOnly Departure.lateStores }], guard := none }) (v := ?_) rfl (by kernel_rfl) (by kernel_rfl) (by kernel_rfl) (fun _ _ _ h => h) (Or.inl ⟨by rfl, ?_⟩) (by assumption) ?_
            rotate_left
            · intro w hSw
              try dsimp only at hSw
              go_simp
              try with_reducible rfl
            try simp only [Act.put, List.setIfInBounds_toArray, List.set_cons_zero, List.set_cons_succ]
            refine wpAnyH_take (i := 6) (oi := { dst := some 104, op := Op.indexAddr 43 (Operand.tmp 102) (Operand.tmp 103), type := 0, pos := "law.go:135", after := #[{ on := 4, ground := Ground.data }, { on := 5, ground := Ground.data }, { on := 8, ground := Ground.gcOnly Departure.lateStores }], guard := none }) (v := ?_) rfl (by kernel_rfl) (by kernel_rfl) (by kernel_rfl) (fun _ _ _ h => h) (Or.inl ⟨by rfl, ?_⟩) (by assumption) ?_
            rotate_left
            · intro w hSw
              try dsimp only at hSw
              go_simp
              try with_reducible rfl
            try simp only [Act.put, List.setIfInBounds_toArray, List.set_cons_zero, List.set_cons_succ]
            refine wpAnyH_take (i := 7) (oi := { dst := some 105, op := Op.load 3 (Operand.tmp 104), type := 3, pos := "law.go:135", after := #[{ on := 6, ground := Ground.data }, { on := 8, ground := Ground.gcOnly Departure.lateStores }], guard := none }) (v := ?_) rfl (by kernel_rfl) (by kernel_rfl) (by kernel_rfl) (fun _ _ _ h => h) (Or.inl ⟨by rfl, ?_⟩) (by assumption) ?_
            rotate_left
            · intro w hSw
              try dsimp only at hSw
              go_simp
              try with_reducible rfl
            try simp only [Act.put, List.setIfInBounds_toArray, List.set_cons_zero, List.set_cons_succ]
            refine wpAnyH_take (i := 8) (oi := { dst := some 15, op := Op.assign (Operand.tmp 101), type := 3, pos := "law.go:135", after := #[{ on := 3, ground := Ground.data }, { on := 0, ground := Ground.phase }, { on := 1, ground := Ground.phase }, { on := 2, ground := Ground.phase }, { on := 3, ground := Ground.phase }, { on := 4, ground := Ground.textOnly Departure.lateStores }, { on := 5, ground := Ground.textOnly Departure.lateStores }, { on := 6, ground := Ground.textOnly Departure.lateStores }, { on := 7, ground := Ground.textOnly Departure.lateStores }], guard := none }) (v := ?_) rfl (by kernel_rfl) (by kernel_rfl) (by kernel_rfl) (fun _ _ _ h => h) (Or.inl ⟨by rfl, ?_⟩) (by assumption) ?_
            rotate_left
            · intro w hSw
              try dsimp only at hSw
              go_simp
              try with_reducible rfl
            try simp only [Act.put, List.setIfInBounds_toArray, List.set_cons_zero, List.set_cons_succ]
            refine wpAnyH_take (i := 9) (oi := { dst := some 16, op := Op.assign (Operand.tmp 105), type := 3, pos := "law.go:135", after := #[{ on := 7, ground := Ground.data }, { on := 8, ground := Ground.chain }, { on := 0, ground := Ground.phase }, { on := 1, ground := Ground.phase }, { on := 2, ground := Ground.phase }, { on := 3, ground := Ground.phase }, { on := 4, ground := Ground.phase }, { on := 5, ground := Ground.phase }, { on := 6, ground := Ground.phase }, { on := 7, ground := Ground.phase }, { on := 8, ground := Ground.phase }], guard := none }) (v := ?_) rfl (by kernel_rfl) (by kernel_rfl) (by kernel_rfl) (fun _ _ _ h => h) (Or.inl ⟨by rfl, ?_⟩) (by assumption) ?_
            rotate_left
            · intro w hSw
              try dsimp only at hSw
              go_simp
              try with_reducible rfl
            try simp only [Act.put, List.setIfInBounds_toArray, List.set_cons_zero, List.set_cons_succ]
            refine wpAnyH_done (by kernel_rfl) ?_ _
            go_wp2_with (go_at_call 41; go_must (refine (live8_any _).mono ?_; rintro e w9 ⟨rfl, h5⟩; have HB9 : Hid (Below w.heap.size w w9) := Lib.hid (blThen HBD.out h5); clear h5))
            go_ret
            exact ⟨rfl, HB9.out⟩
          have e4 : decide ((G.length : Int) ≤ y) = false := decide_eq_false b4
          by_cases b5 : x = y
          · subst b5
            have e5 : (x == x) = true := by simp
            go_wp2_with fail
            refine wp_region_held_drew (S := (fun Y => Y.cell? ⟨gf, of_ + j, none⟩ = some (.int .i64 x) ∧ Y.cell? ⟨gt, ot_ + j, none⟩ = some (.int .i64 x))) (by kernel_rfl) (HFT.out _ HBJ.out.drew) (fun hHeld => ?_)
            refine wpAnyH_take (i := 0) (oi := { dst := some 98, op := Op.move (Operand.tmp 1), type := 43, pos := "law.go:135", after := #[], guard := none }) (v := ?_) rfl (by kernel_rfl) (by kernel_rfl) (by kernel_rfl) (fun _ _ _ h => h) (Or.inl ⟨by rfl, ?_⟩) (by assumption) ?_
            rotate_left
            · intro w hSw
              try dsimp only at hSw
              go_simp
              try with_reducible rfl
            try simp only [Act.put, List.setIfInBounds_toArray, List.set_cons_zero, List.set_cons_succ]
            refine wpAnyH_take (i := 1) (oi := { dst := some 99, op := Op.move (Operand.tmp 14), type := 3, pos := "law.go:135", after := #[], guard := none }) (v := ?_) rfl (by kernel_rfl) (by kernel_rfl) (by kernel_rfl) (fun _ _ _ h => h) (Or.inl ⟨by rfl, ?_⟩) (by assumption) ?_
            rotate_left
            · intro w hSw
              try dsimp only at hSw
              go_simp
              try with_reducible rfl
            try simp only [Act.put, List.setIfInBounds_toArray, List.set_cons_zero, List.set_cons_succ]
            refine wpAnyH_take (i := 2) (oi := { dst := some 100, op := Op.indexAddr 43 (Operand.tmp 98) (Operand.tmp 99), type := 0, pos := "law.go:135", after := #[{ on := 0, ground := Ground.data }, { on := 1, ground := Ground.data }], guard := none }) (v := ?_) rfl (by kernel_rfl) (by kernel_rfl) (by kernel_rfl) (fun _ _ _ h => h) (Or.inl ⟨by rfl, ?_⟩) (by assumption) ?_
            rotate_left
            · intro w hSw
              try dsimp only at hSw
              go_simp
              try with_reducible rfl
            try simp only [Act.put, List.setIfInBounds_toArray, List.set_cons_zero, List.set_cons_succ]
            refine wpAnyH_take (i := 3) (oi := { dst := some 101, op := Op.load 3 (Operand.tmp 100), type := 3, pos := "law.go:135", after := #[{ on := 2, ground := Ground.data }], guard := none }) (v := ?_) rfl (by kernel_rfl) (by kernel_rfl) (by kernel_rfl) (fun _ _ _ h => h) (Or.inl ⟨by rfl, ?_⟩) (by assumption) ?_
            rotate_left
            · intro w hSw
              try dsimp only at hSw
              go_simp
              try with_reducible rfl
            try simp only [Act.put, List.setIfInBounds_toArray, List.set_cons_zero, List.set_cons_succ]
            refine wpAnyH_take (i := 4) (oi := { dst := some 102, op := Op.move (Operand.tmp 2), type := 43, pos := "law.go:135", after := #[{ on := 8, ground := Ground.gcOnly Departure.lateStores }], guard := none }) (v := ?_) rfl (by kernel_rfl) (by kernel_rfl) (by kernel_rfl) (fun _ _ _ h => h) (Or.inl ⟨by rfl, ?_⟩) (by assumption) ?_
            rotate_left
            · intro w hSw
              try dsimp only at hSw
              go_simp
              try with_reducible rfl
            try simp only [Act.put, List.setIfInBounds_toArray, List.set_cons_zero, List.set_cons_succ]
            refine wpAnyH_take (i := 5) (oi := { dst := some 103, op := Op.move (Operand.tmp 14), type := 3, pos := "law.go:135", after := #[{ on := 8, ground := Ground.gcOnly Departure.lateStores }], guard := none }) (v := ?_) rfl (by kernel_rfl) (by kernel_rfl) (by kernel_rfl) (fun _ _ _ h => h) (Or.inl ⟨by rfl, ?_⟩) (by assumption) ?_
            rotate_left
            · intro w hSw
              try dsimp only at hSw
              go_simp
              try with_reducible rfl
            try simp only [Act.put, List.setIfInBounds_toArray, List.set_cons_zero, List.set_cons_succ]
            refine wpAnyH_take (i := 6) (oi := { dst := some 104, op := Op.indexAddr 43 (Operand.tmp 102) (Operand.tmp 103), type := 0, pos := "law.go:135", after := #[{ on := 4, ground := Ground.data }, { on := 5, ground := Ground.data }, { on := 8, ground := Ground.gcOnly Departure.lateStores }], guard := none }) (v := ?_) rfl (by kernel_rfl) (by kernel_rfl) (by kernel_rfl) (fun _ _ _ h => h) (Or.inl ⟨by rfl, ?_⟩) (by assumption) ?_
            rotate_left
            · intro w hSw
              try dsimp only at hSw
              go_simp
              try with_reducible rfl
            try simp only [Act.put, List.setIfInBounds_toArray, List.set_cons_zero, List.set_cons_succ]
            refine wpAnyH_take (i := 7) (oi := { dst := some 105, op := Op.load 3 (Operand.tmp 104), type := 3, pos := "law.go:135", after := #[{ on := 6, ground := Ground.data }, { on := 8, ground := Ground.gcOnly Departure.lateStores }], guard := none }) (v := ?_) rfl (by kernel_rfl) (by kernel_rfl) (by kernel_rfl) (fun _ _ _ h => h) (Or.inl ⟨by rfl, ?_⟩) (by assumption) ?_
            rotate_left
            · intro w hSw
              try dsimp only at hSw
              go_simp
              try with_reducible rfl
            try simp only [Act.put, List.setIfInBounds_toArray, List.set_cons_zero, List.set_cons_succ]
            refine wpAnyH_take (i := 8) (oi := { dst := some 15, op := Op.assign (Operand.tmp 101), type := 3, pos := "law.go:135", after := #[{ on := 3, ground := Ground.data }, { on := 0, ground := Ground.phase }, { on := 1, ground := Ground.phase }, { on := 2, ground := Ground.phase }, { on := 3, ground := Ground.phase }, { on := 4, ground := Ground.textOnly Departure.lateStores }, { on := 5, ground := Ground.textOnly Departure.lateStores }, { on := 6, ground := Ground.textOnly Departure.lateStores }, { on := 7, ground := Ground.textOnly Departure.lateStores }], guard := none }) (v := ?_) rfl (by kernel_rfl) (by kernel_rfl) (by kernel_rfl) (fun _ _ _ h => h) (Or.inl ⟨by rfl, ?_⟩) (by assumption) ?_
            rotate_left
            · intro w hSw
              try dsimp only at hSw
              go_simp
              try with_reducible rfl
            try simp only [Act.put, List.setIfInBounds_toArray, List.set_cons_zero, List.set_cons_succ]
            refine wpAnyH_take (i := 9) (oi := { dst := some 16, op := Op.assign (Operand.tmp 105), type := 3, pos := "law.go:135", after := #[{ on := 7, ground := Ground.data }, { on := 8, ground := Ground.chain }, { on := 0, ground := Ground.phase }, { on := 1, ground := Ground.phase }, { on := 2, ground := Ground.phase }, { on := 3, ground := Ground.phase }, { on := 4, ground := Ground.phase }, { on := 5, ground := Ground.phase }, { on := 6, ground := Ground.phase }, { on := 7, ground := Ground.phase }, { on := 8, ground := Ground.phase }], guard := none }) (v := ?_) rfl (by kernel_rfl) (by kernel_rfl) (by kernel_rfl) (fun _ _ _ h => h) (Or.inl ⟨by rfl, ?_⟩) (by assumption) ?_
            rotate_left
            · intro w hSw
              try dsimp only at hSw
              go_simp
              try with_reducible rfl
            try simp only [Act.put, List.setIfInBounds_toArray, List.set_cons_zero, List.set_cons_succ]
            refine wpAnyH_done (by kernel_rfl) ?_ _
            go_wp2_with (go_at_call 41; go_must (refine (live8_any _).mono ?_; rintro e w9 ⟨rfl, h5⟩; have HB9 : Hid (Below w.heap.size w w9) := Lib.hid (blThen HBD.out h5); clear h5))
            go_ret
            exact ⟨rfl, HB9.out⟩
          have e5 : (x == y) = false := by simpa using b5
          by_cases b6 : m < 0
          · have e6 : decide (m < 0) = true := decide_eq_true b6
            go_wp2_with fail
            refine wp_region_held_drew (S := (fun Y => Y.cell? ⟨gf, of_ + j, none⟩ = some (.int .i64 x) ∧ Y.cell? ⟨gt, ot_ + j, none⟩ = some (.int .i64 y))) (by kernel_rfl) (HFT.out _ HBJ.out.drew) (fun hHeld => ?_)
            refine wpAnyH_take (i := 0) (oi := { dst := some 98, op := Op.move (Operand.tmp 1), type := 43, pos := "law.go:135", after := #[], guard := none }) (v := ?_) rfl (by kernel_rfl) (by kernel_rfl) (by kernel_rfl) (fun _ _ _ h => h) (Or.inl ⟨by rfl, ?_⟩) (by assumption) ?_
            rotate_left
            · intro w hSw
              try dsimp only at hSw
              go_simp
              try with_reducible rfl
            try simp only [Act.put, List.setIfInBounds_toArray, List.set_cons_zero, List.set_cons_succ]
            refine wpAnyH_take (i := 1) (oi := { dst := some 99, op := Op.move (Operand.tmp 14), type := 3, pos := "law.go:135", after := #[], guard := none }) (v := ?_) rfl (by kernel_rfl) (by kernel_rfl) (by kernel_rfl) (fun _ _ _ h => h) (Or.inl ⟨by rfl, ?_⟩) (by assumption) ?_
            rotate_left
            · intro w hSw
              try dsimp only at hSw
              go_simp
              try with_reducible rfl
            try simp only [Act.put, List.setIfInBounds_toArray, List.set_cons_zero, List.set_cons_succ]
            refine wpAnyH_take (i := 2) (oi := { dst := some 100, op := Op.indexAddr 43 (Operand.tmp 98) (Operand.tmp 99), type := 0, pos := "law.go:135", after := #[{ on := 0, ground := Ground.data }, { on := 1, ground := Ground.data }], guard := none }) (v := ?_) rfl (by kernel_rfl) (by kernel_rfl) (by kernel_rfl) (fun _ _ _ h => h) (Or.inl ⟨by rfl, ?_⟩) (by assumption) ?_
            rotate_left
            · intro w hSw
              try dsimp only at hSw
              go_simp
              try with_reducible rfl
            try simp only [Act.put, List.setIfInBounds_toArray, List.set_cons_zero, List.set_cons_succ]
            refine wpAnyH_take (i := 3) (oi := { dst := some 101, op := Op.load 3 (Operand.tmp 100), type := 3, pos := "law.go:135", after := #[{ on := 2, ground := Ground.data }], guard := none }) (v := ?_) rfl (by kernel_rfl) (by kernel_rfl) (by kernel_rfl) (fun _ _ _ h => h) (Or.inl ⟨by rfl, ?_⟩) (by assumption) ?_
            rotate_left
            · intro w hSw
              try dsimp only at hSw
              go_simp
              try with_reducible rfl
            try simp only [Act.put, List.setIfInBounds_toArray, List.set_cons_zero, List.set_cons_succ]
            refine wpAnyH_take (i := 4) (oi := { dst := some 102, op := Op.move (Operand.tmp 2), type := 43, pos := "law.go:135", after := #[{ on := 8, ground := Ground.gcOnly Departure.lateStores }], guard := none }) (v := ?_) rfl (by kernel_rfl) (by kernel_rfl) (by kernel_rfl) (fun _ _ _ h => h) (Or.inl ⟨by rfl, ?_⟩) (by assumption) ?_
            rotate_left
            · intro w hSw
              try dsimp only at hSw
              go_simp
              try with_reducible rfl
            try simp only [Act.put, List.setIfInBounds_toArray, List.set_cons_zero, List.set_cons_succ]
            refine wpAnyH_take (i := 5) (oi := { dst := some 103, op := Op.move (Operand.tmp 14), type := 3, pos := "law.go:135", after := #[{ on := 8, ground := Ground.gcOnly Departure.lateStores }], guard := none }) (v := ?_) rfl (by kernel_rfl) (by kernel_rfl) (by kernel_rfl) (fun _ _ _ h => h) (Or.inl ⟨by rfl, ?_⟩) (by assumption) ?_
            rotate_left
            · intro w hSw
              try dsimp only at hSw
              go_simp
              try with_reducible rfl
            try simp only [Act.put, List.setIfInBounds_toArray, List.set_cons_zero, List.set_cons_succ]
            refine wpAnyH_take (i := 6) (oi := { dst := some 104, op := Op.indexAddr 43 (Operand.tmp 102) (Operand.tmp 103), type := 0, pos := "law.go:135", after := #[{ on := 4, ground := Ground.data }, { on := 5, ground := Ground.data }, { on := 8, ground := Ground.gcOnly Departure.lateStores }], guard := none }) (v := ?_) rfl (by kernel_rfl) (by kernel_rfl) (by kernel_rfl) (fun _ _ _ h => h) (Or.inl ⟨by rfl, ?_⟩) (by assumption) ?_
            rotate_left
            · intro w hSw
              try dsimp only at hSw
              go_simp
              try with_reducible rfl
            try simp only [Act.put, List.setIfInBounds_toArray, List.set_cons_zero, List.set_cons_succ]
            refine wpAnyH_take (i := 7) (oi := { dst := some 105, op := Op.load 3 (Operand.tmp 104), type := 3, pos := "law.go:135", after := #[{ on := 6, ground := Ground.data }, { on := 8, ground := Ground.gcOnly Departure.lateStores }], guard := none }) (v := ?_) rfl (by kernel_rfl) (by kernel_rfl) (by kernel_rfl) (fun _ _ _ h => h) (Or.inl ⟨by rfl, ?_⟩) (by assumption) ?_
            rotate_left
            · intro w hSw
              try dsimp only at hSw
              go_simp
              try with_reducible rfl
            try simp only [Act.put, List.setIfInBounds_toArray, List.set_cons_zero, List.set_cons_succ]
            refine wpAnyH_take (i := 8) (oi := { dst := some 15, op := Op.assign (Operand.tmp 101), type := 3, pos := "law.go:135", after := #[{ on := 3, ground := Ground.data }, { on := 0, ground := Ground.phase }, { on := 1, ground := Ground.phase }, { on := 2, ground := Ground.phase }, { on := 3, ground := Ground.phase }, { on := 4, ground := Ground.textOnly Departure.lateStores }, { on := 5, ground := Ground.textOnly Departure.lateStores }, { on := 6, ground := Ground.textOnly Departure.lateStores }, { on := 7, ground := Ground.textOnly Departure.lateStores }], guard := none }) (v := ?_) rfl (by kernel_rfl) (by kernel_rfl) (by kernel_rfl) (fun _ _ _ h => h) (Or.inl ⟨by rfl, ?_⟩) (by assumption) ?_
            rotate_left
            · intro w hSw
              try dsimp only at hSw
              go_simp
              try with_reducible rfl
            try simp only [Act.put, List.setIfInBounds_toArray, List.set_cons_zero, List.set_cons_succ]
            refine wpAnyH_take (i := 9) (oi := { dst := some 16, op := Op.assign (Operand.tmp 105), type := 3, pos := "law.go:135", after := #[{ on := 7, ground := Ground.data }, { on := 8, ground := Ground.chain }, { on := 0, ground := Ground.phase }, { on := 1, ground := Ground.phase }, { on := 2, ground := Ground.phase }, { on := 3, ground := Ground.phase }, { on := 4, ground := Ground.phase }, { on := 5, ground := Ground.phase }, { on := 6, ground := Ground.phase }, { on := 7, ground := Ground.phase }, { on := 8, ground := Ground.phase }], guard := none }) (v := ?_) rfl (by kernel_rfl) (by kernel_rfl) (by kernel_rfl) (fun _ _ _ h => h) (Or.inl ⟨by rfl, ?_⟩) (by assumption) ?_
            rotate_left
            · intro w hSw
              try dsimp only at hSw
              go_simp
              try with_reducible rfl
            try simp only [Act.put, List.setIfInBounds_toArray, List.set_cons_zero, List.set_cons_succ]
            refine wpAnyH_done (by kernel_rfl) ?_ _
            go_wp2_with (go_at_call 41; go_must (refine (live8_any _).mono ?_; rintro e w9 ⟨rfl, h5⟩; have HB9 : Hid (Below w.heap.size w w9) := Lib.hid (blThen HBD.out h5); clear h5))
            go_ret
            exact ⟨rfl, HB9.out⟩
          have e6 : decide (m < 0) = false := decide_eq_false b6
          by_cases b7 : 1000000 < m
          · have e7 : decide (1000000 < m) = true := decide_eq_true b7
            go_wp2_with fail
            refine wp_region_held_drew (S := (fun Y => Y.cell? ⟨gf, of_ + j, none⟩ = some (.int .i64 x) ∧ Y.cell? ⟨gt, ot_ + j, none⟩ = some (.int .i64 y))) (by kernel_rfl) (HFT.out _ HBJ.out.drew) (fun hHeld => ?_)
            refine wpAnyH_take (i := 0) (oi := { dst := some 98, op := Op.move (Operand.tmp 1), type := 43, pos := "law.go:135", after := #[], guard := none }) (v := ?_) rfl (by kernel_rfl) (by kernel_rfl) (by kernel_rfl) (fun _ _ _ h => h) (Or.inl ⟨by rfl, ?_⟩) (by assumption) ?_
            rotate_left
            · intro w hSw
              try dsimp only at hSw
              go_simp
              try with_reducible rfl
            try simp only [Act.put, List.setIfInBounds_toArray, List.set_cons_zero, List.set_cons_succ]
            refine wpAnyH_take (i := 1) (oi := { dst := some 99, op := Op.move (Operand.tmp 14), type := 3, pos := "law.go:135", after := #[], guard := none }) (v := ?_) rfl (by kernel_rfl) (by kernel_rfl) (by kernel_rfl) (fun _ _ _ h => h) (Or.inl ⟨by rfl, ?_⟩) (by assumption) ?_
            rotate_left
            · intro w hSw
              try dsimp only at hSw
              go_simp
              try with_reducible rfl
            try simp only [Act.put, List.setIfInBounds_toArray, List.set_cons_zero, List.set_cons_succ]
            refine wpAnyH_take (i := 2) (oi := { dst := some 100, op := Op.indexAddr 43 (Operand.tmp 98) (Operand.tmp 99), type := 0, pos := "law.go:135", after := #[{ on := 0, ground := Ground.data }, { on := 1, ground := Ground.data }], guard := none }) (v := ?_) rfl (by kernel_rfl) (by kernel_rfl) (by kernel_rfl) (fun _ _ _ h => h) (Or.inl ⟨by rfl, ?_⟩) (by assumption) ?_
            rotate_left
            · intro w hSw
              try dsimp only at hSw
              go_simp
              try with_reducible rfl
            try simp only [Act.put, List.setIfInBounds_toArray, List.set_cons_zero, List.set_cons_succ]
            refine wpAnyH_take (i := 3) (oi := { dst := some 101, op := Op.load 3 (Operand.tmp 100), type := 3, pos := "law.go:135", after := #[{ on := 2, ground := Ground.data }], guard := none }) (v := ?_) rfl (by kernel_rfl) (by kernel_rfl) (by kernel_rfl) (fun _ _ _ h => h) (Or.inl ⟨by rfl, ?_⟩) (by assumption) ?_
            rotate_left
            · intro w hSw
              try dsimp only at hSw
              go_simp
              try with_reducible rfl
            try simp only [Act.put, List.setIfInBounds_toArray, List.set_cons_zero, List.set_cons_succ]
            refine wpAnyH_take (i := 4) (oi := { dst := some 102, op := Op.move (Operand.tmp 2), type := 43, pos := "law.go:135", after := #[{ on := 8, ground := Ground.gcOnly Departure.lateStores }], guard := none }) (v := ?_) rfl (by kernel_rfl) (by kernel_rfl) (by kernel_rfl) (fun _ _ _ h => h) (Or.inl ⟨by rfl, ?_⟩) (by assumption) ?_
            rotate_left
            · intro w hSw
              try dsimp only at hSw
              go_simp
              try with_reducible rfl
            try simp only [Act.put, List.setIfInBounds_toArray, List.set_cons_zero, List.set_cons_succ]
            refine wpAnyH_take (i := 5) (oi := { dst := some 103, op := Op.move (Operand.tmp 14), type := 3, pos := "law.go:135", after := #[{ on := 8, ground := Ground.gcOnly Departure.lateStores }], guard := none }) (v := ?_) rfl (by kernel_rfl) (by kernel_rfl) (by kernel_rfl) (fun _ _ _ h => h) (Or.inl ⟨by rfl, ?_⟩) (by assumption) ?_
            rotate_left
            · intro w hSw
              try dsimp only at hSw
              go_simp
              try with_reducible rfl
            try simp only [Act.put, List.setIfInBounds_toArray, List.set_cons_zero, List.set_cons_succ]
            refine wpAnyH_take (i := 6) (oi := { dst := some 104, op := Op.indexAddr 43 (Operand.tmp 102) (Operand.tmp 103), type := 0, pos := "law.go:135", after := #[{ on := 4, ground := Ground.data }, { on := 5, ground := Ground.data }, { on := 8, ground := Ground.gcOnly Departure.lateStores }], guard := none }) (v := ?_) rfl (by kernel_rfl) (by kernel_rfl) (by kernel_rfl) (fun _ _ _ h => h) (Or.inl ⟨by rfl, ?_⟩) (by assumption) ?_
            rotate_left
            · intro w hSw
              try dsimp only at hSw
              go_simp
              try with_reducible rfl
            try simp only [Act.put, List.setIfInBounds_toArray, List.set_cons_zero, List.set_cons_succ]
            refine wpAnyH_take (i := 7) (oi := { dst := some 105, op := Op.load 3 (Operand.tmp 104), type := 3, pos := "law.go:135", after := #[{ on := 6, ground := Ground.data }, { on := 8, ground := Ground.gcOnly Departure.lateStores }], guard := none }) (v := ?_) rfl (by kernel_rfl) (by kernel_rfl) (by kernel_rfl) (fun _ _ _ h => h) (Or.inl ⟨by rfl, ?_⟩) (by assumption) ?_
            rotate_left
            · intro w hSw
              try dsimp only at hSw
              go_simp
              try with_reducible rfl
            try simp only [Act.put, List.setIfInBounds_toArray, List.set_cons_zero, List.set_cons_succ]
            refine wpAnyH_take (i := 8) (oi := { dst := some 15, op := Op.assign (Operand.tmp 101), type := 3, pos := "law.go:135", after := #[{ on := 3, ground := Ground.data }, { on := 0, ground := Ground.phase }, { on := 1, ground := Ground.phase }, { on := 2, ground := Ground.phase }, { on := 3, ground := Ground.phase }, { on := 4, ground := Ground.textOnly Departure.lateStores }, { on := 5, ground := Ground.textOnly Departure.lateStores }, { on := 6, ground := Ground.textOnly Departure.lateStores }, { on := 7, ground := Ground.textOnly Departure.lateStores }], guard := none }) (v := ?_) rfl (by kernel_rfl) (by kernel_rfl) (by kernel_rfl) (fun _ _ _ h => h) (Or.inl ⟨by rfl, ?_⟩) (by assumption) ?_
            rotate_left
            · intro w hSw
              try dsimp only at hSw
              go_simp
              try with_reducible rfl
            try simp only [Act.put, List.setIfInBounds_toArray, List.set_cons_zero, List.set_cons_succ]
            refine wpAnyH_take (i := 9) (oi := { dst := some 16, op := Op.assign (Operand.tmp 105), type := 3, pos := "law.go:135", after := #[{ on := 7, ground := Ground.data }, { on := 8, ground := Ground.chain }, { on := 0, ground := Ground.phase }, { on := 1, ground := Ground.phase }, { on := 2, ground := Ground.phase }, { on := 3, ground := Ground.phase }, { on := 4, ground := Ground.phase }, { on := 5, ground := Ground.phase }, { on := 6, ground := Ground.phase }, { on := 7, ground := Ground.phase }, { on := 8, ground := Ground.phase }], guard := none }) (v := ?_) rfl (by kernel_rfl) (by kernel_rfl) (by kernel_rfl) (fun _ _ _ h => h) (Or.inl ⟨by rfl, ?_⟩) (by assumption) ?_
            rotate_left
            · intro w hSw
              try dsimp only at hSw
              go_simp
              try with_reducible rfl
            try simp only [Act.put, List.setIfInBounds_toArray, List.set_cons_zero, List.set_cons_succ]
            refine wpAnyH_done (by kernel_rfl) ?_ _
            go_wp2_with (go_at_call 41; go_must (refine (live8_any _).mono ?_; rintro e w9 ⟨rfl, h5⟩; have HB9 : Hid (Below w.heap.size w w9) := Lib.hid (blThen HBD.out h5); clear h5))
            go_ret
            exact ⟨rfl, HB9.out⟩
          have e7 : decide (1000000 < m) = false := decide_eq_false b7
          obtain ⟨xn, rfl⟩ : ∃ xn : Nat, x = (xn : Int) := ⟨x.toNat, by omega⟩
          obtain ⟨yn, rfl⟩ : ∃ yn : Nat, y = (yn : Int) := ⟨y.toNat, by omega⟩
          have hxl : xn < L.length := by omega
          have hyl : yn < L.length := by omega
          have hxy : xn ≠ yn := by omega
          obtain ⟨nx, hnx⟩ := at_lt hxl
          obtain ⟨ny, hny⟩ := at_lt hyl
          obtain ⟨kx, hkx⟩ := at_lt (l := keyL) (show xn < keyL.length by show xn < 5; omega)
          obtain ⟨ky, hky⟩ := at_lt (l := keyL) (show yn < keyL.length by show yn < 5; omega)
          have hx5 : (xn : Int) < 5 := by omega
          have hy5 : (yn : Int) < 5 := by omega
          have hxg : (xn : Int) < (G.length : Int) := by omega
          have hyg : (yn : Int) < (G.length : Int) := by omega
          have hx00 : (0 : Int) ≤ (xn : Int) := by omega
          have hy00 : (0 : Int) ≤ (yn : Int) := by omega
          have hnx0 : 0 ≤ nx ∧ nx ≤ 10000000 := ⟨HNN.out nx (List.mem_of_getElem? hnx), by have := le_sum HNN.out nx (List.mem_of_getElem? hnx); have := HSU.out; have := HSG.out; omega⟩
          have hny0 : 0 ≤ ny ∧ ny ≤ 10000000 := ⟨HNN.out ny (List.mem_of_getElem? hny), by have := le_sum HNN.out ny (List.mem_of_getElem? hny); have := HSU.out; have := HSG.out; omega⟩
          have hm0 : 0 ≤ m := by omega
          have hm1 : m ≤ 1000000 := by omega
          obtain ⟨mv1, mv2, mv3⟩ := move_whole hxy hkx hky hnx hny hm0 hm1 hnx0 hny0
          have HMV1 := Lib.hid mv1
          have HMV2 := Lib.hid mv2
          have HMV3 := Lib.hid mv3
          have HMO : Hid (okB (6, kx, ky, ofN m) = true) := Lib.hid (move_ok (keys_ne hxy hkx hky) hkx hky m)
          have HKS : Hid (kx.size ≤ 1000 ∧ ky.size ≤ 1000) := Lib.hid ⟨(key_ok hkx).2, (key_ok hky).2⟩
          have HRS := Lib.hid (dN_ris L)
          have HKZ : Hid (∀ p ∈ dN L, p.1.size ≤ maxLen) := Lib.hid (dN_keys L)
          have HNX := Lib.hid hnx
          have HNY := Lib.hid hny
          have HCX := Lib.hid (fun (Y : World) (h : Below wr.heap.size wr Y) => (⟨(texts_at (HK.out.later h) hkx).2, (texts_at (HK.out.later h) hky).2, HMC.out _ (blThen HBJ.out h)⟩ : Y.cell? ⟨kb, xn, none⟩ = some (.string kx) ∧ Y.cell? ⟨kb, yn, none⟩ = some (.string ky) ∧ Y.cell? ⟨gm, om_ + j, none⟩ = some (.int .i64 m)))
          have HCN := Lib.hid (fun (Y : World) (h : Below wr.heap.size wr Y) => (⟨own_at (HN.out.later h) hnx, own_at (HN.out.later h) hny⟩ : Y.cell? ⟨g1, xn, none⟩ = some (.int .i64 nx) ∧ Y.cell? ⟨g1, yn, none⟩ = some (.int .i64 ny)))
          have HJ := Lib.hid hj
          clear mv1 mv2 mv3 hnx hny hkx hky b1 b2 b3 b4 hxl hyl
          generalize hDN : dN L = DN at *
          have HDN := Lib.hid hDN
          clear hDN
          go_wp2_with fail
          refine wp_region_held_drew (S := (fun Y => Y.cell? ⟨gf, of_ + j, none⟩ = some (.int .i64 (xn : Int)) ∧ Y.cell? ⟨gt, ot_ + j, none⟩ = some (.int .i64 (yn : Int)))) (by kernel_rfl) (HFT.out _ HBJ.out.drew) (fun hHeld => ?_)
          refine wpAnyH_take (i := 0) (oi := { dst := some 98, op := Op.move (Operand.tmp 1), type := 43, pos := "law.go:135", after := #[], guard := none }) (v := ?_) rfl (by kernel_rfl) (by kernel_rfl) (by kernel_rfl) (fun _ _ _ h => h) (Or.inl ⟨by rfl, ?_⟩) (by assumption) ?_
          rotate_left
          · intro w hSw
            try dsimp only at hSw
            go_simp
            try with_reducible rfl
          try simp only [Act.put, List.setIfInBounds_toArray, List.set_cons_zero, List.set_cons_succ]
          refine wpAnyH_take (i := 1) (oi := { dst := some 99, op := Op.move (Operand.tmp 14), type := 3, pos := "law.go:135", after := #[], guard := none }) (v := ?_) rfl (by kernel_rfl) (by kernel_rfl) (by kernel_rfl) (fun _ _ _ h => h) (Or.inl ⟨by rfl, ?_⟩) (by assumption) ?_
          rotate_left
          · intro w hSw
            try dsimp only at hSw
            go_simp
            try with_reducible rfl
          try simp only [Act.put, List.setIfInBounds_toArray, List.set_cons_zero, List.set_cons_succ]
          refine wpAnyH_take (i := 2) (oi := { dst := some 100, op := Op.indexAddr 43 (Operand.tmp 98) (Operand.tmp 99), type := 0, pos := "law.go:135", after := #[{ on := 0, ground := Ground.data }, { on := 1, ground := Ground.data }], guard := none }) (v := ?_) rfl (by kernel_rfl) (by kernel_rfl) (by kernel_rfl) (fun _ _ _ h => h) (Or.inl ⟨by rfl, ?_⟩) (by assumption) ?_
          rotate_left
          · intro w hSw
            try dsimp only at hSw
            go_simp
            try with_reducible rfl
          try simp only [Act.put, List.setIfInBounds_toArray, List.set_cons_zero, List.set_cons_succ]
          refine wpAnyH_take (i := 3) (oi := { dst := some 101, op := Op.load 3 (Operand.tmp 100), type := 3, pos := "law.go:135", after := #[{ on := 2, ground := Ground.data }], guard := none }) (v := ?_) rfl (by kernel_rfl) (by kernel_rfl) (by kernel_rfl) (fun _ _ _ h => h) (Or.inl ⟨by rfl, ?_⟩) (by assumption) ?_
          rotate_left
          · intro w hSw
            try dsimp only at hSw
            go_simp
            try with_reducible rfl
          try simp only [Act.put, List.setIfInBounds_toArray, List.set_cons_zero, List.set_cons_succ]
          refine wpAnyH_take (i := 4) (oi := { dst := some 102, op := Op.move (Operand.tmp 2), type := 43, pos := "law.go:135", after := #[{ on := 8, ground := Ground.gcOnly Departure.lateStores }], guard := none }) (v := ?_) rfl (by kernel_rfl) (by kernel_rfl) (by kernel_rfl) (fun _ _ _ h => h) (Or.inl ⟨by rfl, ?_⟩) (by assumption) ?_
          rotate_left
          · intro w hSw
            try dsimp only at hSw
            go_simp
            try with_reducible rfl
          try simp only [Act.put, List.setIfInBounds_toArray, List.set_cons_zero, List.set_cons_succ]
          refine wpAnyH_take (i := 5) (oi := { dst := some 103, op := Op.move (Operand.tmp 14), type := 3, pos := "law.go:135", after := #[{ on := 8, ground := Ground.gcOnly Departure.lateStores }], guard := none }) (v := ?_) rfl (by kernel_rfl) (by kernel_rfl) (by kernel_rfl) (fun _ _ _ h => h) (Or.inl ⟨by rfl, ?_⟩) (by assumption) ?_
          rotate_left
          · intro w hSw
            try dsimp only at hSw
            go_simp
            try with_reducible rfl
          try simp only [Act.put, List.setIfInBounds_toArray, List.set_cons_zero, List.set_cons_succ]
          refine wpAnyH_take (i := 6) (oi := { dst := some 104, op := Op.indexAddr 43 (Operand.tmp 102) (Operand.tmp 103), type := 0, pos := "law.go:135", after := #[{ on := 4, ground := Ground.data }, { on := 5, ground := Ground.data }, { on := 8, ground := Ground.gcOnly Departure.lateStores }], guard := none }) (v := ?_) rfl (by kernel_rfl) (by kernel_rfl) (by kernel_rfl) (fun _ _ _ h => h) (Or.inl ⟨by rfl, ?_⟩) (by assumption) ?_
          rotate_left
          · intro w hSw
            try dsimp only at hSw
            go_simp
            try with_reducible rfl
          try simp only [Act.put, List.setIfInBounds_toArray, List.set_cons_zero, List.set_cons_succ]
          refine wpAnyH_take (i := 7) (oi := { dst := some 105, op := Op.load 3 (Operand.tmp 104), type := 3, pos := "law.go:135", after := #[{ on := 6, ground := Ground.data }, { on := 8, ground := Ground.gcOnly Departure.lateStores }], guard := none }) (v := ?_) rfl (by kernel_rfl) (by kernel_rfl) (by kernel_rfl) (fun _ _ _ h => h) (Or.inl ⟨by rfl, ?_⟩) (by assumption) ?_
          rotate_left
          · intro w hSw
            try dsimp only at hSw
            go_simp
            try with_reducible rfl
          try simp only [Act.put, List.setIfInBounds_toArray, List.set_cons_zero, List.set_cons_succ]
          refine wpAnyH_take (i := 8) (oi := { dst := some 15, op := Op.assign (Operand.tmp 101), type := 3, pos := "law.go:135", after := #[{ on := 3, ground := Ground.data }, { on := 0, ground := Ground.phase }, { on := 1, ground := Ground.phase }, { on := 2, ground := Ground.phase }, { on := 3, ground := Ground.phase }, { on := 4, ground := Ground.textOnly Departure.lateStores }, { on := 5, ground := Ground.textOnly Departure.lateStores }, { on := 6, ground := Ground.textOnly Departure.lateStores }, { on := 7, ground := Ground.textOnly Departure.lateStores }], guard := none }) (v := ?_) rfl (by kernel_rfl) (by kernel_rfl) (by kernel_rfl) (fun _ _ _ h => h) (Or.inl ⟨by rfl, ?_⟩) (by assumption) ?_
          rotate_left
          · intro w hSw
            try dsimp only at hSw
            go_simp
            try with_reducible rfl
          try simp only [Act.put, List.setIfInBounds_toArray, List.set_cons_zero, List.set_cons_succ]
          refine wpAnyH_take (i := 9) (oi := { dst := some 16, op := Op.assign (Operand.tmp 105), type := 3, pos := "law.go:135", after := #[{ on := 7, ground := Ground.data }, { on := 8, ground := Ground.chain }, { on := 0, ground := Ground.phase }, { on := 1, ground := Ground.phase }, { on := 2, ground := Ground.phase }, { on := 3, ground := Ground.phase }, { on := 4, ground := Ground.phase }, { on := 5, ground := Ground.phase }, { on := 6, ground := Ground.phase }, { on := 7, ground := Ground.phase }, { on := 8, ground := Ground.phase }], guard := none }) (v := ?_) rfl (by kernel_rfl) (by kernel_rfl) (by kernel_rfl) (fun _ _ _ h => h) (Or.inl ⟨by rfl, ?_⟩) (by assumption) ?_
          rotate_left
          · intro w hSw
            try dsimp only at hSw
            go_simp
            try with_reducible rfl
          try simp only [Act.put, List.setIfInBounds_toArray, List.set_cons_zero, List.set_cons_succ]
          refine wpAnyH_done (by kernel_rfl) ?_ _
          go_wp2_with fail
          refine wp_region_held_drew (S := (fun Y => Y.cell? ⟨kb, xn, none⟩ = some (.string kx) ∧ Y.cell? ⟨kb, yn, none⟩ = some (.string ky) ∧ Y.cell? ⟨gm, om_ + j, none⟩ = some (.int .i64 m))) (by kernel_rfl) (HCX.out _ (Below.refl wr.heap.size wr).drew.drew) (fun hHeld => ?_)
          refine wpAnyH_take (i := 0) (oi := { dst := some 145, op := Op.move (Operand.tmp 10), type := 87, pos := "law.go:139", after := #[], guard := none }) (v := ?_) rfl (by kernel_rfl) (by kernel_rfl) (by kernel_rfl) (fun _ _ _ h => h) (Or.inl ⟨by rfl, ?_⟩) (by assumption) ?_
          rotate_left
          · intro w hSw
            try dsimp only at hSw
            go_simp
            try with_reducible rfl
          try simp only [Act.put, List.setIfInBounds_toArray, List.set_cons_zero, List.set_cons_succ]
          refine wpAnyH_take (i := 1) (oi := { dst := some 146, op := Op.move (Operand.tmp 15), type := 3, pos := "law.go:139", after := #[], guard := none }) (v := ?_) rfl (by kernel_rfl) (by kernel_rfl) (by kernel_rfl) (fun _ _ _ h => h) (Or.inl ⟨by rfl, ?_⟩) (by assumption) ?_
          rotate_left
          · intro w hSw
            try dsimp only at hSw
            go_simp
            try with_reducible rfl
          try simp only [Act.put, List.setIfInBounds_toArray, List.set_cons_zero, List.set_cons_succ]
          refine wpAnyH_take (i := 2) (oi := { dst := some 147, op := Op.indexAddr 87 (Operand.tmp 145) (Operand.tmp 146), type := 0, pos := "law.go:139", after := #[{ on := 0, ground := Ground.data }, { on := 1, ground := Ground.data }], guard := none }) (v := ?_) rfl (by kernel_rfl) (by kernel_rfl) (by kernel_rfl) (fun _ _ _ h => h) (Or.inl ⟨by rfl, ?_⟩) (by assumption) ?_
          rotate_left
          · intro w hSw
            try dsimp only at hSw
            go_simp
            try with_reducible rfl
          try simp only [Act.put, List.setIfInBounds_toArray, List.set_cons_zero, List.set_cons_succ]
          refine wpAnyH_take (i := 3) (oi := { dst := some 148, op := Op.load 9 (Operand.tmp 147), type := 9, pos := "law.go:139", after := #[{ on := 2, ground := Ground.data }], guard := none }) (v := ?_) rfl (by kernel_rfl) (by kernel_rfl) (by kernel_rfl) (fun _ _ _ h => h) (Or.inl ⟨by rfl, ?_⟩) (by assumption) ?_
          rotate_left
          · intro w hSw
            try dsimp only at hSw
            go_simp
            try with_reducible rfl
          try simp only [Act.put, List.setIfInBounds_toArray, List.set_cons_zero, List.set_cons_succ]
          refine wpAnyH_take (i := 4) (oi := { dst := some 149, op := Op.move (Operand.tmp 10), type := 87, pos := "law.go:139", after := #[], guard := none }) (v := ?_) rfl (by kernel_rfl) (by kernel_rfl) (by kernel_rfl) (fun _ _ _ h => h) (Or.inl ⟨by rfl, ?_⟩) (by assumption) ?_
          rotate_left
          · intro w hSw
            try dsimp only at hSw
            go_simp
            try with_reducible rfl
          try simp only [Act.put, List.setIfInBounds_toArray, List.set_cons_zero, List.set_cons_succ]
          refine wpAnyH_take (i := 5) (oi := { dst := some 150, op := Op.move (Operand.tmp 16), type := 3, pos := "law.go:139", after := #[], guard := none }) (v := ?_) rfl (by kernel_rfl) (by kernel_rfl) (by kernel_rfl) (fun _ _ _ h => h) (Or.inl ⟨by rfl, ?_⟩) (by assumption) ?_
          rotate_left
          · intro w hSw
            try dsimp only at hSw
            go_simp
            try with_reducible rfl
          try simp only [Act.put, List.setIfInBounds_toArray, List.set_cons_zero, List.set_cons_succ]
          refine wpAnyH_take (i := 6) (oi := { dst := some 151, op := Op.indexAddr 87 (Operand.tmp 149) (Operand.tmp 150), type := 0, pos := "law.go:139", after := #[{ on := 4, ground := Ground.data }, { on := 5, ground := Ground.data }], guard := none }) (v := ?_) rfl (by kernel_rfl) (by kernel_rfl) (by kernel_rfl) (fun _ _ _ h => h) (Or.inl ⟨by rfl, ?_⟩) (by assumption) ?_
          rotate_left
          · intro w hSw
            try dsimp only at hSw
            go_simp
            try with_reducible rfl
          try simp only [Act.put, List.setIfInBounds_toArray, List.set_cons_zero, List.set_cons_succ]
          refine wpAnyH_take (i := 7) (oi := { dst := some 152, op := Op.load 9 (Operand.tmp 151), type := 9, pos := "law.go:139", after := #[{ on := 6, ground := Ground.data }], guard := none }) (v := ?_) rfl (by kernel_rfl) (by kernel_rfl) (by kernel_rfl) (fun _ _ _ h => h) (Or.inl ⟨by rfl, ?_⟩) (by assumption) ?_
          rotate_left
          · intro w hSw
            try dsimp only at hSw
            go_simp
            try with_reducible rfl
          try simp only [Act.put, List.setIfInBounds_toArray, List.set_cons_zero, List.set_cons_succ]
          refine wpAnyH_take (i := 8) (oi := { dst := some 153, op := Op.move (Operand.tmp 3), type := 43, pos := "law.go:139", after := #[], guard := none }) (v := ?_) rfl (by kernel_rfl) (by kernel_rfl) (by kernel_rfl) (fun _ _ _ h => h) (Or.inl ⟨by rfl, ?_⟩) (by assumption) ?_
          rotate_left
          · intro w hSw
            try dsimp only at hSw
            go_simp
            try with_reducible rfl
          try simp only [Act.put, List.setIfInBounds_toArray, List.set_cons_zero, List.set_cons_succ]
          refine wpAnyH_take (i := 9) (oi := { dst := some 154, op := Op.move (Operand.tmp 14), type := 3, pos := "law.go:139", after := #[], guard := none }) (v := ?_) rfl (by kernel_rfl) (by kernel_rfl) (by kernel_rfl) (fun _ _ _ h => h) (Or.inl ⟨by rfl, ?_⟩) (by assumption) ?_
          rotate_left
          · intro w hSw
            try dsimp only at hSw
            go_simp
            try with_reducible rfl
          try simp only [Act.put, List.setIfInBounds_toArray, List.set_cons_zero, List.set_cons_succ]
          refine wpAnyH_take (i := 10) (oi := { dst := some 155, op := Op.indexAddr 43 (Operand.tmp 153) (Operand.tmp 154), type := 0, pos := "law.go:139", after := #[{ on := 8, ground := Ground.data }, { on := 9, ground := Ground.data }], guard := none }) (v := ?_) rfl (by kernel_rfl) (by kernel_rfl) (by kernel_rfl) (fun _ _ _ h => h) (Or.inl ⟨by rfl, ?_⟩) (by assumption) ?_
          rotate_left
          · intro w hSw
            try dsimp only at hSw
            go_simp
            try with_reducible rfl
          try simp only [Act.put, List.setIfInBounds_toArray, List.set_cons_zero, List.set_cons_succ]
          refine wpAnyH_take (i := 11) (oi := { dst := some 156, op := Op.load 3 (Operand.tmp 155), type := 3, pos := "law.go:139", after := #[{ on := 10, ground := Ground.data }], guard := none }) (v := ?_) rfl (by kernel_rfl) (by kernel_rfl) (by kernel_rfl) (fun _ _ _ h => h) (Or.inl ⟨by rfl, ?_⟩) (by assumption) ?_
          rotate_left
          · intro w hSw
            try dsimp only at hSw
            go_simp
            try with_reducible rfl
          try simp only [Act.put, List.setIfInBounds_toArray, List.set_cons_zero, List.set_cons_succ]
          refine wpAnyH_take (i := 15) (oi := { dst := some 160, op := Op.move (Operand.tmp 11), type := 71, pos := "law.go:139", after := #[], guard := none }) (v := ?_) rfl (by kernel_rfl) (by kernel_rfl) (by kernel_rfl) (fun _ _ _ h => h) (Or.inl ⟨by rfl, ?_⟩) (by assumption) ?_
          rotate_left
          · intro w hSw
            try dsimp only at hSw
            go_simp
            try with_reducible rfl
          try simp only [Act.put, List.setIfInBounds_toArray, List.set_cons_zero, List.set_cons_succ]
          refine wpAnyH_ready (rs := [12]) (by kernel_rfl) (by simp) ?_
          refine AllReadyH.cons (o := { dst := some 157, op := Op.call { callee := Callee.value (Operand.func 63), args := #[Operand.tmp 156], argTypes := #[2] }, type := 89, pos := "law.go:139", after := #[{ on := 11, ground := Ground.data }], guard := none }) rfl (fun K hK => ?_) ?_
          rotate_left
          · exact AllReadyH.nil
          go_simp
          go_at_call 63
          refine (SN.rof_any _ _).mono ?_
          rintro e w8 ⟨rfl, rfl⟩
          refine hK.out _ _ (HCX.out _ (Below.refl wr.heap.size wr).drew.drew) (fun hHeld => ?_)
          clear hK K
          try simp only [Act.put, List.setIfInBounds_toArray, List.set_cons_zero, List.set_cons_succ]
          refine wpAnyH_take (i := 13) (oi := { dst := some 158, op := Op.build 94 #[(0, Operand.const (Value.int IntKind.i64 6)), (1, Operand.tmp 148), (2, Operand.tmp 152), (3, Operand.tmp 157)], type := 94, pos := "law.go:139", after := #[{ on := 3, ground := Ground.data }, { on := 7, ground := Ground.data }, { on := 12, ground := Ground.data }], guard := none }) (v := ?_) rfl (by kernel_rfl) (by kernel_rfl) (by kernel_rfl) (fun _ _ _ h => h) (Or.inl ⟨by rfl, ?_⟩) (by assumption) ?_
          rotate_left
          · intro w hSw
            try dsimp only at hSw
            go_simp
            try with_reducible rfl
          try simp only [Act.put, List.setIfInBounds_toArray, List.set_cons_zero, List.set_cons_succ]
          refine wpAnyH_ready (rs := [14]) (by kernel_rfl) (by simp) ?_
          refine AllReadyH.cons (o := { dst := some 159, op := Op.buildSlice 58 1 #[(0, Operand.tmp 158)], type := 58, pos := "law.go:139", after := #[{ on := 13, ground := Ground.data }], guard := none }) rfl (fun K hK => ?_) ?_
          rotate_left
          · exact AllReadyH.nil
          go_simp
          refine hK.out _ _ (HCX.out _ (blAlloc (Below.refl wr.heap.size wr).drew.drew _)) (fun hHeld => ?_)
          clear hK K
          try simp only [Act.put, List.setIfInBounds_toArray, List.set_cons_zero, List.set_cons_succ]
          refine wpAnyH_ready (rs := [16]) (by kernel_rfl) (by simp) ?_
          refine AllReadyH.cons (o := { dst := some 161, op := Op.call { callee := Callee.value (Operand.func 53), args := #[Operand.tmp 159, Operand.tmp 160], argTypes := #[58, 71] }, type := 77, pos := "law.go:139", after := #[{ on := 14, ground := Ground.data }, { on := 15, ground := Ground.data }, { on := 12, ground := Ground.chain }], guard := none }) rfl (fun K hK => ?_) ?_
          rotate_left
          · exact AllReadyH.nil
          go_simp
          have HPO := Lib.hid (one_G eO wr.drew.drew 94 (6, kx, ky, ofN m) wr.heap.size _ rfl (by simp))
          go_at_call 53
          refine (eval_any _ _ [(6, kx, ky, ofN m)] DN _ (by have := HDL.out; have := HDN.out; omega) (by simp) HRS.out HKZ.out (fun o ho => by rw [List.mem_singleton] at ho; subst ho; exact HMO.out) (fun o ho => by rw [List.mem_singleton] at ho; subst ho; exact ofN_lt m) HPO.out (HD.out.sl.later (blAlloc (Below.refl wr.heap.size wr).drew.drew _))).mono ?_
          rintro e w7 ⟨v1, v2, rs, rfl, h1, h2, h5⟩
          have HB7 : Hid (Below wr.heap.size wr w7) := Lib.hid (blThen (blAlloc (Below.refl wr.heap.size wr).drew.drew _) h5)
          have HW7 := Lib.hid h1
          have HA7 := Lib.hid h2
          clear h1 h2 h5
          refine hK.out _ _ (HCX.out _ HB7.out) (fun hHeld => ?_)
          clear hK K
          try simp only [Act.put, List.setIfInBounds_toArray, List.set_cons_zero, List.set_cons_succ]
          refine wpAnyH_take (i := 17) (oi := { dst := some 144, op := Op.move (Operand.tmp 161), type := 77, pos := "law.go:139", after := #[{ on := 16, ground := Ground.data }], guard := none }) (v := ?_) rfl (by kernel_rfl) (by kernel_rfl) (by kernel_rfl) (fun _ _ _ h => h) (Or.inl ⟨by rfl, ?_⟩) (by assumption) ?_
          rotate_left
          · intro w hSw
            try dsimp only at hSw
            go_simp
            try with_reducible rfl
          try simp only [Act.put, List.setIfInBounds_toArray, List.set_cons_zero, List.set_cons_succ]
          refine wpAnyH_take (i := 18) (oi := { dst := some 162, op := Op.extract (Operand.tmp 144) 0, type := 75, pos := "law.go:139", after := #[{ on := 17, ground := Ground.data }], guard := none }) (v := ?_) rfl (by kernel_rfl) (by kernel_rfl) (by kernel_rfl) (fun _ _ _ h => h) (Or.inl ⟨by rfl, ?_⟩) (by assumption) ?_
          rotate_left
          · intro w hSw
            try dsimp only at hSw
            go_simp
            try with_reducible rfl
          try simp only [Act.put, List.setIfInBounds_toArray, List.set_cons_zero, List.set_cons_succ]
          refine wpAnyH_take (i := 19) (oi := { dst := some 163, op := Op.extract (Operand.tmp 144) 1, type := 76, pos := "law.go:139", after := #[{ on := 17, ground := Ground.data }, { on := 20, ground := Ground.gcOnly Departure.lateStores }], guard := none }) (v := ?_) rfl (by kernel_rfl) (by kernel_rfl) (by kernel_rfl) (fun _ _ _ h => h) (Or.inl ⟨by rfl, ?_⟩) (by assumption) ?_
          rotate_left
          · intro w hSw
            try dsimp only at hSw
            go_simp
            try with_reducible rfl
          try simp only [Act.put, List.setIfInBounds_toArray, List.set_cons_zero, List.set_cons_succ]
          refine wpAnyH_take (i := 20) (oi := { dst := some 17, op := Op.assign (Operand.tmp 162), type := 75, pos := "law.go:139", after := #[{ on := 18, ground := Ground.data }, { on := 16, ground := Ground.chain }, { on := 0, ground := Ground.phase }, { on := 1, ground := Ground.phase }, { on := 2, ground := Ground.phase }, { on := 3, ground := Ground.phase }, { on := 4, ground := Ground.phase }, { on := 5, ground := Ground.phase }, { on := 6, ground := Ground.phase }, { on := 7, ground := Ground.phase }, { on := 8, ground := Ground.phase }, { on := 9, ground := Ground.phase }, { on := 10, ground := Ground.phase }, { on := 11, ground := Ground.phase }, { on := 12, ground := Ground.phase }, { on := 13, ground := Ground.phase }, { on := 14, ground := Ground.phase }, { on := 15, ground := Ground.phase }, { on := 16, ground := Ground.phase }, { on := 17, ground := Ground.phase }, { on := 18, ground := Ground.phase }, { on := 19, ground := Ground.textOnly Departure.lateStores }], guard := none }) (v := ?_) rfl (by kernel_rfl) (by kernel_rfl) (by kernel_rfl) (fun _ _ _ h => h) (Or.inl ⟨by rfl, ?_⟩) (by assumption) ?_
          rotate_left
          · intro w hSw
            try dsimp only at hSw
            go_simp
            try with_reducible rfl
          try simp only [Act.put, List.setIfInBounds_toArray, List.set_cons_zero, List.set_cons_succ]
          refine wpAnyH_take (i := 21) (oi := { dst := some 18, op := Op.assign (Operand.tmp 163), type := 76, pos := "law.go:139", after := #[{ on := 19, ground := Ground.data }, { on := 20, ground := Ground.chain }, { on := 0, ground := Ground.phase }, { on := 1, ground := Ground.phase }, { on := 2, ground := Ground.phase }, { on := 3, ground := Ground.phase }, { on := 4, ground := Ground.phase }, { on := 5, ground := Ground.phase }, { on := 6, ground := Ground.phase }, { on := 7, ground := Ground.phase }, { on := 8, ground := Ground.phase }, { on := 9, ground := Ground.phase }, { on := 10, ground := Ground.phase }, { on := 11, ground := Ground.phase }, { on := 12, ground := Ground.phase }, { on := 13, ground := Ground.phase }, { on := 14, ground := Ground.phase }, { on := 15, ground := Ground.phase }, { on := 16, ground := Ground.phase }, { on := 17, ground := Ground.phase }, { on := 18, ground := Ground.phase }, { on := 19, ground := Ground.phase }, { on := 20, ground := Ground.phase }], guard := none }) (v := ?_) rfl (by kernel_rfl) (by kernel_rfl) (by kernel_rfl) (fun _ _ _ h => h) (Or.inl ⟨by rfl, ?_⟩) (by assumption) ?_
          rotate_left
          · intro w hSw
            try dsimp only at hSw
            go_simp
            try with_reducible rfl
          try simp only [Act.put, List.setIfInBounds_toArray, List.set_cons_zero, List.set_cons_succ]
          refine wpAnyH_done (by kernel_rfl) ?_ _
          obtain ⟨r, rfl, hry⟩ : ∃ r, rs = [r] ∧ r.yes = decide (m ≤ nx) := one_ans (HA7.out.same.trans HMV1.out)
          obtain ⟨a7, c7, rfl⟩ := HA7.out.row.form
          obtain ⟨ga, oa, rfl, hga, hca, _, _⟩ := ans_at (k := 0) HA7.out.row.sl rfl
          rw [Nat.zero_mul, Nat.add_zero] at hca
          rw [hry] at hca
          obtain ⟨aw, cw, rfl⟩ := HW7.out.form
          have HLW := Lib.hid (Nat.le_trans (Nat.le_of_eq HMV2.out) (show (if m ≤ nx then 2 else 0) ≤ 2 by split <;> omega))
          have HWK : Hid (∀ x ∈ lastL (evalL DN [(6, kx, ky, ofN m)]), x.1.size ≤ maxLen) := Lib.hid (fun x hx => by have h := evalL_small [(6, kx, ky, ofN m)] DN (fun o ho => by rw [List.mem_singleton] at ho; subst ho; exact HMO.out) x (last_keys hx); unfold maxLen; omega)
          have HMG0 : Hid (gm ≠ g1) := Lib.hid (by have := HGM.out; omega)
          have HKG : Hid (kb ≠ g1) := Lib.hid (by omega)
          by_cases hmx : m ≤ nx
          · have e8 : decide (m ≤ nx) = true := decide_eq_true hmx
            rw [e8] at hca
            rw [if_pos hmx] at HMV2 HMV3
            rw [HMV2.out] at HW7 ⊢
            go_wp2_with fail
            refine wp_region_held_drew (S := (fun Y => Y.cell? ⟨g1, xn, none⟩ = some (.int .i64 nx) ∧ Y.cell? ⟨gm, om_ + j, none⟩ = some (.int .i64 m))) (by kernel_rfl) (⟨(HCN.out _ HB7.out.drew).1, (HCX.out _ HB7.out.drew).2.2⟩) (fun hHeld => ?_)
            refine wpAnyH_take (i := 0) (oi := { dst := some 164, op := Op.move (Operand.tmp 9), type := 43, pos := "law.go:140", after := #[], guard := none }) (v := ?_) rfl (by kernel_rfl) (by kernel_rfl) (by kernel_rfl) (fun _ _ _ h => h) (Or.inl ⟨by rfl, ?_⟩) (by assumption) ?_
            rotate_left
            · intro w hSw
              try dsimp only at hSw
              go_simp
              try with_reducible rfl
            try simp only [Act.put, List.setIfInBounds_toArray, List.set_cons_zero, List.set_cons_succ]
            refine wpAnyH_take (i := 1) (oi := { dst := some 165, op := Op.move (Operand.tmp 15), type := 3, pos := "law.go:140", after := #[], guard := none }) (v := ?_) rfl (by kernel_rfl) (by kernel_rfl) (by kernel_rfl) (fun _ _ _ h => h) (Or.inl ⟨by rfl, ?_⟩) (by assumption) ?_
            rotate_left
            · intro w hSw
              try dsimp only at hSw
              go_simp
              try with_reducible rfl
            try simp only [Act.put, List.setIfInBounds_toArray, List.set_cons_zero, List.set_cons_succ]
            refine wpAnyH_take (i := 2) (oi := { dst := some 166, op := Op.indexAddr 43 (Operand.tmp 164) (Operand.tmp 165), type := 0, pos := "law.go:140", after := #[{ on := 0, ground := Ground.data }, { on := 1, ground := Ground.data }], guard := none }) (v := ?_) rfl (by kernel_rfl) (by kernel_rfl) (by kernel_rfl) (fun _ _ _ h => h) (Or.inl ⟨by rfl, ?_⟩) (by assumption) ?_
            rotate_left
            · intro w hSw
              try dsimp only at hSw
              go_simp
              try with_reducible rfl
            try simp only [Act.put, List.setIfInBounds_toArray, List.set_cons_zero, List.set_cons_succ]
            refine wpAnyH_take (i := 3) (oi := { dst := some 167, op := Op.load 3 (Operand.tmp 166), type := 3, pos := "law.go:140", after := #[{ on := 2, ground := Ground.data }], guard := none }) (v := ?_) rfl (by kernel_rfl) (by kernel_rfl) (by kernel_rfl) (fun _ _ _ h => h) (Or.inl ⟨by rfl, ?_⟩) (by assumption) ?_
            rotate_left
            · intro w hSw
              try dsimp only at hSw
              go_simp
              try with_reducible rfl
            try simp only [Act.put, List.setIfInBounds_toArray, List.set_cons_zero, List.set_cons_succ]
            refine wpAnyH_take (i := 4) (oi := { dst := some 168, op := Op.move (Operand.tmp 3), type := 43, pos := "law.go:140", after := #[], guard := none }) (v := ?_) rfl (by kernel_rfl) (by kernel_rfl) (by kernel_rfl) (fun _ _ _ h => h) (Or.inl ⟨by rfl, ?_⟩) (by assumption) ?_
            rotate_left
            · intro w hSw
              try dsimp only at hSw
              go_simp
              try with_reducible rfl
            try simp only [Act.put, List.setIfInBounds_toArray, List.set_cons_zero, List.set_cons_succ]
            refine wpAnyH_take (i := 5) (oi := { dst := some 169, op := Op.move (Operand.tmp 14), type := 3, pos := "law.go:140", after := #[], guard := none }) (v := ?_) rfl (by kernel_rfl) (by kernel_rfl) (by kernel_rfl) (fun _ _ _ h => h) (Or.inl ⟨by rfl, ?_⟩) (by assumption) ?_
            rotate_left
            · intro w hSw
              try dsimp only at hSw
              go_simp
              try with_reducible rfl
            try simp only [Act.put, List.setIfInBounds_toArray, List.set_cons_zero, List.set_cons_succ]
            refine wpAnyH_take (i := 6) (oi := { dst := some 170, op := Op.indexAddr 43 (Operand.tmp 168) (Operand.tmp 169), type := 0, pos := "law.go:140", after := #[{ on := 4, ground := Ground.data }, { on := 5, ground := Ground.data }], guard := none }) (v := ?_) rfl (by kernel_rfl) (by kernel_rfl) (by kernel_rfl) (fun _ _ _ h => h) (Or.inl ⟨by rfl, ?_⟩) (by assumption) ?_
            rotate_left
            · intro w hSw
              try dsimp only at hSw
              go_simp
              try with_reducible rfl
            try simp only [Act.put, List.setIfInBounds_toArray, List.set_cons_zero, List.set_cons_succ]
            refine wpAnyH_take (i := 7) (oi := { dst := some 171, op := Op.load 3 (Operand.tmp 170), type := 3, pos := "law.go:140", after := #[{ on := 6, ground := Ground.data }], guard := none }) (v := ?_) rfl (by kernel_rfl) (by kernel_rfl) (by kernel_rfl) (fun _ _ _ h => h) (Or.inl ⟨by rfl, ?_⟩) (by assumption) ?_
            rotate_left
            · intro w hSw
              try dsimp only at hSw
              go_simp
              try with_reducible rfl
            try simp only [Act.put, List.setIfInBounds_toArray, List.set_cons_zero, List.set_cons_succ]
            refine wpAnyH_take (i := 8) (oi := { dst := some 172, op := Op.binOp BinOp.geq 3 (Operand.tmp 167) (Operand.tmp 171) 3, type := 4, pos := "law.go:140", after := #[{ on := 3, ground := Ground.data }, { on := 7, ground := Ground.data }], guard := none }) (v := ?_) rfl (by kernel_rfl) (by kernel_rfl) (by kernel_rfl) (fun _ _ _ h => h) (Or.inl ⟨by rfl, ?_⟩) (by assumption) ?_
            rotate_left
            · intro w hSw
              try dsimp only at hSw
              go_simp
              try with_reducible rfl
            try simp only [Act.put, List.setIfInBounds_toArray, List.set_cons_zero, List.set_cons_succ]
            refine wpAnyH_take (i := 9) (oi := { dst := some 19, op := Op.assign (Operand.tmp 172), type := 4, pos := "law.go:140", after := #[{ on := 8, ground := Ground.data }, { on := 0, ground := Ground.phase }, { on := 1, ground := Ground.phase }, { on := 2, ground := Ground.phase }, { on := 3, ground := Ground.phase }, { on := 4, ground := Ground.phase }, { on := 5, ground := Ground.phase }, { on := 6, ground := Ground.phase }, { on := 7, ground := Ground.phase }, { on := 8, ground := Ground.phase }], guard := none }) (v := ?_) rfl (by kernel_rfl) (by kernel_rfl) (by kernel_rfl) (fun _ _ _ h => h) (Or.inl ⟨by rfl, ?_⟩) (by assumption) ?_
            rotate_left
            · intro w hSw
              try dsimp only at hSw
              go_simp
              try with_reducible rfl
            try simp only [Act.put, List.setIfInBounds_toArray, List.set_cons_zero, List.set_cons_succ]
            refine wpAnyH_done (by kernel_rfl) ?_ _
            go_upto_region 25 with fail
            refine wp_region_held_drew (S := (fun Y => Y.cell? ⟨gm, om_ + j, none⟩ = some (.int .i64 m))) (by kernel_rfl) ((HCX.out _ HB7.out.drew.drew).2.2) (fun hHeld => ?_)
            refine wpAnyH_take (i := 0) (oi := { dst := some 192, op := Op.move (Operand.tmp 9), type := 43, pos := "law.go:145", after := #[], guard := none }) (v := ?_) rfl (by kernel_rfl) (by kernel_rfl) (by kernel_rfl) (fun _ _ _ h => h) (Or.inl ⟨by rfl, ?_⟩) (by assumption) ?_
            rotate_left
            · intro w hSw
              try dsimp only at hSw
              go_simp
              try with_reducible rfl
            try simp only [Act.put, List.setIfInBounds_toArray, List.set_cons_zero, List.set_cons_succ]
            refine wpAnyH_take (i := 1) (oi := { dst := some 193, op := Op.move (Operand.tmp 15), type := 3, pos := "law.go:145", after := #[], guard := none }) (v := ?_) rfl (by kernel_rfl) (by kernel_rfl) (by kernel_rfl) (fun _ _ _ h => h) (Or.inl ⟨by rfl, ?_⟩) (by assumption) ?_
            rotate_left
            · intro w hSw
              try dsimp only at hSw
              go_simp
              try with_reducible rfl
            try simp only [Act.put, List.setIfInBounds_toArray, List.set_cons_zero, List.set_cons_succ]
            refine wpAnyH_take (i := 2) (oi := { dst := some 194, op := Op.move (Operand.tmp 9), type := 43, pos := "law.go:145", after := #[{ on := 23, ground := Ground.gcOnly Departure.lateStores }], guard := none }) (v := ?_) rfl (by kernel_rfl) (by kernel_rfl) (by kernel_rfl) (fun _ _ _ h => h) (Or.inl ⟨by rfl, ?_⟩) (by assumption) ?_
            rotate_left
            · intro w hSw
              try dsimp only at hSw
              go_simp
              try with_reducible rfl
            try simp only [Act.put, List.setIfInBounds_toArray, List.set_cons_zero, List.set_cons_succ]
            refine wpAnyH_take (i := 3) (oi := { dst := some 195, op := Op.move (Operand.tmp 16), type := 3, pos := "law.go:145", after := #[{ on := 23, ground := Ground.gcOnly Departure.lateStores }], guard := none }) (v := ?_) rfl (by kernel_rfl) (by kernel_rfl) (by kernel_rfl) (fun _ _ _ h => h) (Or.inl ⟨by rfl, ?_⟩) (by assumption) ?_
            rotate_left
            · intro w hSw
              try dsimp only at hSw
              go_simp
              try with_reducible rfl
            try simp only [Act.put, List.setIfInBounds_toArray, List.set_cons_zero, List.set_cons_succ]
            refine wpAnyH_take (i := 4) (oi := { dst := some 196, op := Op.move (Operand.tmp 9), type := 43, pos := "law.go:145", after := #[], guard := none }) (v := ?_) rfl (by kernel_rfl) (by kernel_rfl) (by kernel_rfl) (fun _ _ _ h => h) (Or.inl ⟨by rfl, ?_⟩) (by assumption) ?_
            rotate_left
            · intro w hSw
              try dsimp only at hSw
              go_simp
              try with_reducible rfl
            try simp only [Act.put, List.setIfInBounds_toArray, List.set_cons_zero, List.set_cons_succ]
            refine wpAnyH_take (i := 5) (oi := { dst := some 197, op := Op.move (Operand.tmp 15), type := 3, pos := "law.go:145", after := #[], guard := none }) (v := ?_) rfl (by kernel_rfl) (by kernel_rfl) (by kernel_rfl) (fun _ _ _ h => h) (Or.inl ⟨by rfl, ?_⟩) (by assumption) ?_
            rotate_left
            · intro w hSw
              try dsimp only at hSw
              go_simp
              try with_reducible rfl
            try simp only [Act.put, List.setIfInBounds_toArray, List.set_cons_zero, List.set_cons_succ]
            refine wpAnyH_take (i := 6) (oi := { dst := some 198, op := Op.indexAddr 43 (Operand.tmp 196) (Operand.tmp 197), type := 0, pos := "law.go:145", after := #[{ on := 4, ground := Ground.data }, { on := 5, ground := Ground.data }], guard := none }) (v := ?_) rfl (by kernel_rfl) (by kernel_rfl) (by kernel_rfl) (fun _ _ _ h => h) (Or.inl ⟨by rfl, ?_⟩) (by assumption) ?_
            rotate_left
            · intro w hSw
              try dsimp only at hSw
              go_simp
              try with_reducible rfl
            try simp only [Act.put, List.setIfInBounds_toArray, List.set_cons_zero, List.set_cons_succ]
            refine wpAnyH_take (i := 8) (oi := { dst := some 200, op := Op.move (Operand.tmp 3), type := 43, pos := "law.go:145", after := #[], guard := none }) (v := ?_) rfl (by kernel_rfl) (by kernel_rfl) (by kernel_rfl) (fun _ _ _ h => h) (Or.inl ⟨by rfl, ?_⟩) (by assumption) ?_
            rotate_left
            · intro w hSw
              try dsimp only at hSw
              go_simp
              try with_reducible rfl
            try simp only [Act.put, List.setIfInBounds_toArray, List.set_cons_zero, List.set_cons_succ]
            refine wpAnyH_take (i := 9) (oi := { dst := some 201, op := Op.move (Operand.tmp 14), type := 3, pos := "law.go:145", after := #[], guard := none }) (v := ?_) rfl (by kernel_rfl) (by kernel_rfl) (by kernel_rfl) (fun _ _ _ h => h) (Or.inl ⟨by rfl, ?_⟩) (by assumption) ?_
            rotate_left
            · intro w hSw
              try dsimp only at hSw
              go_simp
              try with_reducible rfl
            try simp only [Act.put, List.setIfInBounds_toArray, List.set_cons_zero, List.set_cons_succ]
            refine wpAnyH_take (i := 10) (oi := { dst := some 202, op := Op.indexAddr 43 (Operand.tmp 200) (Operand.tmp 201), type := 0, pos := "law.go:145", after := #[{ on := 8, ground := Ground.data }, { on := 9, ground := Ground.data }], guard := none }) (v := ?_) rfl (by kernel_rfl) (by kernel_rfl) (by kernel_rfl) (fun _ _ _ h => h) (Or.inl ⟨by rfl, ?_⟩) (by assumption) ?_
            rotate_left
            · intro w hSw
              try dsimp only at hSw
              go_simp
              try with_reducible rfl
            try simp only [Act.put, List.setIfInBounds_toArray, List.set_cons_zero, List.set_cons_succ]
            refine wpAnyH_take (i := 11) (oi := { dst := some 203, op := Op.load 3 (Operand.tmp 202), type := 3, pos := "law.go:145", after := #[{ on := 10, ground := Ground.data }], guard := none }) (v := ?_) rfl (by kernel_rfl) (by kernel_rfl) (by kernel_rfl) (fun _ _ _ h => h) (Or.inl ⟨by rfl, ?_⟩) (by assumption) ?_
            rotate_left
            · intro w hSw
              try dsimp only at hSw
              go_simp
              try with_reducible rfl
            try simp only [Act.put, List.setIfInBounds_toArray, List.set_cons_zero, List.set_cons_succ]
            refine wpAnyH_take (i := 13) (oi := { dst := some 205, op := Op.move (Operand.tmp 9), type := 43, pos := "law.go:145", after := #[], guard := none }) (v := ?_) rfl (by kernel_rfl) (by kernel_rfl) (by kernel_rfl) (fun _ _ _ h => h) (Or.inl ⟨by rfl, ?_⟩) (by assumption) ?_
            rotate_left
            · intro w hSw
              try dsimp only at hSw
              go_simp
              try with_reducible rfl
            try simp only [Act.put, List.setIfInBounds_toArray, List.set_cons_zero, List.set_cons_succ]
            refine wpAnyH_take (i := 14) (oi := { dst := some 206, op := Op.move (Operand.tmp 16), type := 3, pos := "law.go:145", after := #[], guard := none }) (v := ?_) rfl (by kernel_rfl) (by kernel_rfl) (by kernel_rfl) (fun _ _ _ h => h) (Or.inl ⟨by rfl, ?_⟩) (by assumption) ?_
            rotate_left
            · intro w hSw
              try dsimp only at hSw
              go_simp
              try with_reducible rfl
            try simp only [Act.put, List.setIfInBounds_toArray, List.set_cons_zero, List.set_cons_succ]
            refine wpAnyH_take (i := 15) (oi := { dst := some 207, op := Op.indexAddr 43 (Operand.tmp 205) (Operand.tmp 206), type := 0, pos := "law.go:145", after := #[{ on := 13, ground := Ground.data }, { on := 14, ground := Ground.data }], guard := none }) (v := ?_) rfl (by kernel_rfl) (by kernel_rfl) (by kernel_rfl) (fun _ _ _ h => h) (Or.inl ⟨by rfl, ?_⟩) (by assumption) ?_
            rotate_left
            · intro w hSw
              try dsimp only at hSw
              go_simp
              try with_reducible rfl
            try simp only [Act.put, List.setIfInBounds_toArray, List.set_cons_zero, List.set_cons_succ]
            refine wpAnyH_take (i := 17) (oi := { dst := some 209, op := Op.move (Operand.tmp 3), type := 43, pos := "law.go:145", after := #[], guard := none }) (v := ?_) rfl (by kernel_rfl) (by kernel_rfl) (by kernel_rfl) (fun _ _ _ h => h) (Or.inl ⟨by rfl, ?_⟩) (by assumption) ?_
            rotate_left
            · intro w hSw
              try dsimp only at hSw
              go_simp
              try with_reducible rfl
            try simp only [Act.put, List.setIfInBounds_toArray, List.set_cons_zero, List.set_cons_succ]
            refine wpAnyH_take (i := 18) (oi := { dst := some 210, op := Op.move (Operand.tmp 14), type := 3, pos := "law.go:145", after := #[], guard := none }) (v := ?_) rfl (by kernel_rfl) (by kernel_rfl) (by kernel_rfl) (fun _ _ _ h => h) (Or.inl ⟨by rfl, ?_⟩) (by assumption) ?_
            rotate_left
            · intro w hSw
              try dsimp only at hSw
              go_simp
              try with_reducible rfl
            try simp only [Act.put, List.setIfInBounds_toArray, List.set_cons_zero, List.set_cons_succ]
            refine wpAnyH_take (i := 19) (oi := { dst := some 211, op := Op.indexAddr 43 (Operand.tmp 209) (Operand.tmp 210), type := 0, pos := "law.go:145", after := #[{ on := 17, ground := Ground.data }, { on := 18, ground := Ground.data }], guard := none }) (v := ?_) rfl (by kernel_rfl) (by kernel_rfl) (by kernel_rfl) (fun _ _ _ h => h) (Or.inl ⟨by rfl, ?_⟩) (by assumption) ?_
            rotate_left
            · intro w hSw
              try dsimp only at hSw
              go_simp
              try with_reducible rfl
            try simp only [Act.put, List.setIfInBounds_toArray, List.set_cons_zero, List.set_cons_succ]
            refine wpAnyH_take (i := 20) (oi := { dst := some 212, op := Op.load 3 (Operand.tmp 211), type := 3, pos := "law.go:145", after := #[{ on := 19, ground := Ground.data }], guard := none }) (v := ?_) rfl (by kernel_rfl) (by kernel_rfl) (by kernel_rfl) (fun _ _ _ h => h) (Or.inl ⟨by rfl, ?_⟩) (by assumption) ?_
            rotate_left
            · intro w hSw
              try dsimp only at hSw
              go_simp
              try with_reducible rfl
            try simp only [Act.put, List.setIfInBounds_toArray, List.set_cons_zero, List.set_cons_succ]
            have HN7 := Lib.hid (HN.out.later HB7.out.drew.drew)
            have hxl := (List.getElem?_eq_some_iff.1 HNX.out).1
            have hyl := (List.getElem?_eq_some_iff.1 HNY.out).1
            obtain ⟨n1, n2⟩ := HCN.out _ HB7.out.drew.drew
            obtain ⟨n3, n4⟩ := HCN.out _ HB7.out
            have fz1 : w7.drew.drew.frozen? ⟨g1, xn, none⟩ = false := own_frozen HN7.out
            have fz3 : w7.frozen? ⟨g1, yn, none⟩ = false := own_frozen (HN.out.later HB7.out)
            have fz4 : w7.frozen? ⟨g1, xn, none⟩ = false := own_frozen (HN.out.later HB7.out)
            have hg7 : g1 < w7.drew.drew.heap.size := by obtain ⟨cs, hb, _⟩ := own_blockI HN7.out; exact lt_of_block hb
            have HNA := Lib.hid (own_set HN7.out hxl (nx - m))
            have fz2 : (w7.drew.drew.setCell ⟨g1, xn, none⟩ (.int .i64 (nx - m))).frozen? ⟨g1, yn, none⟩ = false := own_frozen HNA.out
            have HNB := Lib.hid (own_set HNA.out (show yn < (L.set xn (nx - m)).length by rw [List.length_set]; exact hyl) (ny + m))
            have hcm7 := (HCX.out _ HB7.out.drew.drew).2.2
            have HMG : Hid (gm ≠ g1) := Lib.hid HMG0.out
            have HS1 : Hid ((w7.drew.drew.setCell ⟨g1, xn, none⟩ (.int .i64 (nx - m))).cell? ⟨gm, om_ + j, none⟩ = some (.int .i64 m)) := Lib.hid (set_far hcm7 HMG.out)
            have HS2 : Hid (((w7.drew.drew.setCell ⟨g1, xn, none⟩ (.int .i64 (nx - m))).setCell ⟨g1, yn, none⟩ (.int .i64 (ny + m))).cell? ⟨gm, om_ + j, none⟩ = some (.int .i64 m)) := Lib.hid (set_far HS1.out HMG.out)
            have hwx : IntKind.i64.wrap (nx - m) = nx - m := wrap_in64 (by omega) (by omega)
            have hwy : IntKind.i64.wrap (ny + m) = ny + m := wrap_in64 (by omega) (by omega)
            have HDB : Hid (OwnPr ((w7.drew.drew.setCell ⟨g1, xn, none⟩ (.int .i64 (nx - m))).setCell ⟨g1, yn, none⟩ (.int .i64 (ny + m))) w.heap.size (.slice aj DN.length cj) DN) := Lib.hid (own_other (own_other (HD.out.later HB7.out.drew.drew) HN7.out (by decide)) HNA.out (by decide))
            have HWB := Lib.hid (own_other (own_other (HW7.out.later (Below.refl _ _).drew.drew) HN7.out (by decide)) HNA.out (by decide) (i := yn) (u := .int .i64 (ny + m)) |> fun h => (show OwnWr ((w7.drew.drew.setCell ⟨g1, xn, none⟩ (.int .i64 (nx - m))).setCell ⟨g1, yn, none⟩ (.int .i64 (ny + m))) _ _ _ from h))
            have HKB2 : Hid (SlG eT ((w7.drew.drew.setCell ⟨g1, xn, none⟩ (.int .i64 (nx - m))).setCell ⟨g1, yn, none⟩ (.int .i64 (ny + m))) (.slice (some ⟨kb, 0, none⟩) 5 5) keyL) := Lib.hid (((HK.out.later HB7.out.drew.drew).kept (set_grown _ g1 xn _) (fun e => HKG.out (Option.some.inj e).symm)).kept (set_grown _ g1 yn _) (fun e => HKG.out (Option.some.inj e).symm))
            have HBB : Hid (Below w.heap.size w ((w7.drew.drew.setCell ⟨g1, xn, none⟩ (.int .i64 (nx - m))).setCell ⟨g1, yn, none⟩ (.int .i64 (ny + m)))) := Lib.hid (((blThen HBJ.out HB7.out.drew.drew).grown (set_grown _ g1 xn _) (blThen HBJ.out HB7.out.drew.drew).size (fun k e => by cases e; exact hg1)).grown (set_grown _ g1 yn _) (by have := (blThen HBJ.out HB7.out.drew.drew).size; simpa [World.setCell] using this) (fun k e => by cases e; exact hg1))
            refine wpAnyH_ready (rs := [7, 16]) (by kernel_rfl) (by simp) ?_
            refine AllReadyH.cons (o := { dst := some 199, op := Op.load 3 (Operand.tmp 198), type := 3, pos := "law.go:145", after := #[{ on := 6, ground := Ground.data }], guard := none }) rfl (fun K hK => ?_) (AllReadyH.cons (o := { dst := some 208, op := Op.load 3 (Operand.tmp 207), type := 3, pos := "law.go:145", after := #[{ on := 15, ground := Ground.data }], guard := none }) rfl (fun K hK => ?_) AllReadyH.nil)
            · go_simp
              refine hK.out _ _ hHeld (fun hHeld => ?_)
              clear hK K
              try simp only [Act.put, List.setIfInBounds_toArray, List.set_cons_zero, List.set_cons_succ]
              refine wpAnyH_take (i := 12) (oi := { dst := some 204, op := Op.binOp BinOp.sub 3 (Operand.tmp 199) (Operand.tmp 203) 3, type := 3, pos := "law.go:145", after := #[{ on := 7, ground := Ground.data }, { on := 11, ground := Ground.data }], guard := none }) (v := ?_) rfl (by kernel_rfl) (by kernel_rfl) (by kernel_rfl) (fun _ _ _ h => h) (Or.inl ⟨by rfl, ?_⟩) (by assumption) ?_
              rotate_left
              · intro w hSw
                try dsimp only at hSw
                go_simp
                try with_reducible rfl
              try simp only [Act.put, List.setIfInBounds_toArray, List.set_cons_zero, List.set_cons_succ]
              refine wpAnyH_ready (rs := [16]) (by kernel_rfl) (by simp) ?_
              refine AllReadyH.cons (o := { dst := some 208, op := Op.load 3 (Operand.tmp 207), type := 3, pos := "law.go:145", after := #[{ on := 15, ground := Ground.data }], guard := none }) rfl (fun K hK => ?_) ?_
              rotate_left
              · exact AllReadyH.nil
              go_simp
              refine hK.out _ _ hHeld (fun hHeld => ?_)
              clear hK K
              try simp only [Act.put, List.setIfInBounds_toArray, List.set_cons_zero, List.set_cons_succ]
              refine wpAnyH_take (i := 21) (oi := { dst := some 213, op := Op.binOp BinOp.add 3 (Operand.tmp 208) (Operand.tmp 212) 3, type := 3, pos := "law.go:145", after := #[{ on := 16, ground := Ground.data }, { on := 20, ground := Ground.data }], guard := none }) (v := ?_) rfl (by kernel_rfl) (by kernel_rfl) (by kernel_rfl) (fun _ _ _ h => h) (Or.inl ⟨by rfl, ?_⟩) (by assumption) ?_
              rotate_left
              · intro w hSw
                try dsimp only at hSw
                go_simp
                try with_reducible rfl
              try simp only [Act.put, List.setIfInBounds_toArray, List.set_cons_zero, List.set_cons_succ]
              refine wpAnyH_take (i := 22) (oi := { dst := some 214, op := Op.indexAddr 43 (Operand.tmp 192) (Operand.tmp 193), type := 0, pos := "law.go:145", after := #[{ on := 0, ground := Ground.data }, { on := 1, ground := Ground.data }, { on := 0, ground := Ground.phase }, { on := 1, ground := Ground.phase }, { on := 2, ground := Ground.textOnly Departure.lateStores }, { on := 3, ground := Ground.textOnly Departure.lateStores }, { on := 4, ground := Ground.phase }, { on := 5, ground := Ground.phase }, { on := 6, ground := Ground.phase }, { on := 7, ground := Ground.phase }, { on := 8, ground := Ground.phase }, { on := 9, ground := Ground.phase }, { on := 10, ground := Ground.phase }, { on := 11, ground := Ground.phase }, { on := 12, ground := Ground.phase }, { on := 13, ground := Ground.textOnly Departure.lateStores }, { on := 14, ground := Ground.textOnly Departure.lateStores }, { on := 15, ground := Ground.textOnly Departure.lateStoresUnsure }, { on := 16, ground := Ground.phase }, { on := 17, ground := Ground.textOnly Departure.lateStores }, { on := 18, ground := Ground.textOnly Departure.lateStores }, { on := 19, ground := Ground.textOnly Departure.lateStoresUnsure }, { on := 20, ground := Ground.phase }, { on := 21, ground := Ground.textOnly Departure.lateStoresUnsure }], guard := none }) (v := ?_) rfl (by kernel_rfl) (by kernel_rfl) (by kernel_rfl) (fun _ _ _ h => h) (Or.inl ⟨by rfl, ?_⟩) (by assumption) ?_
              rotate_left
              · intro w hSw
                try dsimp only at hSw
                go_simp
                try with_reducible rfl
              try simp only [Act.put, List.setIfInBounds_toArray, List.set_cons_zero, List.set_cons_succ]
              refine wpAnyH_ready (rs := [23]) (by kernel_rfl) (by simp) ?_
              refine AllReadyH.cons (o := { dst := none, op := Op.store 3 (Operand.tmp 214) (Operand.tmp 204), type := 0, pos := "law.go:145", after := #[{ on := 22, ground := Ground.data }, { on := 12, ground := Ground.data }, { on := 0, ground := Ground.phase }, { on := 1, ground := Ground.phase }, { on := 2, ground := Ground.textOnly Departure.lateStores }, { on := 3, ground := Ground.textOnly Departure.lateStores }, { on := 4, ground := Ground.phase }, { on := 5, ground := Ground.phase }, { on := 6, ground := Ground.phase }, { on := 7, ground := Ground.phase }, { on := 8, ground := Ground.phase }, { on := 9, ground := Ground.phase }, { on := 10, ground := Ground.phase }, { on := 11, ground := Ground.phase }, { on := 12, ground := Ground.phase }, { on := 13, ground := Ground.textOnly Departure.lateStores }, { on := 14, ground := Ground.textOnly Departure.lateStores }, { on := 15, ground := Ground.textOnly Departure.lateStoresUnsure }, { on := 16, ground := Ground.phase }, { on := 17, ground := Ground.textOnly Departure.lateStores }, { on := 18, ground := Ground.textOnly Departure.lateStores }, { on := 19, ground := Ground.textOnly Departure.lateStoresUnsure }, { on := 20, ground := Ground.phase }, { on := 21, ground := Ground.textOnly Departure.lateStoresUnsure }], guard := none }) rfl (fun K hK => ?_) ?_
              rotate_left
              · exact AllReadyH.nil
              go_simp
              refine hK.out _ _ (HS1.out) (fun hHeld => ?_)
              clear hK K
              try simp only [Act.put, List.setIfInBounds_toArray, List.set_cons_zero, List.set_cons_succ]
              refine wpAnyH_take (i := 24) (oi := { dst := some 215, op := Op.indexAddr 43 (Operand.tmp 194) (Operand.tmp 195), type := 0, pos := "law.go:145", after := #[{ on := 2, ground := Ground.data }, { on := 3, ground := Ground.data }, { on := 0, ground := Ground.phase }, { on := 1, ground := Ground.phase }, { on := 2, ground := Ground.phase }, { on := 3, ground := Ground.phase }, { on := 4, ground := Ground.phase }, { on := 5, ground := Ground.phase }, { on := 6, ground := Ground.phase }, { on := 7, ground := Ground.phase }, { on := 8, ground := Ground.phase }, { on := 9, ground := Ground.phase }, { on := 10, ground := Ground.phase }, { on := 11, ground := Ground.phase }, { on := 12, ground := Ground.phase }, { on := 13, ground := Ground.phase }, { on := 14, ground := Ground.phase }, { on := 15, ground := Ground.phase }, { on := 16, ground := Ground.phase }, { on := 17, ground := Ground.phase }, { on := 18, ground := Ground.phase }, { on := 19, ground := Ground.phase }, { on := 20, ground := Ground.phase }, { on := 21, ground := Ground.phase }, { on := 22, ground := Ground.phase }, { on := 23, ground := Ground.phase }], guard := none }) (v := ?_) rfl (by kernel_rfl) (by kernel_rfl) (by kernel_rfl) (fun _ _ _ h => h) (Or.inl ⟨by rfl, ?_⟩) (by assumption) ?_
              rotate_left
              · intro w hSw
                try dsimp only at hSw
                go_simp
                try with_reducible rfl
              try simp only [Act.put, List.setIfInBounds_toArray, List.set_cons_zero, List.set_cons_succ]
              refine wpAnyH_ready (rs := [25]) (by kernel_rfl) (by simp) ?_
              refine AllReadyH.cons (o := { dst := none, op := Op.store 3 (Operand.tmp 215) (Operand.tmp 213), type := 0, pos := "law.go:145", after := #[{ on := 24, ground := Ground.data }, { on := 21, ground := Ground.data }, { on := 23, ground := Ground.chain }, { on := 0, ground := Ground.phase }, { on := 1, ground := Ground.phase }, { on := 2, ground := Ground.phase }, { on := 3, ground := Ground.phase }, { on := 4, ground := Ground.phase }, { on := 5, ground := Ground.phase }, { on := 6, ground := Ground.phase }, { on := 7, ground := Ground.phase }, { on := 8, ground := Ground.phase }, { on := 9, ground := Ground.phase }, { on := 10, ground := Ground.phase }, { on := 11, ground := Ground.phase }, { on := 12, ground := Ground.phase }, { on := 13, ground := Ground.phase }, { on := 14, ground := Ground.phase }, { on := 15, ground := Ground.phase }, { on := 16, ground := Ground.phase }, { on := 17, ground := Ground.phase }, { on := 18, ground := Ground.phase }, { on := 19, ground := Ground.phase }, { on := 20, ground := Ground.phase }, { on := 21, ground := Ground.phase }, { on := 22, ground := Ground.phase }, { on := 23, ground := Ground.phase }], guard := none }) rfl (fun K hK => ?_) ?_
              rotate_left
              · exact AllReadyH.nil
              go_simp
              refine hK.out _ _ (HS2.out) (fun hHeld => ?_)
              clear hK K
              try simp only [Act.put, List.setIfInBounds_toArray, List.set_cons_zero, List.set_cons_succ]
              refine wpAnyH_done (by kernel_rfl) ?_ _
              have HDZ : Hid (OwnPr ((w7.setCell ⟨g1, xn, none⟩ (.int .i64 (nx - m))).setCell ⟨g1, yn, none⟩ (.int .i64 (ny + m))).drew.drew w.heap.size (.slice aj DN.length cj) DN) := HDB
              have HWZ : Hid (OwnWr ((w7.setCell ⟨g1, xn, none⟩ (.int .i64 (nx - m))).setCell ⟨g1, yn, none⟩ (.int .i64 (ny + m))).drew.drew _ (.slice aw 2 cw) (lastL (evalL DN [(6, kx, ky, ofN m)]))) := HWB
              have HNZ : Hid (OwnG eI 3 ((w7.setCell ⟨g1, xn, none⟩ (.int .i64 (nx - m))).setCell ⟨g1, yn, none⟩ (.int .i64 (ny + m))).drew.drew w.heap.size (.slice (some ⟨g1, 0, none⟩) G.length c1) ((L.set xn (nx - m)).set yn (ny + m))) := HNB
              have HKZ2 : Hid (SlG eT ((w7.setCell ⟨g1, xn, none⟩ (.int .i64 (nx - m))).setCell ⟨g1, yn, none⟩ (.int .i64 (ny + m))).drew.drew (.slice (some ⟨kb, 0, none⟩) 5 5) keyL) := HKB2
              have HBZ : Hid (Below w.heap.size w ((w7.setCell ⟨g1, xn, none⟩ (.int .i64 (nx - m))).setCell ⟨g1, yn, none⟩ (.int .i64 (ny + m))).drew.drew) := HBB
              clear HDB HWB HNB HKB2 HBB HNA HN7 HS1 HS2 n1 n2 n3 n4 fz1 fz2 fz3 fz4 hcm7 hHeld
              generalize ((w7.setCell ⟨g1, xn, none⟩ (.int .i64 (nx - m))).setCell ⟨g1, yn, none⟩ (.int .i64 (ny + m))).drew.drew = w8 at *
              go_wp2_with (go_at_call 59; go_must (refine (apply_any _ _ DN (lastL (evalL DN [(6, kx, ky, ofN m)])) _ (by have := HDL.out; have := HDN.out; omega) (by have := HLW.out; omega) HRS.out HKZ.out HWK.out HDZ.out.sl HWZ.out.sl).mono ?_; rintro e w9 ⟨v9, rfl, h1, h5⟩; rw [HMV3.out] at h1; have HD9 := Lib.hid (OwnG.mono h1 (show w.heap.size ≤ _ from HBZ.out.size)); have HN9 := Lib.hid (HNZ.out.later h5); have HK9 := Lib.hid (HKZ2.out.later h5); have HB9 : Hid (Below w.heap.size w w9) := Lib.hid (blThen HBZ.out h5); clear h1 h5))
              have HMN := Lib.hid (moved_nice hxy HNX.out HNY.out hm0 hmx HNN.out)
              have HLS : Hid (((L.set xn (nx - m)).set yn (ny + m)).length = G.length) := Lib.hid (by rw [List.length_set, List.length_set]; exact HLL.out)
              clear hx00 hy00
              go_roundw
              case rel => exact ⟨j + 1, (L.set xn (nx - m)).set yn (ny + m), hlt2, by go_num, HLS.out, HMN.out.1, HMN.out.2.trans HSU.out, HN9.out, HD9.out, HK9.out, HB9.out⟩
              case measure => simp [intOf]; omega
            · go_simp
              refine hK.out _ _ hHeld (fun hHeld => ?_)
              clear hK K
              try simp only [Act.put, List.setIfInBounds_toArray, List.set_cons_zero, List.set_cons_succ]
              refine wpAnyH_take (i := 21) (oi := { dst := some 213, op := Op.binOp BinOp.add 3 (Operand.tmp 208) (Operand.tmp 212) 3, type := 3, pos := "law.go:145", after := #[{ on := 16, ground := Ground.data }, { on := 20, ground := Ground.data }], guard := none }) (v := ?_) rfl (by kernel_rfl) (by kernel_rfl) (by kernel_rfl) (fun _ _ _ h => h) (Or.inl ⟨by rfl, ?_⟩) (by assumption) ?_
              rotate_left
              · intro w hSw
                try dsimp only at hSw
                go_simp
                try with_reducible rfl
              try simp only [Act.put, List.setIfInBounds_toArray, List.set_cons_zero, List.set_cons_succ]
              refine wpAnyH_ready (rs := [7]) (by kernel_rfl) (by simp) ?_
              refine AllReadyH.cons (o := { dst := some 199, op := Op.load 3 (Operand.tmp 198), type := 3, pos := "law.go:145", after := #[{ on := 6, ground := Ground.data }], guard := none }) rfl (fun K hK => ?_) ?_
              rotate_left
              · exact AllReadyH.nil
              go_simp
              refine hK.out _ _ hHeld (fun hHeld => ?_)
              clear hK K
              try simp only [Act.put, List.setIfInBounds_toArray, List.set_cons_zero, List.set_cons_succ]
              refine wpAnyH_take (i := 12) (oi := { dst := some 204, op := Op.binOp BinOp.sub 3 (Operand.tmp 199) (Operand.tmp 203) 3, type := 3, pos := "law.go:145", after := #[{ on := 7, ground := Ground.data }, { on := 11, ground := Ground.data }], guard := none }) (v := ?_) rfl (by kernel_rfl) (by kernel_rfl) (by kernel_rfl) (fun _ _ _ h => h) (Or.inl ⟨by rfl, ?_⟩) (by assumption) ?_
              rotate_left
              · intro w hSw
                try dsimp only at hSw
                go_simp
                try with_reducible rfl
              try simp only [Act.put, List.setIfInBounds_toArray, List.set_cons_zero, List.set_cons_succ]
              refine wpAnyH_take (i := 22) (oi := { dst := some 214, op := Op.indexAddr 43 (Operand.tmp 192) (Operand.tmp 193), type := 0, pos := "law.go:145", after := #[{ on := 0, ground := Ground.data }, { on := 1, ground := Ground.data }, { on := 0, ground := Ground.phase }, { on := 1, ground := Ground.phase }, { on := 2, ground := Ground.textOnly Departure.lateStores }, { on := 3, ground := Ground.textOnly Departure.lateStores }, { on := 4, ground := Ground.phase }, { on := 5, ground := Ground.phase }, { on := 6, ground := Ground.phase }, { on := 7, ground := Ground.phase }, { on := 8, ground := Ground.phase }, { on := 9, ground := Ground.phase }, { on := 10, ground := Ground.phase }, { on := 11, ground := Ground.phase }, { on := 12, ground := Ground.phase }, { on := 13, ground := Ground.textOnly Departure.lateStores }, { on := 14, ground := Ground.textOnly Departure.lateStores }, { on := 15, ground := Ground.textOnly Departure.lateStoresUnsure }, { on := 16, ground := Ground.phase }, { on := 17, ground := Ground.textOnly Departure.lateStores }, { on := 18, ground := Ground.textOnly Departure.lateStores }, { on := 19, ground := Ground.textOnly Departure.lateStoresUnsure }, { on := 20, ground := Ground.phase }, { on := 21, ground := Ground.textOnly Departure.lateStoresUnsure }], guard := none }) (v := ?_) rfl (by kernel_rfl) (by kernel_rfl) (by kernel_rfl) (fun _ _ _ h => h) (Or.inl ⟨by rfl, ?_⟩) (by assumption) ?_
              rotate_left
              · intro w hSw
                try dsimp only at hSw
                go_simp
                try with_reducible rfl
              try simp only [Act.put, List.setIfInBounds_toArray, List.set_cons_zero, List.set_cons_succ]
              refine wpAnyH_ready (rs := [23]) (by kernel_rfl) (by simp) ?_
              refine AllReadyH.cons (o := { dst := none, op := Op.store 3 (Operand.tmp 214) (Operand.tmp 204), type := 0, pos := "law.go:145", after := #[{ on := 22, ground := Ground.data }, { on := 12, ground := Ground.data }, { on := 0, ground := Ground.phase }, { on := 1, ground := Ground.phase }, { on := 2, ground := Ground.textOnly Departure.lateStores }, { on := 3, ground := Ground.textOnly Departure.lateStores }, { on := 4, ground := Ground.phase }, { on := 5, ground := Ground.phase }, { on := 6, ground := Ground.phase }, { on := 7, ground := Ground.phase }, { on := 8, ground := Ground.phase }, { on := 9, ground := Ground.phase }, { on := 10, ground := Ground.phase }, { on := 11, ground := Ground.phase }, { on := 12, ground := Ground.phase }, { on := 13, ground := Ground.textOnly Departure.lateStores }, { on := 14, ground := Ground.textOnly Departure.lateStores }, { on := 15, ground := Ground.textOnly Departure.lateStoresUnsure }, { on := 16, ground := Ground.phase }, { on := 17, ground := Ground.textOnly Departure.lateStores }, { on := 18, ground := Ground.textOnly Departure.lateStores }, { on := 19, ground := Ground.textOnly Departure.lateStoresUnsure }, { on := 20, ground := Ground.phase }, { on := 21, ground := Ground.textOnly Departure.lateStoresUnsure }], guard := none }) rfl (fun K hK => ?_) ?_
              rotate_left
              · exact AllReadyH.nil
              go_simp
              refine hK.out _ _ (HS1.out) (fun hHeld => ?_)
              clear hK K
              try simp only [Act.put, List.setIfInBounds_toArray, List.set_cons_zero, List.set_cons_succ]
              refine wpAnyH_take (i := 24) (oi := { dst := some 215, op := Op.indexAddr 43 (Operand.tmp 194) (Operand.tmp 195), type := 0, pos := "law.go:145", after := #[{ on := 2, ground := Ground.data }, { on := 3, ground := Ground.data }, { on := 0, ground := Ground.phase }, { on := 1, ground := Ground.phase }, { on := 2, ground := Ground.phase }, { on := 3, ground := Ground.phase }, { on := 4, ground := Ground.phase }, { on := 5, ground := Ground.phase }, { on := 6, ground := Ground.phase }, { on := 7, ground := Ground.phase }, { on := 8, ground := Ground.phase }, { on := 9, ground := Ground.phase }, { on := 10, ground := Ground.phase }, { on := 11, ground := Ground.phase }, { on := 12, ground := Ground.phase }, { on := 13, ground := Ground.phase }, { on := 14, ground := Ground.phase }, { on := 15, ground := Ground.phase }, { on := 16, ground := Ground.phase }, { on := 17, ground := Ground.phase }, { on := 18, ground := Ground.phase }, { on := 19, ground := Ground.phase }, { on := 20, ground := Ground.phase }, { on := 21, ground := Ground.phase }, { on := 22, ground := Ground.phase }, { on := 23, ground := Ground.phase }], guard := none }) (v := ?_) rfl (by kernel_rfl) (by kernel_rfl) (by kernel_rfl) (fun _ _ _ h => h) (Or.inl ⟨by rfl, ?_⟩) (by assumption) ?_
              rotate_left
              · intro w hSw
                try dsimp only at hSw
                go_simp
                try with_reducible rfl
              try simp only [Act.put, List.setIfInBounds_toArray, List.set_cons_zero, List.set_cons_succ]
              refine wpAnyH_ready (rs := [25]) (by kernel_rfl) (by simp) ?_
              refine AllReadyH.cons (o := { dst := none, op := Op.store 3 (Operand.tmp 215) (Operand.tmp 213), type := 0, pos := "law.go:145", after := #[{ on := 24, ground := Ground.data }, { on := 21, ground := Ground.data }, { on := 23, ground := Ground.chain }, { on := 0, ground := Ground.phase }, { on := 1, ground := Ground.phase }, { on := 2, ground := Ground.phase }, { on := 3, ground := Ground.phase }, { on := 4, ground := Ground.phase }, { on := 5, ground := Ground.phase }, { on := 6, ground := Ground.phase }, { on := 7, ground := Ground.phase }, { on := 8, ground := Ground.phase }, { on := 9, ground := Ground.phase }, { on := 10, ground := Ground.phase }, { on := 11, ground := Ground.phase }, { on := 12, ground := Ground.phase }, { on := 13, ground := Ground.phase }, { on := 14, ground := Ground.phase }, { on := 15, ground := Ground.phase }, { on := 16, ground := Ground.phase }, { on := 17, ground := Ground.phase }, { on := 18, ground := Ground.phase }, { on := 19, ground := Ground.phase }, { on := 20, ground := Ground.phase }, { on := 21, ground := Ground.phase }, { on := 22, ground := Ground.phase }, { on := 23, ground := Ground.phase }], guard := none }) rfl (fun K hK => ?_) ?_
              rotate_left
              · exact AllReadyH.nil
              go_simp
              refine hK.out _ _ (HS2.out) (fun hHeld => ?_)
              clear hK K
              try simp only [Act.put, List.setIfInBounds_toArray, List.set_cons_zero, List.set_cons_succ]
              refine wpAnyH_done (by kernel_rfl) ?_ _
              have HDZ : Hid (OwnPr ((w7.setCell ⟨g1, xn, none⟩ (.int .i64 (nx - m))).setCell ⟨g1, yn, none⟩ (.int .i64 (ny + m))).drew.drew w.heap.size (.slice aj DN.length cj) DN) := HDB
              have HWZ : Hid (OwnWr ((w7.setCell ⟨g1, xn, none⟩ (.int .i64 (nx - m))).setCell ⟨g1, yn, none⟩ (.int .i64 (ny + m))).drew.drew _ (.slice aw 2 cw) (lastL (evalL DN [(6, kx, ky, ofN m)]))) := HWB
              have HNZ : Hid (OwnG eI 3 ((w7.setCell ⟨g1, xn, none⟩ (.int .i64 (nx - m))).setCell ⟨g1, yn, none⟩ (.int .i64 (ny + m))).drew.drew w.heap.size (.slice (some ⟨g1, 0, none⟩) G.length c1) ((L.set xn (nx - m)).set yn (ny + m))) := HNB
              have HKZ2 : Hid (SlG eT ((w7.setCell ⟨g1, xn, none⟩ (.int .i64 (nx - m))).setCell ⟨g1, yn, none⟩ (.int .i64 (ny + m))).drew.drew (.slice (some ⟨kb, 0, none⟩) 5 5) keyL) := HKB2
              have HBZ : Hid (Below w.heap.size w ((w7.setCell ⟨g1, xn, none⟩ (.int .i64 (nx - m))).setCell ⟨g1, yn, none⟩ (.int .i64 (ny + m))).drew.drew) := HBB
              clear HDB HWB HNB HKB2 HBB HNA HN7 HS1 HS2 n1 n2 n3 n4 fz1 fz2 fz3 fz4 hcm7 hHeld
              generalize ((w7.setCell ⟨g1, xn, none⟩ (.int .i64 (nx - m))).setCell ⟨g1, yn, none⟩ (.int .i64 (ny + m))).drew.drew = w8 at *
              go_wp2_with (go_at_call 59; go_must (refine (apply_any _ _ DN (lastL (evalL DN [(6, kx, ky, ofN m)])) _ (by have := HDL.out; have := HDN.out; omega) (by have := HLW.out; omega) HRS.out HKZ.out HWK.out HDZ.out.sl HWZ.out.sl).mono ?_; rintro e w9 ⟨v9, rfl, h1, h5⟩; rw [HMV3.out] at h1; have HD9 := Lib.hid (OwnG.mono h1 (show w.heap.size ≤ _ from HBZ.out.size)); have HN9 := Lib.hid (HNZ.out.later h5); have HK9 := Lib.hid (HKZ2.out.later h5); have HB9 : Hid (Below w.heap.size w w9) := Lib.hid (blThen HBZ.out h5); clear h1 h5))
              have HMN := Lib.hid (moved_nice hxy HNX.out HNY.out hm0 hmx HNN.out)
              have HLS : Hid (((L.set xn (nx - m)).set yn (ny + m)).length = G.length) := Lib.hid (by rw [List.length_set, List.length_set]; exact HLL.out)
              clear hx00 hy00
              go_roundw
              case rel => exact ⟨j + 1, (L.set xn (nx - m)).set yn (ny + m), hlt2, by go_num, HLS.out, HMN.out.1, HMN.out.2.trans HSU.out, HN9.out, HD9.out, HK9.out, HB9.out⟩
              case measure => simp [intOf]; omega
          · have e8 : decide (m ≤ nx) = false := decide_eq_false hmx
            rw [e8] at hca
            rw [if_neg hmx] at HMV2 HMV3
            rw [HMV2.out] at HW7 ⊢
            go_wp2_with fail
            refine wp_region_held_drew (S := (fun Y => Y.cell? ⟨g1, xn, none⟩ = some (.int .i64 nx) ∧ Y.cell? ⟨gm, om_ + j, none⟩ = some (.int .i64 m))) (by kernel_rfl) (⟨(HCN.out _ HB7.out.drew).1, (HCX.out _ HB7.out.drew).2.2⟩) (fun hHeld => ?_)
            refine wpAnyH_take (i := 0) (oi := { dst := some 164, op := Op.move (Operand.tmp 9), type := 43, pos := "law.go:140", after := #[], guard := none }) (v := ?_) rfl (by kernel_rfl) (by kernel_rfl) (by kernel_rfl) (fun _ _ _ h => h) (Or.inl ⟨by rfl, ?_⟩) (by assumption) ?_
            rotate_left
            · intro w hSw
              try dsimp only at hSw
              go_simp
              try with_reducible rfl
            try simp only [Act.put, List.setIfInBounds_toArray, List.set_cons_zero, List.set_cons_succ]
            refine wpAnyH_take (i := 1) (oi := { dst := some 165, op := Op.move (Operand.tmp 15), type := 3, pos := "law.go:140", after := #[], guard := none }) (v := ?_) rfl (by kernel_rfl) (by kernel_rfl) (by kernel_rfl) (fun _ _ _ h => h) (Or.inl ⟨by rfl, ?_⟩) (by assumption) ?_
            rotate_left
            · intro w hSw
              try dsimp only at hSw
              go_simp
              try with_reducible rfl
            try simp only [Act.put, List.setIfInBounds_toArray, List.set_cons_zero, List.set_cons_succ]
            refine wpAnyH_take (i := 2) (oi := { dst := some 166, op := Op.indexAddr 43 (Operand.tmp 164) (Operand.tmp 165), type := 0, pos := "law.go:140", after := #[{ on := 0, ground := Ground.data }, { on := 1, ground := Ground.data }], guard := none }) (v := ?_) rfl (by kernel_rfl) (by kernel_rfl) (by kernel_rfl) (fun _ _ _ h => h) (Or.inl ⟨by rfl, ?_⟩) (by assumption) ?_
            rotate_left
            · intro w hSw
              try dsimp only at hSw
              go_simp
              try with_reducible rfl
            try simp only [Act.put, List.setIfInBounds_toArray, List.set_cons_zero, List.set_cons_succ]
            refine wpAnyH_take (i := 3) (oi := { dst := some 167, op := Op.load 3 (Operand.tmp 166), type := 3, pos := "law.go:140", after := #[{ on := 2, ground := Ground.data }], guard := none }) (v := ?_) rfl (by kernel_rfl) (by kernel_rfl) (by kernel_rfl) (fun _ _ _ h => h) (Or.inl ⟨by rfl, ?_⟩) (by assumption) ?_
            rotate_left
            · intro w hSw
              try dsimp only at hSw
              go_simp
              try with_reducible rfl
            try simp only [Act.put, List.setIfInBounds_toArray, List.set_cons_zero, List.set_cons_succ]
            refine wpAnyH_take (i := 4) (oi := { dst := some 168, op := Op.move (Operand.tmp 3), type := 43, pos := "law.go:140", after := #[], guard := none }) (v := ?_) rfl (by kernel_rfl) (by kernel_rfl) (by kernel_rfl) (fun _ _ _ h => h) (Or.inl ⟨by rfl, ?_⟩) (by assumption) ?_
            rotate_left
            · intro w hSw
              try dsimp only at hSw
              go_simp
              try with_reducible rfl
            try simp only [Act.put, List.setIfInBounds_toArray, List.set_cons_zero, List.set_cons_succ]
            refine wpAnyH_take (i := 5) (oi := { dst := some 169, op := Op.move (Operand.tmp 14), type := 3, pos := "law.go:140", after := #[], guard := none }) (v := ?_) rfl (by kernel_rfl) (by kernel_rfl) (by kernel_rfl) (fun _ _ _ h => h) (Or.inl ⟨by rfl, ?_⟩) (by assumption) ?_
            rotate_left
            · intro w hSw
              try dsimp only at hSw
              go_simp
              try with_reducible rfl
            try simp only [Act.put, List.setIfInBounds_toArray, List.set_cons_zero, List.set_cons_succ]
            refine wpAnyH_take (i := 6) (oi := { dst := some 170, op := Op.indexAddr 43 (Operand.tmp 168) (Operand.tmp 169), type := 0, pos := "law.go:140", after := #[{ on := 4, ground := Ground.data }, { on := 5, ground := Ground.data }], guard := none }) (v := ?_) rfl (by kernel_rfl) (by kernel_rfl) (by kernel_rfl) (fun _ _ _ h => h) (Or.inl ⟨by rfl, ?_⟩) (by assumption) ?_
            rotate_left
            · intro w hSw
              try dsimp only at hSw
              go_simp
              try with_reducible rfl
            try simp only [Act.put, List.setIfInBounds_toArray, List.set_cons_zero, List.set_cons_succ]
            refine wpAnyH_take (i := 7) (oi := { dst := some 171, op := Op.load 3 (Operand.tmp 170), type := 3, pos := "law.go:140", after := #[{ on := 6, ground := Ground.data }], guard := none }) (v := ?_) rfl (by kernel_rfl) (by kernel_rfl) (by kernel_rfl) (fun _ _ _ h => h) (Or.inl ⟨by rfl, ?_⟩) (by assumption) ?_
            rotate_left
            · intro w hSw
              try dsimp only at hSw
              go_simp
              try with_reducible rfl
            try simp only [Act.put, List.setIfInBounds_toArray, List.set_cons_zero, List.set_cons_succ]
            refine wpAnyH_take (i := 8) (oi := { dst := some 172, op := Op.binOp BinOp.geq 3 (Operand.tmp 167) (Operand.tmp 171) 3, type := 4, pos := "law.go:140", after := #[{ on := 3, ground := Ground.data }, { on := 7, ground := Ground.data }], guard := none }) (v := ?_) rfl (by kernel_rfl) (by kernel_rfl) (by kernel_rfl) (fun _ _ _ h => h) (Or.inl ⟨by rfl, ?_⟩) (by assumption) ?_
            rotate_left
            · intro w hSw
              try dsimp only at hSw
              go_simp
              try with_reducible rfl
            try simp only [Act.put, List.setIfInBounds_toArray, List.set_cons_zero, List.set_cons_succ]
            refine wpAnyH_take (i := 9) (oi := { dst := some 19, op := Op.assign (Operand.tmp 172), type := 4, pos := "law.go:140", after := #[{ on := 8, ground := Ground.data }, { on := 0, ground := Ground.phase }, { on := 1, ground := Ground.phase }, { on := 2, ground := Ground.phase }, { on := 3, ground := Ground.phase }, { on := 4, ground := Ground.phase }, { on := 5, ground := Ground.phase }, { on := 6, ground := Ground.phase }, { on := 7, ground := Ground.phase }, { on := 8, ground := Ground.phase }], guard := none }) (v := ?_) rfl (by kernel_rfl) (by kernel_rfl) (by kernel_rfl) (fun _ _ _ h => h) (Or.inl ⟨by rfl, ?_⟩) (by assumption) ?_
            rotate_left
            · intro w hSw
              try dsimp only at hSw
              go_simp
              try with_reducible rfl
            try simp only [Act.put, List.setIfInBounds_toArray, List.set_cons_zero, List.set_cons_succ]
            refine wpAnyH_done (by kernel_rfl) ?_ _
            have HDZ := Lib.hid (HD.out.later HB7.out.drew)
            have HWZ := Lib.hid (HW7.out.later (Below.refl w7.heap.size w7).drew)
            have HNZ := Lib.hid (HN.out.later HB7.out.drew)
            have HKZ2 := Lib.hid (HK.out.later HB7.out.drew)
            have HBZ : Hid (Below w.heap.size w w7.drew) := Lib.hid (blThen HBJ.out HB7.out.drew)
            go_wp2_with (go_at_call 59; go_must (refine (apply_any _ _ DN (lastL (evalL DN [(6, kx, ky, ofN m)])) _ (by have := HDL.out; have := HDN.out; omega) (by have := HLW.out; omega) HRS.out HKZ.out HWK.out HDZ.out.sl HWZ.out.sl).mono ?_; rintro e w9 ⟨v9, rfl, h1, h5⟩; rw [HMV3.out] at h1; have HD9 := Lib.hid (OwnG.mono h1 (show w.heap.size ≤ _ from HBZ.out.size)); have HN9 := Lib.hid (HNZ.out.later h5); have HK9 := Lib.hid (HKZ2.out.later h5); have HB9 : Hid (Below w.heap.size w w9) := Lib.hid (blThen HBZ.out h5); clear h1 h5))
            go_roundw
            case rel => exact ⟨j + 1, L, hlt2, by go_num, HLL.out, HNN.out, HSU.out, HN9.out, HD9.out, HK9.out, HB9.out⟩
            case measure => simp [intOf]; omega
        · have hge2 : ¬ (j : Int) < (Fm.length : Int) := by omega
          have hdj : decide ((j : Int) < (Fm.length : Int)) = false := decide_eq_false hge2
          obtain ⟨w5, rfl⟩ : ∃ w5, w5 = wr := ⟨_, rfl⟩
          have hdl : (dN L).length = G.length := HDL.out.trans HLL.out
          have hlne : dN L ≠ [] := fun e => by rw [e] at hdl; simp at hdl; omega
          obtain ⟨gd, od, rfl, hgd⟩ := slG_place HD.out.sl hlne
          rw [hdl] at HD ⊢
          clear hdl hlne
          go_wp2_with fail
          go_loopw [20, 21] (fun sv i wi => ∃ q : Nat, q ≤ G.length ∧ i = .int .i64 q ∧ sv = .int .i64 (L.take q).sum ∧ Below w5.heap.size w5 wi) (fun _ i _ => G.length - (intOf i).toNat)
          case atStart => exact ⟨0, Nat.zero_le _, rfl, rfl, Below.refl _ _⟩
          case round =>
            obtain ⟨q, hq, rfl, rfl, hbq⟩ := hrel
            have HBQ := Lib.hid hbq
            clear hbq
            have hq0 : (0 : Int) ≤ (q : Int) := by omega
            by_cases hlt3 : q < G.length
            · obtain ⟨nq, hnq⟩ := at_lt (l := L) (show q < L.length by have := HLL.out; omega)
              obtain ⟨kq, hkq⟩ := at_lt (l := keyL) (show q < keyL.length by show q < 5; omega)
              have hq1 : (q : Int) < (G.length : Int) := by omega
              have hq5 : (q : Int) < 5 := by omega
              have hdq : decide ((q : Int) < (G.length : Int)) = true := decide_eq_true hq1
              have hdq2 : decide ((G.length : Int) ≤ (q : Int)) = false := decide_eq_false (by omega)
              have hdq3 : decide (G.length ≤ q) = false := decide_eq_false (by omega)
              have hdq4 : ¬ G.length ≤ q := by omega
              have HST := Lib.hid (sum_take hnq)
              have hsb : 0 ≤ (L.take q).sum ∧ (L.take q).sum ≤ 50000000 := ⟨sum_pos fun n hn => HNN.out n (List.mem_of_mem_take hn), by have h1 := take_sum HNN.out q; have := HSU.out; have := HSG.out; omega⟩
              have hnb : 0 ≤ nq ∧ nq ≤ 10000000 := ⟨HNN.out nq (List.mem_of_getElem? hnq), by have := le_sum HNN.out nq (List.mem_of_getElem? hnq); have := HSU.out; have := HSG.out; omega⟩
              have HCQ := Lib.hid (fun (Y : World) (h : Below w5.heap.size w5 Y) => (⟨(prs_cell (HD.out.sl.later h) (dN_at hkq hnq)).1, (prs_cell (HD.out.sl.later h) (dN_at hkq hnq)).2, (texts_at (HK.out.later h) hkq).2, own_at (HN.out.later h) hnq⟩ : Y.cell? ⟨gd, od + q * 2, none⟩ = some (.string kq) ∧ Y.cell? ⟨gd, od + q * 2 + 1, none⟩ = some (.int .u64 ((ofN nq : Nat) : Int)) ∧ Y.cell? ⟨kb, q, none⟩ = some (.string kq) ∧ Y.cell? ⟨g1, q, none⟩ = some (.int .i64 nq)))
              obtain ⟨c0, c1', c2', c3'⟩ := HCQ.out _ HBQ.out
              generalize (L.take q).sum = SQ at *
              have hwq : IntKind.i64.wrap (SQ + nq) = SQ + nq := wrap_in64 (by omega) (by omega)
              clear hnq hkq
              go_wp2_with fail
              refine wp_region_held_drew (S := (fun Y => Y.cell? ⟨gd, od + q * 2, none⟩ = some (.string kq) ∧ Y.cell? ⟨gd, od + q * 2 + 1, none⟩ = some (.int .u64 ((ofN nq : Nat) : Int)) ∧ Y.cell? ⟨kb, q, none⟩ = some (.string kq) ∧ Y.cell? ⟨g1, q, none⟩ = some (.int .i64 nq))) (by kernel_rfl) (HCQ.out _ HBQ.out.drew) (fun hHeld => ?_)
              refine wpAnyH_take (i := 0) (oi := { dst := some 231, op := Op.move (Operand.tmp 21), type := 3, pos := "law.go:152", after := #[], guard := none }) (v := ?_) rfl (by kernel_rfl) (by kernel_rfl) (by kernel_rfl) (fun _ _ _ h => h) (Or.inl ⟨by rfl, ?_⟩) (by assumption) ?_
              rotate_left
              · intro w hSw
                try dsimp only at hSw
                go_simp
                try with_reducible rfl
              try simp only [Act.put, List.setIfInBounds_toArray, List.set_cons_zero, List.set_cons_succ]
              refine wpAnyH_take (i := 1) (oi := { dst := some 232, op := Op.move (Operand.tmp 11), type := 71, pos := "law.go:152", after := #[], guard := none }) (v := ?_) rfl (by kernel_rfl) (by kernel_rfl) (by kernel_rfl) (fun _ _ _ h => h) (Or.inl ⟨by rfl, ?_⟩) (by assumption) ?_
              rotate_left
              · intro w hSw
                try dsimp only at hSw
                go_simp
                try with_reducible rfl
              try simp only [Act.put, List.setIfInBounds_toArray, List.set_cons_zero, List.set_cons_succ]
              refine wpAnyH_take (i := 2) (oi := { dst := some 233, op := Op.call { callee := Callee.builtin Builtin.len, args := #[Operand.tmp 232], argTypes := #[71] }, type := 3, pos := "law.go:152", after := #[{ on := 1, ground := Ground.data }], guard := none }) (v := ?_) rfl (by kernel_rfl) (by kernel_rfl) (by kernel_rfl) (fun _ _ _ h => h) (Or.inl ⟨by rfl, ?_⟩) (by assumption) ?_
              rotate_left
              · intro w hSw
                try dsimp only at hSw
                go_simp
                try with_reducible rfl
              try simp only [Act.put, List.setIfInBounds_toArray, List.set_cons_zero, List.set_cons_succ]
              refine wpAnyH_take (i := 3) (oi := { dst := some 234, op := Op.binOp BinOp.geq 3 (Operand.tmp 231) (Operand.tmp 233) 3, type := 4, pos := "law.go:152", after := #[{ on := 0, ground := Ground.data }, { on := 2, ground := Ground.data }], guard := none }) (v := ?_) rfl (by kernel_rfl) (by kernel_rfl) (by kernel_rfl) (fun _ _ _ h => h) (Or.inl ⟨by rfl, ?_⟩) (by assumption) ?_
              rotate_left
              · intro w hSw
                try dsimp only at hSw
                go_simp
                try with_reducible rfl
              try simp only [Act.put, List.setIfInBounds_toArray, List.set_cons_zero, List.set_cons_succ]
              refine wpAnyH_take (i := 4) (oi := { dst := some 235, op := Op.move (Operand.tmp 234), type := 4, pos := "law.go:152", after := #[{ on := 3, ground := Ground.data }], guard := none }) (v := ?_) rfl (by kernel_rfl) (by kernel_rfl) (by kernel_rfl) (fun _ _ _ h => h) (Or.inl ⟨by rfl, ?_⟩) (by assumption) ?_
              rotate_left
              · intro w hSw
                try dsimp only at hSw
                go_simp
                try with_reducible rfl
              try simp only [Act.put, List.setIfInBounds_toArray, List.set_cons_zero, List.set_cons_succ]
              refine wpAnyH_take (i := 5) (oi := { dst := some 236, op := Op.move (Operand.tmp 11), type := 71, pos := "law.go:152", after := #[{ on := 4, ground := Ground.guard }], guard := some (4, false) }) (v := ?_) rfl (by kernel_rfl) (by kernel_rfl) (by kernel_rfl) (fun _ _ _ h => h) (Or.inl ⟨by rfl, ?_⟩) (by assumption) ?_
              rotate_left
              · intro w hSw
                try dsimp only at hSw
                go_simp
                try with_reducible rfl
              try simp only [Act.put, List.setIfInBounds_toArray, List.set_cons_zero, List.set_cons_succ]
              refine wpAnyH_take (i := 6) (oi := { dst := some 237, op := Op.move (Operand.tmp 21), type := 3, pos := "law.go:152", after := #[{ on := 4, ground := Ground.guard }], guard := some (4, false) }) (v := ?_) rfl (by kernel_rfl) (by kernel_rfl) (by kernel_rfl) (fun _ _ _ h => h) (Or.inl ⟨by rfl, ?_⟩) (by assumption) ?_
              rotate_left
              · intro w hSw
                try dsimp only at hSw
                go_simp
                try with_reducible rfl
              try simp only [Act.put, List.setIfInBounds_toArray, List.set_cons_zero, List.set_cons_succ]
              refine wpAnyH_take (i := 7) (oi := { dst := some 238, op := Op.indexAddr 71 (Operand.tmp 236) (Operand.tmp 237), type := 0, pos := "law.go:152", after := #[{ on := 5, ground := Ground.data }, { on := 6, ground := Ground.data }, { on := 4, ground := Ground.guard }], guard := some (4, false) }) (v := ?_) rfl (by kernel_rfl) (by kernel_rfl) (by kernel_rfl) (fun _ _ _ h => h) (Or.inl ⟨by rfl, ?_⟩) (by assumption) ?_
              rotate_left
              · intro w hSw
                try dsimp only at hSw
                go_simp
                try with_reducible rfl
              try simp only [Act.put, List.setIfInBounds_toArray, List.set_cons_zero, List.set_cons_succ]
              refine wpAnyH_take (i := 8) (oi := { dst := some 239, op := Op.load 92 (Operand.tmp 238), type := 92, pos := "law.go:152", after := #[{ on := 7, ground := Ground.data }, { on := 4, ground := Ground.guard }], guard := some (4, false) }) (v := ?_) rfl (by kernel_rfl) (by kernel_rfl) (by kernel_rfl) (fun _ _ _ h => h) (Or.inl ⟨by rfl, ?_⟩) (by assumption) ?_
              rotate_left
              · intro w hSw
                try dsimp only at hSw
                go_simp
                try with_reducible rfl
              try simp only [Act.put, List.setIfInBounds_toArray, List.set_cons_zero, List.set_cons_succ]
              refine wpAnyH_take (i := 9) (oi := { dst := some 240, op := Op.move (Operand.tmp 10), type := 87, pos := "law.go:152", after := #[{ on := 4, ground := Ground.guard }], guard := some (4, false) }) (v := ?_) rfl (by kernel_rfl) (by kernel_rfl) (by kernel_rfl) (fun _ _ _ h => h) (Or.inl ⟨by rfl, ?_⟩) (by assumption) ?_
              rotate_left
              · intro w hSw
                try dsimp only at hSw
                go_simp
                try with_reducible rfl
              try simp only [Act.put, List.setIfInBounds_toArray, List.set_cons_zero, List.set_cons_succ]
              refine wpAnyH_take (i := 10) (oi := { dst := some 241, op := Op.move (Operand.tmp 21), type := 3, pos := "law.go:152", after := #[{ on := 4, ground := Ground.guard }], guard := some (4, false) }) (v := ?_) rfl (by kernel_rfl) (by kernel_rfl) (by kernel_rfl) (fun _ _ _ h => h) (Or.inl ⟨by rfl, ?_⟩) (by assumption) ?_
              rotate_left
              · intro w hSw
                try dsimp only at hSw
                go_simp
                try with_reducible rfl
              try simp only [Act.put, List.setIfInBounds_toArray, List.set_cons_zero, List.set_cons_succ]
              refine wpAnyH_take (i := 11) (oi := { dst := some 242, op := Op.indexAddr 87 (Operand.tmp 240) (Operand.tmp 241), type := 0, pos := "law.go:152", after := #[{ on := 9, ground := Ground.data }, { on := 10, ground := Ground.data }, { on := 4, ground := Ground.guard }], guard := some (4, false) }) (v := ?_) rfl (by kernel_rfl) (by kernel_rfl) (by kernel_rfl) (fun _ _ _ h => h) (Or.inl ⟨by rfl, ?_⟩) (by assumption) ?_
              rotate_left
              · intro w hSw
                try dsimp only at hSw
                go_simp
                try with_reducible rfl
              try simp only [Act.put, List.setIfInBounds_toArray, List.set_cons_zero, List.set_cons_succ]
              refine wpAnyH_take (i := 12) (oi := { dst := some 243, op := Op.load 9 (Operand.tmp 242), type := 9, pos := "law.go:152", after := #[{ on := 11, ground := Ground.data }, { on := 4, ground := Ground.guard }], guard := some (4, false) }) (v := ?_) rfl (by kernel_rfl) (by kernel_rfl) (by kernel_rfl) (fun _ _ _ h => h) (Or.inl ⟨by rfl, ?_⟩) (by assumption) ?_
              rotate_left
              · intro w hSw
                try dsimp only at hSw
                go_simp
                try with_reducible rfl
              try simp only [Act.put, List.setIfInBounds_toArray, List.set_cons_zero, List.set_cons_succ]
              refine wpAnyH_take (i := 13) (oi := { dst := some 244, op := Op.move (Operand.tmp 9), type := 43, pos := "law.go:152", after := #[{ on := 4, ground := Ground.guard }], guard := some (4, false) }) (v := ?_) rfl (by kernel_rfl) (by kernel_rfl) (by kernel_rfl) (fun _ _ _ h => h) (Or.inl ⟨by rfl, ?_⟩) (by assumption) ?_
              rotate_left
              · intro w hSw
                try dsimp only at hSw
                go_simp
                try with_reducible rfl
              try simp only [Act.put, List.setIfInBounds_toArray, List.set_cons_zero, List.set_cons_succ]
              refine wpAnyH_take (i := 14) (oi := { dst := some 245, op := Op.move (Operand.tmp 21), type := 3, pos := "law.go:152", after := #[{ on := 4, ground := Ground.guard }], guard := some (4, false) }) (v := ?_) rfl (by kernel_rfl) (by kernel_rfl) (by kernel_rfl) (fun _ _ _ h => h) (Or.inl ⟨by rfl, ?_⟩) (by assumption) ?_
              rotate_left
              · intro w hSw
                try dsimp only at hSw
                go_simp
                try with_reducible rfl
              try simp only [Act.put, List.setIfInBounds_toArray, List.set_cons_zero, List.set_cons_succ]
              refine wpAnyH_take (i := 15) (oi := { dst := some 246, op := Op.indexAddr 43 (Operand.tmp 244) (Operand.tmp 245), type := 0, pos := "law.go:152", after := #[{ on := 13, ground := Ground.data }, { on := 14, ground := Ground.data }, { on := 4, ground := Ground.guard }], guard := some (4, false) }) (v := ?_) rfl (by kernel_rfl) (by kernel_rfl) (by kernel_rfl) (fun _ _ _ h => h) (Or.inl ⟨by rfl, ?_⟩) (by assumption) ?_
              rotate_left
              · intro w hSw
                try dsimp only at hSw
                go_simp
                try with_reducible rfl
              try simp only [Act.put, List.setIfInBounds_toArray, List.set_cons_zero, List.set_cons_succ]
              refine wpAnyH_take (i := 16) (oi := { dst := some 247, op := Op.load 3 (Operand.tmp 246), type := 3, pos := "law.go:152", after := #[{ on := 15, ground := Ground.data }, { on := 4, ground := Ground.guard }], guard := some (4, false) }) (v := ?_) rfl (by kernel_rfl) (by kernel_rfl) (by kernel_rfl) (fun _ _ _ h => h) (Or.inl ⟨by rfl, ?_⟩) (by assumption) ?_
              rotate_left
              · intro w hSw
                try dsimp only at hSw
                go_simp
                try with_reducible rfl
              try simp only [Act.put, List.setIfInBounds_toArray, List.set_cons_zero, List.set_cons_succ]
              refine wpAnyH_ready (rs := [17]) (by kernel_rfl) (by simp) ?_
              refine AllReadyH.cons (o := { dst := some 248, op := Op.call { callee := Callee.value (Operand.func 63), args := #[Operand.tmp 247], argTypes := #[2] }, type := 89, pos := "law.go:152", after := #[{ on := 16, ground := Ground.data }, { on := 4, ground := Ground.chain }, { on := 4, ground := Ground.guard }], guard := some (4, false) }) rfl (fun K hK => ?_) ?_
              rotate_left
              · exact AllReadyH.nil
              go_simp
              go_at_call 63
              refine (SN.rof_any _ _).mono ?_
              rintro e w8 ⟨rfl, rfl⟩
              refine hK.out _ _ (HCQ.out _ HBQ.out.drew) (fun hHeld => ?_)
              clear hK K
              try simp only [Act.put, List.setIfInBounds_toArray, List.set_cons_zero, List.set_cons_succ]
              refine wpAnyH_take (i := 18) (oi := { dst := some 249, op := Op.build 92 #[(0, Operand.tmp 243), (1, Operand.tmp 248)], type := 92, pos := "law.go:152", after := #[{ on := 12, ground := Ground.data }, { on := 17, ground := Ground.data }, { on := 4, ground := Ground.guard }], guard := some (4, false) }) (v := ?_) rfl (by kernel_rfl) (by kernel_rfl) (by kernel_rfl) (fun _ _ _ h => h) (Or.inl ⟨by rfl, ?_⟩) (by assumption) ?_
              rotate_left
              · intro w hSw
                try dsimp only at hSw
                go_simp
                try with_reducible rfl
              try simp only [Act.put, List.setIfInBounds_toArray, List.set_cons_zero, List.set_cons_succ]
              refine wpAnyH_take (i := 19) (oi := { dst := some 250, op := Op.binOp BinOp.neq 92 (Operand.tmp 239) (Operand.tmp 249) 92, type := 4, pos := "law.go:152", after := #[{ on := 8, ground := Ground.data }, { on := 18, ground := Ground.data }, { on := 4, ground := Ground.guard }], guard := some (4, false) }) (v := ?_) rfl (by kernel_rfl) (by kernel_rfl) (by kernel_rfl) (fun _ _ _ h => h) (Or.inl ⟨by rfl, ?_⟩) (by assumption) ?_
              rotate_left
              · intro w hSw
                try dsimp only at hSw
                go_simp
                try with_reducible rfl
              try simp only [Act.put, List.setIfInBounds_toArray, List.set_cons_zero, List.set_cons_succ]
              refine wpAnyH_take (i := 20) (oi := { dst := some 251, op := Op.pick (Operand.tmp 235) (Operand.const (Value.bool true)) (Operand.tmp 250), type := 4, pos := "law.go:152", after := #[{ on := 4, ground := Ground.data }, { on := 19, ground := Ground.data }], guard := none }) (v := ?_) rfl (by kernel_rfl) (by kernel_rfl) (by kernel_rfl) (fun _ _ _ h => h) (Or.inl ⟨by rfl, ?_⟩) (by assumption) ?_
              rotate_left
              · intro w hSw
                try dsimp only at hSw
                go_simp
                try with_reducible rfl
              try simp only [Act.put, List.setIfInBounds_toArray, List.set_cons_zero, List.set_cons_succ]
              refine wpAnyH_done (by kernel_rfl) ?_ _
              go_wp2
              go_roundw
              case rel => exact ⟨q + 1, hlt3, by go_num, by rw [HST.out], HBQ.out.drew⟩
              case measure => simp [intOf]; omega
            · have hge3 : ¬ (q : Int) < (G.length : Int) := by omega
              have hdq : decide ((q : Int) < (G.length : Int)) = false := decide_eq_false hge3
              have HTQ : Hid ((L.take q).sum = G.sum) := Lib.hid (by rw [List.take_of_length_le (by have := HLL.out; omega)]; exact HSU.out)
              rw [HTQ.out]
              have HBE9 : Hid (Below w.heap.size w wr) := Lib.hid (blThen HBJ.out HBQ.out)
              go_wp2_with (go_at_call 41; go_must (refine (live8_any _).mono ?_; rintro e w9 ⟨rfl, h5⟩; have HB9 : Hid (Below w.heap.size w w9) := Lib.hid (blThen HBE9.out h5); clear h5))
              go_ret
              exact ⟨rfl, HB9.out⟩
end SP
end Go.Proofs.YtjlkgbejldcklaaGreat

namespace Go.Proofs.YtjlkgbejldcklaaGreat
open S3 SN
namespace SP
open Go.ChangeShapes Go.WideShapes Go.ChangeAt Go.RowKit Go.Joins Go.Deep
set_option maxRecDepth 100000
theorem bytesIt : Tryz.prog.bytesOf 3 = 8 := by kernel_rfl
section
variable {H : Type} {enc : TypeId × Value → H}
theorem open_ints {r : Reach} {b0 : Nat} {w : World} {v : Value} {d : DataW H} {p : List MemPlace} (hv : Value.okWide Tryz.prog w r b0 43 v) (h : DataW.Trod enc Tryz.prog w 0 (fun _ => true) true 43 v d p) :
    ∃ l : List Int, SlG eI w v l ∧ l.length ≤ 9223372036854775807 ∧ (l.length = 0 ∨ ∃ n ∈ d.weights Tryz.prog 43, l.length * 8 ≤ n) := by
  obtain ⟨a0, len0, cap0, rfl⟩ := okWide_slice Tryz.underlying43 hv
  obtain ⟨fuel, hf⟩ := h
  have hf' : DataW.trod enc Tryz.prog w 0 (fun _ => true) true fuel 43 [.slice a0 len0 cap0] = some (d, p) := by simpa [Value.cells] using hf
  rcases open_slice Tryz.underlying43 hf' with ⟨hcs, _⟩ | ⟨a, len, cap, m, n, D, Pl, hcs, _, hl, hm, hmm, hx, hi⟩
  · simp only [List.cons.injEq, Value.slice.injEq, and_true] at hcs
    obtain ⟨rfl, rfl, rfl⟩ := hcs
    exact ⟨[], SlG.nil _, Nat.zero_le _, .inl rfl⟩
  · simp only [List.cons.injEq, Value.slice.injEq, and_true] at hcs
    obtain ⟨rfl, rfl, rfl⟩ := hcs
    simp only [if_true] at hmm
    subst hmm
    have hx1 := congrArg Prod.fst hx
    simp only at hx1
    obtain ⟨l, hl1, hl2, hl3⟩ := slG_of (E := eI) (w := w) (a := a) (len := len0) (cap := m) (P := fun _ _ => True) (fun i hlt => by
      obtain ⟨cs', hc, ht⟩ := hi i (by omega)
      rw [cellsIt] at hc
      obtain ⟨_, hlen, hat⟩ := World.cells?_some hc
      match cs', hlen with
      | [c0], _ =>
        obtain ⟨y, hy0, _, _⟩ := DataW.trod_int Tryz.underlying3 ht
        simp only [List.cons.injEq, and_true] at hy0
        subst hy0
        refine ⟨y, trivial, fun j u hu => ?_⟩
        match j, hu with
        | 0, hu => simp only [eI, List.getElem?_cons_zero, Option.some.injEq] at hu; subst hu; exact hat 0 (by omega)
        | j + 1, hu => simp [eI] at hu)
    unfold maxLen at hm
    refine ⟨l, hl2, by omega, .inr ⟨?nn, ?mem, ?le⟩⟩
    case mem =>
      rw [hx1]
      simp only [DataW.weights, Tryz.underlying43]
      exact List.mem_cons_self
    case le =>
      rw [bytesIt]
      simp only [List.length_map, List.length_range]
      omega
end
set_option maxRecDepth 100000 in
theorem txnSum_lifted (os : Os) (started : os.Started) (H : Type) (enc : TypeId × Value → H) :
    ReturnsInHanded {} Tryz.checked os 7 .any (Rows.txnSumSpec.pre6 enc Tryz.prog Tryz.f7 Rows.txnSumRow.domain false) (Rows.txnSumSpec.post enc Tryz.prog Tryz.f7 false true false false) := by
  refine law_lift_sized (C := Tryz.checked) own0 started (by kernel_rfl) Tryz.func7 laid0 rfl (by kernel_rfl) (fun _ _ _ _ => trodAll_mk1 (shut_bool Tryz.underlying4 true)) (fun ds h => match ds, h with | [_, _, _, _], _ => ⟨rfl, rfl, rfl⟩)
    (ChangeSpec.witness6 (enc := enc) (C := Tryz.checked) false ⟨#[], #[.slice none 0 0, .slice none 0 0, .slice none 0 0, .slice none 0 0], []⟩ 8 (by kernel_rfl) (by kernel_rfl) (by kernel_rfl) (by kernel_rfl)) ?_
  intro W base args ds before hval0 hA0 hlt hsz
  have hval : ∀ (j : Nat) t v, Tryz.f7.params[j]? = some t → args[j]? = some v → Value.okWide Tryz.prog W .any base t v := hval0
  have hA : DataW.TrodAll enc Tryz.prog W 0 (fun _ => true) true Tryz.f7.params.toList args.toList ds before := hA0
  rw [Tryz.params7] at hA hval
  obtain ⟨v0, v1, v2, v3, d0, d1, d2, d3, p0, p1, p2, p3, rfl, rfl, rfl, h0, h1, h2, h3⟩ := trodAll_four hA
  obtain ⟨g, og, mg, rg⟩ := open_ints (hval 0 43 v0 rfl rfl) h0
  obtain ⟨f, of_, mf, rf⟩ := open_ints (hval 1 43 v1 rfl rfl) h1
  obtain ⟨t, ot, mt, rt⟩ := open_ints (hval 2 43 v2 rfl rfl) h2
  obtain ⟨m, om, mm, rm⟩ := open_ints (hval 3 43 v3 rfl rfl) h3
  exact txnSum_walk v0 v1 v2 v3 g f t m W (rg.elim (fun e => by omega) fun ⟨n, hn, hk⟩ => Nat.le_trans hk (reach_of hsz (j := 0) (by kernel_rfl) rfl hn)) mf mt mm og of_ ot om
theorem txnSum_f_inPlace : (Rows.txnSumRow.inPlace == Tryz.prog.inPlace 7) = true := by kernel_rfl
theorem txnSum_f_unfollowed : (Rows.txnSumRow.unfollowed == Tryz.prog.unfollowed 7) = true := by kernel_rfl
theorem txnSum_f_recurses : (Rows.txnSumRow.recurses == Tryz.prog.recurses 7) = true := by kernel_rfl
theorem txnSum_f_named : (Rows.txnSumRow.named == Tryz.prog.varsNamed 7) = true := by kernel_rfl
theorem txnSum_laid : laidOutB Tryz.prog = true := by kernel_rfl
theorem txnSum_rowed : mapsRowed Tryz.prog = true := by kernel_rfl
theorem txnSum_closed : joinedFacts Tryz.prog 7 Tryz.f7 Rows.txnSumSpec Rows.txnSumRow = true := by
  unfold joinedFacts
  rw [txnSum_laid, txnSum_rowed, txnSum_f_inPlace, txnSum_f_unfollowed, txnSum_f_recurses, txnSum_f_named]
  kernel_rfl
theorem txnSum_holds : Rows.TxnSumSaid :=
  OpenClaim.holds_of_wide 7 Tryz.f7 rfl rfl rfl rfl rfl rfl rfl ⟨rfl, rfl, rfl, rfl, rfl⟩ rfl rfl rfl rfl rfl (by kernel_rfl) Tryz.func7 txnSum_closed
    (of_decide_eq_true (by kernel_rfl)) (by unfold Func.isWrapper; rw [if_neg (of_decide_eq_false (by kernel_rfl))]; exact ⟨rfl, rfl⟩)
    (fun os started H enc _ => txnSum_lifted os started H enc)
#print axioms txnSum_holds
end SP
end Go.Proofs.YtjlkgbejldcklaaGreat
