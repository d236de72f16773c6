/- The arguments of this stage's laws, opened: numbers, shards. Conditions: none. -/
import Derived.WalkSpells
import Derived.Deep.RegionHeld3
import Derived.SizedLaws
import Derived.Test.YtpdfcojcmhadnaaGreatMg34
import Derived.Test.YtpdfcojcmhadnaaGreatMg24
import Derived.Test.YtpdfcojcmhadnaaGreatMg32
import Derived.Test.YtpdfcojcmhadnaaGreatMg27
import Derived.Test.YtpdfcojcmhadnaaGreatMg29
import Derived.Test.YtpdfcojcmhadnaaGreatMg20
import Derived.Test.YtpdfcojcmhadnaaGreatMg18
import Derived.Test.YtpdfcojcmhadnaaGreatMg17
import Derived.Test.YtpdfcojcmhadnaaGreatMg03
set_option maxRecDepth 100000
set_option maxHeartbeats 16000000
set_option linter.unusedVariables false
set_option linter.unusedSimpArgs false
namespace Go.Proofs.YtpdfcojcmhadnaaGreat
open S3 SN
namespace SP
open Go.ChangeShapes Go.WideShapes Go.ChangeAt Go.RowKit Go.Joins Go.Deep
theorem nat8 {a : Int} (h : (Lit.int .u64 a).wf = true) : ∃ n : Nat, n < 18446744073709551616 ∧ a = (n : Int) := by
 have h1 : (0 : Int) ≤ a ∧ a ≤ 18446744073709551615 := by simpa [Lit.wf, IntKind.min, IntKind.max, IntKind.signed, IntKind.bits] using h
 exact ⟨a.toNat, by omega, by omega⟩
theorem slG_of {α : Type} {E : Enc α} {w : World} {a : Addr} {len cap : Nat} {P : Nat → α → Prop} (h : ∀ i, i < len → ∃ q : α, P i q ∧ ∀ (j : Nat) u, (E.enc q)[j]? = some u → w.cell? ((a.add (i * E.K)).add j) = some u) :
  ∃ l : List α, l.length = len ∧ SlG E w (.slice (some a) len cap) l ∧ ∀ q ∈ l, ∃ i, i < len ∧ P i q := by
 let f : Fin len → α := fun i => Classical.choose (h i.1 i.2)
 have hf : ∀ i : Fin len, P i.1 (f i) ∧ ∀ (j : Nat) u, (E.enc (f i))[j]? = some u → w.cell? ((a.add (i.1 * E.K)).add j) = some u := fun i => Classical.choose_spec (h i.1 i.2)
 have hl : (List.ofFn f).length = len := List.length_ofFn
 refine ⟨List.ofFn f, hl, ⟨some a, cap, by rw [hl], fun h => (by cases h), fun hne => ?_⟩, fun q hq => ?_⟩
 ·have h0 : 0 < len := by
   rcases Nat.eq_zero_or_pos len with h | h
   ·exact absurd (List.eq_nil_of_length_eq_zero (hl.trans h)) hne
   ·exact h
  have hlt : 0 < (E.enc (f ⟨0, h0⟩)).length := by rw [E.len]; exact E.pos
  have h00 := (hf ⟨0, h0⟩).2 0 _ (List.getElem?_eq_getElem hlt)
  have e : (a.add (0 * E.K)).add 0 = a := by rw [Nat.zero_mul]; unfold Addr.add; split <;> simp_all
  rw [e] at h00
  obtain ⟨b, o, rfl⟩ := addr_plain h00
  refine ⟨b, o, rfl, World.block_lt_of_cell? _ _ h00, fun i x hx j u hu => ?_⟩
  obtain ⟨hi, rfl⟩ := List.getElem?_eq_some_iff.1 hx
  rw [hl] at hi
  rw [List.getElem_ofFn] at hu
  have := (hf ⟨i, hi⟩).2 j u hu
  rwa [Go.WideShapes.add_plain, Go.WideShapes.add_plain] at this
 ·obtain ⟨i, hi, rfl⟩ := List.getElem_of_mem hq
  rw [List.getElem_ofFn]
  exact ⟨_, by omega, (hf _).1⟩
theorem cellsOp : Tryz.prog.cellsOf 72 = 4 := by kernel_rfl
theorem cellsNm : Tryz.prog.cellsOf 70 = 1 := by kernel_rfl
theorem cellsIt : Tryz.prog.cellsOf 3 = 1 := by kernel_rfl
section
variable {H : Type} {enc : TypeId × Value → H}
def InW (t : TypeId) (d : DataW H) (k : ByteArray) : Prop := ∃ n ∈ d.weights Tryz.prog t, k.size ≤ n
theorem open_ops {r : Reach} {b0 : Nat} {w : World} {v : Value} {d : DataW H} {p : List MemPlace} (hv : Value.okWide Tryz.prog w r b0 25 v) (h : DataW.Trod enc Tryz.prog w 0 (fun _ => true) true 25 v d p) :
  ∃ l : List Opr, SlG eO w v l ∧ l.length ≤ 9223372036854775807 ∧ ∀ q ∈ l, (Lit.int .i64 q.1).wf = true ∧ q.2.2.2 < 18446744073709551616 ∧ InW 25 d q.2.1 ∧ InW 25 d q.2.2.1 := by
 obtain ⟨a0, len0, cap0, rfl⟩ := okWide_slice Tryz.underlying25 hv
 obtain ⟨fuel, hf⟩ := h
 have hf' : DataW.trod enc Tryz.prog w 0 (fun _ => true) true fuel 25 [.slice a0 len0 cap0] = some (d, p) := by simpa [Value.cells] using hf
 rcases open_slice Tryz.underlying25 hf' with ⟨hcs, _⟩ | ⟨a, len, cap, m, n, D, Pl, hcs, _, hl, hm, hmm, hx, hi⟩
 ·simp only [List.cons.injEq, Value.slice.injEq, and_true] at hcs
  obtain ⟨rfl, rfl, rfl⟩ := hcs
  exact ⟨[], SlG.nil _, Nat.zero_le _, fun q hq => by cases hq⟩
 ·simp only [List.cons.injEq, Value.slice.injEq, and_true] at hcs
  obtain ⟨rfl, rfl, rfl⟩ := hcs
  simp only [if_true] at hmm
  subst hmm
  have hx1 := congrArg Prod.fst hx
  simp only at hx1
  obtain ⟨l, hl1, hl2, hl3⟩ := slG_of (E := eO) (w := w) (a := a) (len := len0) (cap := m) (P := fun i q => (Lit.int .i64 q.1).wf = true ∧ q.2.2.2 < 18446744073709551616 ∧ InW 72 (D i) q.2.1 ∧ InW 72 (D i) q.2.2.1) (fun i hlt => by
   obtain ⟨cs', hc, ht⟩ := hi i (by omega)
   rw [cellsOp] at hc
   obtain ⟨_, hlen, hat⟩ := World.cells?_some hc
   match cs', hlen with
   | [c0, c1, c2, c3], _ =>
    obtain ⟨y0, y1, y2, y3, k, hfs, _, h0, h1, h2, h3⟩ := Go.Joins.trod_struct4 Tryz.underlying72 ht
    have e0 : DataW.trod enc Tryz.prog w 0 (fun _ => true) true k 3 [c0] = some y0 := by simpa [cellsIt] using h0
    have e1 : DataW.trod enc Tryz.prog w 0 (fun _ => true) true k 9 [c1] = some y1 := by simpa [cells_str] using h1
    have e2 : DataW.trod enc Tryz.prog w 0 (fun _ => true) true k 9 [c2] = some y2 := by simpa [cells_str] using h2
    have e3 : DataW.trod enc Tryz.prog w 0 (fun _ => true) true k 70 [c3] = some y3 := by simpa [cellsNm] using h3
    obtain ⟨kd, hk0, _, wk⟩ := DataW.trod_int Tryz.underlying3 e0
    obtain ⟨x, hx0, hxd, _⟩ := DataW.trod_string Tryz.underlying9 e1
    obtain ⟨z, hz0, hzd, _⟩ := DataW.trod_string Tryz.underlying9 e2
    obtain ⟨y, hy0, _, wy⟩ := DataW.trod_int Tryz.underlying70 e3
    simp only [List.cons.injEq, and_true] at hk0 hx0 hz0 hy0
    subst hk0 hx0 hz0 hy0
    obtain ⟨yn, hyn, rfl⟩ := nat8 wy
    have hD : D i = .agg [y0.1, y1.1, y2.1, y3.1] := congrArg Prod.fst hfs
    refine ⟨(kd, x, z, yn), ⟨wk, hyn, ⟨x.data.toList.length, ?_, by rw [ba_len]; exact Nat.le_refl _⟩, ⟨z.data.toList.length, ?_, by rw [ba_len]; exact Nat.le_refl _⟩⟩, fun j u hu => ?_⟩
    ·rw [hD]
     simp only [DataW.weights, Tryz.underlying72]
     refine List.mem_append_right _ (List.mem_append_left _ ?_)
     rw [hxd]
     simp [DataW.weights]
    ·rw [hD]
     simp only [DataW.weights, Tryz.underlying72]
     refine List.mem_append_right _ (List.mem_append_right _ (List.mem_append_left _ ?_))
     rw [hzd]
     simp [DataW.weights]
    ·match j, hu with
     | 0, hu => simp only [eO, List.getElem?_cons_zero, Option.some.injEq] at hu; subst hu; exact hat 0 (by omega)
     | 1, hu => simp only [eO, List.getElem?_cons_succ, List.getElem?_cons_zero, Option.some.injEq] at hu; subst hu; exact hat 1 (by omega)
     | 2, hu => simp only [eO, List.getElem?_cons_succ, List.getElem?_cons_zero, Option.some.injEq] at hu; subst hu; exact hat 2 (by omega)
     | 3, hu => simp only [eO, List.getElem?_cons_succ, List.getElem?_cons_zero, Option.some.injEq] at hu; subst hu; exact hat 3 (by omega)
     | j + 4, hu => simp [eO] at hu)
  unfold maxLen at hm
  refine ⟨l, hl2, by omega, fun q hq => ?_⟩
  obtain ⟨i, hil, h0, h1, ⟨n1, h2, h3⟩, n2, h4, h5⟩ := hl3 q hq
  have hmem : D i ∈ (List.range len0).map D := List.mem_map.2 ⟨i, List.mem_range.2 hil, rfl⟩
  refine ⟨h0, h1, ⟨n1, ?_, h3⟩, n2, ?_, h5⟩
  ·rw [hx1]; exact weights_elem Tryz.underlying25 hmem h2
  ·rw [hx1]; exact weights_elem Tryz.underlying25 hmem h4
end
end SP
end Go.Proofs.YtpdfcojcmhadnaaGreat

namespace Go.Proofs.YtpdfcojcmhadnaaGreat
open S3
namespace S4
open Go.ChangeShapes Go.WideShapes Go.ChangeAt Go.RowKit Go.Joins Go.Deep
theorem cells_int : Tryz.prog.cellsOf 3 = 1 := by kernel_rfl
theorem cellsSh : Tryz.prog.cellsOf 59 = 3 := by kernel_rfl
theorem cells_ints : Tryz.prog.cellsOf 30 = 1 := by kernel_rfl
section
variable {H : Type} {enc : TypeId × Value → H}
theorem ints_cells {w : World} {cs : List Value} {fuel : Nat} {x : DataW H × List MemPlace} (hf' : DataW.trod enc Tryz.prog w 0 (fun _ => true) true fuel 30 cs = some x) :
  ∃ (a : Option Addr) (l : List Int) (cap : Nat), cs = [.slice a l.length cap] ∧ Il w a cap l ∧ l.length ≤ 9223372036854775807 ∧ ∀ n ∈ l, (Lit.int .i64 n).wf = true := by
 rcases open_ints Tryz.underlying30 Tryz.underlying3 cells_int hf' with ⟨hcs, _⟩ | ⟨a, len, cap, zs, hcs, _, hl, hm, hz, _, hcell, hwf⟩
 ·exact ⟨none, [], 0, hcs, Il.nil w, Nat.zero_le _, fun n hn => by simp at hn⟩
 ·subst hcs
  simp only [if_true] at hz
  unfold maxLen at hm
  have hlen : (zs.take len).length = len := by rw [List.length_take]; omega
  refine ⟨some a, zs.take len, cap, by rw [hlen], ⟨(fun h => by cases h), fun hne => ?_⟩, by rw [hlen]; omega, fun n hn => hwf n (List.mem_of_mem_take hn)⟩
  have hpos : 0 < len := by
   rcases Nat.eq_zero_or_pos len with h | h
   ·subst h; simp at hne
   ·exact h
  obtain ⟨b, o, rfl, hb, hx⟩ := at_addr (n := zs.length) hcell (by omega)
  refine ⟨b, o, rfl, hb, fun j x hj => ?_⟩
  have hjl : j < len := by
   have := (List.getElem?_eq_some_iff.1 hj).1
   omega
  rw [List.getElem?_take_of_lt hjl] at hj
  rw [hx j (by omega)]
  obtain ⟨h, rfl⟩ := List.getElem?_eq_some_iff.1 hj
  simp [List.getD, h]
theorem open_shards {r : Reach} {b0 : Nat} {w : World} {v : Value} {d : DataW H} {p : List MemPlace} (hv : Value.okWide Tryz.prog w r b0 22 v) (h : DataW.Trod enc Tryz.prog w 0 (fun _ => true) true 22 v d p) :
  ∃ (a : Option Addr) (l : List Sh) (cap : Nat), v = .slice a l.length cap ∧ Hl w a l ∧ l.length ≤ 9223372036854775807 := by
 obtain ⟨a0, len0, cap0, rfl⟩ := okWide_slice Tryz.underlying22 hv
 obtain ⟨fuel, hf⟩ := h
 have hf' : DataW.trod enc Tryz.prog w 0 (fun _ => true) true fuel 22 [.slice a0 len0 cap0] = some (d, p) := by simpa [Value.cells] using hf
 rcases open_slice Tryz.underlying22 hf' with ⟨hcs, _⟩ | ⟨a, len, cap, m, n, D, Pl, hcs, _, hl, hm, hmm, hx, hi⟩
 ·simp only [List.cons.injEq, Value.slice.injEq, and_true] at hcs
  obtain ⟨rfl, rfl, rfl⟩ := hcs
  exact ⟨none, [], 0, rfl, ⟨fun s h => (by cases h), fun h => absurd rfl h⟩, Nat.zero_le _⟩
 ·simp only [List.cons.injEq, Value.slice.injEq, and_true] at hcs
  obtain ⟨rfl, rfl, rfl⟩ := hcs
  simp only [if_true] at hmm
  subst hmm
  have hone : ∀ i, i < len0 → ∃ q : Sh, w.cell? (a.add (i * 3)) = some (.string q.sp.1) ∧ w.cell? ((a.add (i * 3)).add 1) = some (.string q.sp.2) ∧ w.cell? ((a.add (i * 3)).add 2) = some (.slice q.na q.nodes.length q.nc) ∧ Il w q.na q.nc q.nodes := by
   intro i hlt
   obtain ⟨cs', hc, ht⟩ := hi i (by omega)
   rw [cellsSh] at hc
   obtain ⟨_, hlen, hat⟩ := World.cells?_some hc
   match cs', hlen with
   | [c0, c1, c2], _ =>
    obtain ⟨y0, y1, k, _, _, h0, h1⟩ := trod_struct2 Tryz.underlying59 ht
    have e0 : DataW.trod enc Tryz.prog w 0 (fun _ => true) true k 57 [c0, c1] = some y0 := by simpa [cellsSp] using h0
    have e1 : DataW.trod enc Tryz.prog w 0 (fun _ => true) true k 30 [c2] = some y1 := by simpa [cells_ints] using h1
    obtain ⟨z0, z1, k2, _, _, g0, g1⟩ := trod_struct2 Tryz.underlying57 e0
    have f0 : DataW.trod enc Tryz.prog w 0 (fun _ => true) true k2 9 [c0] = some z0 := by simpa [cells_str] using g0
    have f1 : DataW.trod enc Tryz.prog w 0 (fun _ => true) true k2 9 [c1] = some z1 := by simpa [cells_str] using g1
    obtain ⟨x, hx0, _, _⟩ := DataW.trod_string Tryz.underlying9 f0
    obtain ⟨y, hy0, _, _⟩ := DataW.trod_string Tryz.underlying9 f1
    obtain ⟨na, nl, nc, hn0, hn1, _⟩ := ints_cells e1
    simp only [List.cons.injEq, and_true] at hx0 hy0 hn0
    subst hx0 hy0 hn0
    exact ⟨⟨(x, y), na, nc, nl⟩, by simpa [Addr.add] using hat 0 (by omega), hat 1 (by omega), hat 2 (by omega), hn1⟩
  obtain ⟨f, hf2⟩ : ∃ f : Nat → Sh, ∀ i, i < len0 → w.cell? (a.add (i * 3)) = some (.string (f i).sp.1) ∧ w.cell? ((a.add (i * 3)).add 1) = some (.string (f i).sp.2) ∧ w.cell? ((a.add (i * 3)).add 2) = some (.slice (f i).na (f i).nodes.length (f i).nc) ∧ Il w (f i).na (f i).nc (f i).nodes :=
   ⟨fun i => if h : i < len0 then Classical.choose (hone i h) else ⟨(⟨#[]⟩, ⟨#[]⟩), none, 0, []⟩, fun i hlt => by simp only [hlt, dif_pos]; exact Classical.choose_spec (hone i hlt)⟩
  have hlen : ((List.range len0).map f).length = len0 := by simp
  have hat : ∀ (j : Nat) (s : Sh), ((List.range len0).map f)[j]? = some s → j < len0 ∧ s = f j := by
   intro j s hj
   have hjl : j < len0 := by
    have := (List.getElem?_eq_some_iff.1 hj).1
    simpa using this
   exact ⟨hjl, by simpa [List.getElem?_map, List.getElem?_range, hjl, eq_comm] using hj⟩
  unfold maxLen at hm
  refine ⟨some a, (List.range len0).map f, m, by rw [hlen], ⟨fun s hs => ?_, fun hne => ?_⟩, by rw [hlen]; omega⟩
  ·obtain ⟨j, hj, rfl⟩ := List.mem_iff_getElem.1 hs
   obtain ⟨hjl, e⟩ := hat j _ (List.getElem?_eq_getElem hj)
   rw [e]
   exact (hf2 j hjl).2.2.2
  ·have h0 : 0 < len0 := by
    rcases Nat.eq_zero_or_pos len0 with h | h
    ·subst h
     exact absurd rfl hne
    ·exact h
   have h00 := (hf2 0 h0).1
   have e : a.add (0 * 3) = a := by rw [Nat.zero_mul]; unfold Addr.add; split <;> simp_all
   rw [e] at h00
   obtain ⟨b, o, rfl⟩ := addr_plain h00
   refine ⟨b, o, rfl, World.block_lt_of_cell? _ _ h00, fun i s hi' => ?_⟩
   obtain ⟨hil, rfl⟩ := hat i s hi'
   obtain ⟨g0, g1, g2, _⟩ := hf2 i hil
   rw [Go.WideShapes.add_plain] at g0
   rw [Go.WideShapes.add_plain, Go.WideShapes.add_plain] at g1 g2
   exact ⟨g0, g1, g2⟩
end
end S4
end Go.Proofs.YtpdfcojcmhadnaaGreat
