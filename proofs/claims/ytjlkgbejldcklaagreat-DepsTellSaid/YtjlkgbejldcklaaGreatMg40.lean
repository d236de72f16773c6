/- The program's Merge of Deps. Conditions: at most a thousand Deps in all, a million stamps; shards of 64 bits, all behind some number. -/
import Derived.Lib.SlKeysI
import Derived.Maps.OwnSet
import Derived.Sort.MapsRangeIn
import Derived.Test.YtjlkgbejldcklaaGreatMg39
import Derived.Test.YtjlkgbejldcklaaGreatMg31
import Derived.Test.YtjlkgbejldcklaaGreatMg35
import Derived.Test.YtjlkgbejldcklaaGreatMg38
/- slices.Sorted of the keys of the map that Merge gathers in. Conditions: at most a million keys. -/
set_option linter.unusedVariables false
namespace Go.Proofs.YtjlkgbejldcklaaGreat
open S1
namespace SD
open Go.RowKit Go.Sort Go.Shelf Go.Maps
attribute [local go_sem] Oper.semAt_some

set_option maxRecDepth 100000 in
set_option maxHeartbeats 2000000 in
theorem keysL_stops (n : Nat) (hn : 1 ≤ n) (Bm b nn : Nat) (D0 : DataW Value) (w0 w : World) (hm : S3.Box1 w0 Bm 156 (.map (some b))) (hown : MapL w0 b nn D0) (hbel : Below w0.heap.size w0 w) :
    SeqStopsK Fence.wide n Tryz.prog 200 #[.pointer (some ⟨Bm, 0, none⟩)] (fun s : Int => #[.int .i64 s]) KeepsWalks (fun ss => ss.Perm (intKeys D0)) (fun _ => True) (Maps.size D0) w := by
  intro y J Jx W hW hJ hJx hY h0
  have hb0 := hbel.trans (hW.mono hbel.size)
  have hownW : W.ownsMap Tryz.prog 3 heldV b nn D0 := hown.later hb0 hown.lt
  have hc0 := cell_in hb0 hm.lt hm.c
  have hbl := Nat.lt_of_lt_of_le hm.lt hb0.size
  have HY := Lib.hid hY
  have HJ := Lib.hid hJ
  have HOWN := Lib.hid hownW
  clear hY hJ hJx hW hbel hm hown hb0 hownW
  refine callsIn_of_wp Tryz.func200 rfl trivial ?_ rfl
  simp only [Tryz.ntmps200, List.size_toArray, List.length_cons, List.length_nil, Nat.reduceAdd, Nat.reduceSub, Array.replicate_succ, Array.replicate_zero, List.push_toArray, List.append_toArray, List.nil_append, List.cons_append]
  gi_wp2_with (first
    | (gi_at_range; refine wpListIn_range_own _ rfl _ 156 rfl 3 157 lawI6 Tryz.underlying156 _ b nn _ rfl HOWN.out ?_; intro w0 hrg0 hg0 hs0)
    | gi_in)
  try go_frame
  gi_loopw [3] (fun _ wr => ∃ (left : Lit → Bool) (cnt : Nat) (ss : List Int), wr.ranges Tryz.prog 3 heldV b W.heap.size nn D0 left cnt ∧ ss.length + cnt ≤ Maps.size D0 ∧ CollectedI D0 left ss ∧ J ss wr)
    (fun _ wr => wr.rangeLeft b W.heap.size)
  case atStart =>
    exact ⟨_, _, [], hrg0, by simp, CollectedI.start D0, HJ.out [] W _ none h0 hg0 (fun r e => by cases e)⟩
  case round =>
    obtain ⟨left, cnt, ss, hrg, hcs, hC, hJs⟩ := hrel
    gi_wp2_with (first
      | (gi_at_next; refine wpListIn_next_ranges _ rfl _ rfl 3 lawI6 heldV encZ id (fun key kl hk => by obtain ⟨x, hx, _⟩ := Maps.keyOf_i64 Tryz.underlying3 hk; exact ⟨x, hx⟩) (fun v _ _ => ⟨v, rfl⟩) b W.heap.size nn _ _ _ rfl hrg ?_ ?_)
      | gi_in)
    · intro hc0 hl0
      gi_wp2
      go_end0
      exact ⟨⟨_, rfl⟩, .inl ⟨ss, hC.perm HOWN.out lawI6 Tryz.underlying3 hl0, hJs⟩⟩
    · intro x c kl yd yp w2 cnt2 hkey hlk hv hat hrg2 hlt hg2 hs2 hen
      obtain ⟨x', ex, rfl, _⟩ := Maps.keyOf_i64 Tryz.underlying3 hkey
      obtain rfl : x = x' := encZ_inj ex
      have hJ2 : J ss w2 := HJ.out ss wr w2 (some W.heap.size) hJs hg2 (fun r e => by cases e; exact ⟨Nat.le_refl _, hrg.iter_walk⟩)
      obtain ⟨fn, tmps, assign, body, hy, hR⟩ := HY.out ss x w2 hJ2 (by omega)
      clear hs2
      gi_wp2
      refine hR.mono ?_
      rintro e W3 (⟨rfl, hJ3, hk3⟩ | ⟨rfl, hJx3⟩)
      · gi_wp2
        have hrg3 := hrg2.of_walks hk3
        go_roundw
        case rel => exact ⟨_, cnt2, ss ++ [x], hrg3, by simp; omega, hC.step hlk hat, hJ3⟩
        case measure => rw [hrg3.left_eq, hrg.left_eq]; exact hlt
      · gi_wp2
        refine bodyPost_ret (results_none rfl _ _ _) rfl ?_
        exact ⟨⟨_, rfl⟩, .inr ⟨_, trivial, hJx3⟩⟩

set_option maxHeartbeats 1000000 in
theorem keysL_any (m : Option Nat) (w : World) : Calls Tryz.prog 110 #[.map m] w fun e w' => e = .returned (.func (.func 200) #[] #[.pointer (some ⟨w.heap.size, 0, none⟩)]) ∧ w' = w.alloc (.cells #[.map m] 156) := by
  go_enter Tryz.func110, Tryz.ntmps110
  go_wp2
  go_ret
  exact ⟨rfl, rfl⟩
/-- slices.Sorted(maps.Keys(m)), the iterator's box laid already. -/
theorem sortedKeysL_any (Bm b nn : Nat) (D : DataW Value) (w : World) (hlen : (intKeys D).length ≤ 1000000) (hn : Maps.size D ≤ 1000000) (hm : S3.Box1 w Bm 156 (.map (some b))) (hown : MapL w b nn D) :
    Calls Tryz.prog 109 #[.func (.func 200) #[] #[.pointer (some ⟨Bm, 0, none⟩)]] w fun e w' => ∃ v, e = .returned v ∧ S4.OwnI w' w.heap.size v (S5.sortL (intKeys D)) ∧ Below w.heap.size w w' := by
  refine (S5.sortedI_any _ (fun r => r.Perm (intKeys D)) w (fun r h => by rw [h.length_eq]; exact hlen) ?_).mono ?_
  · refine S5.appendSeqI_any KeepsWalks _ _ (enters_of Tryz.func200 (by kernel_rfl) rfl) (fun r => r.Perm (intKeys D)) (fun _ => True) (Maps.size D) (by omega) w walksK_t (fun w2 h2 W k o o' hk ho h3 h4 => walksK_b (w := w2) W k o o' hk ho h3 h4) (fun _ _ h _ => h.walks) ?_
    intro n w' hn hb
    exact keysL_stops n hn Bm b nn D w w' hm hown hb
  · rintro e w' ⟨v, r, rfl, hr, h1, h2⟩
    refine ⟨v, rfl, ?_, h2⟩
    rwa [show S5.sortL r = S5.sortL (intKeys D) from mergeSort_of_perm_i hr] at h1
/-- The keys, sorted: each that is there, once, in their order. -/
theorem keysL_facts {w : World} {b n : Nat} {D : DataW Value} (h : MapL w b n D) : (S5.sortL (intKeys D)).Pairwise (· < ·) ∧ (∀ s, s ∈ S5.sortL (intKeys D) ↔ Maps.has D (kS s) = true) ∧ (∀ s ∈ S5.sortL (intKeys D), (Lit.int .i64 s).wf = true) ∧ (intKeys D).length = Maps.size D := by
  have h2 : w.ownsMap Tryz.prog 3 heldV b n D := h
  obtain ⟨es, hD, hpw, _⟩ := World.ownsMap.entries h2 lawI6
  obtain ⟨es', hD', hko⟩ := World.ownsMap.keysOf h2
  obtain rfl : es = es' := by rw [hD] at hD'; simpa using hD'
  have hwf := intKeys_wf h2 Tryz.underlying3
  subst hD
  have hk : ∀ p ∈ es, ∃ x, p.1 = .int .i64 x := fun p hp => by
    obtain ⟨v, hv⟩ := hko p hp
    obtain ⟨x, _, hx, _⟩ := Maps.keyOf_i64 Tryz.underlying3 hv
    exact ⟨x, hx⟩
  have hnd : (intKeys (.map es)).Nodup := by
    show (es.map fun p => Go.intOf p.1).Nodup
    refine List.pairwise_map.2 (hpw.imp_of_mem fun {p q} hp' hq' hne e => hne ?_)
    obtain ⟨a, ha⟩ := hk p hp'
    obtain ⟨c, hc⟩ := hk q hq'
    rw [ha, hc] at e ⊢
    exact congrArg _ e
  have hmem : ∀ s, s ∈ intKeys (.map es) ↔ Maps.has (.map es) (kS s) = true := by
    intro s
    rw [Maps.has_eq, List.any_eq_true]
    show s ∈ es.map (fun p => Go.intOf p.1) ↔ _
    rw [List.mem_map]
    constructor
    · rintro ⟨p, hp', rfl⟩
      obtain ⟨a, ha⟩ := hk p hp'
      exact ⟨p, hp', by rw [ha]; simp [Lit.sameKey, Go.intOf, kS]⟩
    · rintro ⟨p, hp', hs⟩
      obtain ⟨a, ha⟩ := hk p hp'
      rw [ha] at hs
      exact ⟨p, hp', by rw [ha]; simpa [Lit.sameKey, Go.intOf, kS] using hs⟩
  refine ⟨S5.strict_of (S5.sortL_rises _) ((List.mergeSort_perm _ _).symm.nodup_iff.1 hnd), fun s => by rw [S5.sortL_mem, hmem], fun s hs => hwf s ((S5.sortL_mem _ _).1 hs), ?_⟩
  show (es.map fun p => Go.intOf p.1).length = es.length
  rw [List.length_map]

end SD
end Go.Proofs.YtjlkgbejldcklaaGreat

/- The program's Merge of Deps. Conditions: at most a thousand Deps in all, a million stamps; shards of 64 bits, all behind some number. -/
set_option linter.unusedVariables false
namespace Go.Proofs.YtjlkgbejldcklaaGreat
open S1
namespace SD
open Go.RowKit

abbrev DRow := Option Addr × List Dp × Nat
def drV (r : DRow) : Value := .slice r.1 r.2.1.length r.2.2
/-- Lists of Deps in memory. -/
def Dls (w : World) (A : Option Addr) (rs : List DRow) : Prop := (∀ r ∈ rs, Dl w r.1 r.2.1) ∧ (rs ≠ [] → ∃ g o, A = some ⟨g, o, none⟩ ∧ g < w.heap.size ∧ ∀ (i : Nat) r, rs[i]? = some r → w.cell? ⟨g, o + i, none⟩ = some (drV r))
theorem Dls.later {W wr : World} {A : Option Addr} {rs : List DRow} (h : Dls W A rs) (hw : Below W.heap.size W wr) : Dls wr A rs := by
  refine ⟨fun r hr => (h.1 r hr).later hw, fun hne => ?_⟩
  obtain ⟨g, o, ha, hg, hl⟩ := h.2 hne
  exact ⟨g, o, ha, Nat.lt_of_lt_of_le hg hw.size, fun i r hi => cell_in hw hg (hl i r hi)⟩
theorem Dls.at {w : World} {A : Option Addr} {rs : List DRow} (h : Dls w A rs) {k : Nat} {r : DRow} (hr : rs[k]? = some r) : ∃ g o, A = some ⟨g, o, none⟩ ∧ g < w.heap.size ∧ w.cell? ⟨g, o + k, none⟩ = some (drV r) ∧ Dl w r.1 r.2.1 := by
  have hne : rs ≠ [] := by rintro rfl; simp at hr
  obtain ⟨g, o, ha, hg, hl⟩ := h.2 hne
  exact ⟨g, o, ha, hg, hl k r hr, h.1 r (List.mem_of_getElem? hr)⟩
/-- All Deps, list by list. -/
def allR (rs : List DRow) : List Dp := rs.flatMap fun r => r.2.1
theorem allR_take {rs : List DRow} {k : Nat} {r : DRow} (h : rs[k]? = some r) : allR (rs.take (k + 1)) = allR (rs.take k) ++ r.2.1 := by
  unfold allR
  rw [List.take_add_one, h, List.flatMap_append]
  simp
theorem allR_split (rs : List DRow) (k : Nat) : allR rs = allR (rs.take k) ++ allR (rs.drop k) := by
  unfold allR
  rw [← List.flatMap_append, List.take_append_drop]
theorem allR_part {rs : List DRow} {k : Nat} {r : DRow} (h : rs[k]? = some r) {j : Nat} (hj : j ≤ r.2.1.length) : (allR (rs.take k) ++ r.2.1.take j).length ≤ (allR rs).length := by
  rw [allR_split rs (k + 1), allR_take h]
  simp only [List.length_append, List.length_take]
  omega
theorem mem_allR {rs : List DRow} {s : Dp} : s ∈ allR rs ↔ ∃ r ∈ rs, s ∈ r.2.1 := List.mem_flatMap
theorem take_snoc {l : List Dp} {j : Nat} {s : Dp} (h : l[j]? = some s) : l.take (j + 1) = l.take j ++ [s] := by
  rw [List.take_add_one, h]
  rfl
/-- One list that has just been laid. -/
theorem r_one {w0 W : World} {m : LRow} {b : Nat} (hb : b = w0.heap.size) (hW : W.heap = (w0.alloc (.cells #[lrV m] 24)).heap) : W.cell? ((⟨b, 0, none⟩ : Addr).add 0) = some (lrV m) := by
  have h := one_newR w0 m b hb.symm
  have e : W.cell? ((⟨b, 0, none⟩ : Addr).add 0) = (w0.alloc (.cells #[lrV m] 24)).cell? ((⟨b, 0, none⟩ : Addr).add 0) := by
    simp only [World.cell?, hW]
  rw [e]
  exact h
theorem gath_ids {L : List Dp} {t : Int} {i : Int × Int} : i ∈ allL (gath L t) ↔ ∃ s ∈ L, s.sh = t ∧ i ∈ s.ids := by
  unfold allL gath
  rw [List.mem_flatMap]
  constructor
  · rintro ⟨r, hr, hi⟩
    obtain ⟨s, hs, rfl⟩ := List.mem_map.1 hr
    obtain ⟨h1, h2⟩ := List.mem_filter.1 hs
    exact ⟨s, h1, by simpa using h2, hi⟩
  · rintro ⟨s, hs, h1, hi⟩
    exact ⟨s.lr, List.mem_map.2 ⟨s, List.mem_filter.2 ⟨hs, by simpa using h1⟩, rfl⟩, hi⟩
theorem gath_ne {L : List Dp} {t : Int} : gath L t ≠ [] ↔ ∃ s ∈ L, s.sh = t := by
  unfold gath
  constructor
  · intro h
    obtain ⟨r, hr⟩ := List.exists_mem_of_ne_nil _ h
    obtain ⟨s, hs, _⟩ := List.mem_map.1 hr
    obtain ⟨h1, h2⟩ := List.mem_filter.1 hs
    exact ⟨s, h1, by simpa using h2⟩
  · rintro ⟨s, hs, h1⟩ e
    have : s.lr ∈ (L.filter fun x => x.sh == t).map Dp.lr := List.mem_map.2 ⟨s, List.mem_filter.2 ⟨hs, by simpa using h1⟩, rfl⟩
    rw [e] at this
    cases this
theorem gath_alen (L : List Dp) (t : Int) : (allL (gath L t)).length ≤ idsN (toD L) := by
  unfold allL gath idsN toD
  induction L with
  | nil => exact Nat.le_refl _
  | cons x r ih =>
    rw [List.filter_cons]
    by_cases h : x.sh == t
    · rw [if_pos h]
      simp only [List.map_cons, List.flatMap_cons, List.length_append, List.sum_cons]
      exact Nat.add_le_add (Nat.le_refl _) ih
    · rw [if_neg h]
      simp only [List.map_cons, List.sum_cons]
      exact Nat.le_trans ih (Nat.le_add_left _ _)
theorem flat_toD (rs : List DRow) : (rs.map fun r => toD r.2.1).flatten = toD (allR rs) := by
  unfold toD allR
  rw [List.map_flatMap]
  rfl
/-- What has been gathered, shard by shard, is what the document calls merged. -/
theorem gath_merged {rs : List DRow} {p : Int} (hp : ∀ s ∈ allR rs, p < s.sh) {K : List Int} (hK : K.Pairwise (· < ·)) (hm : ∀ t, t ∈ K ↔ gath (allR rs) t ≠ []) :
    (K.map fun t => (t, sortL (allL (gath (allR rs) t)))) = mergeD (rs.map fun r => toD r.2.1) := by
  refine mergeD_of (p := p) (fun d hd x hx => ?_) hK (fun t => ?_) (fun t i _ => ?_)
  · obtain ⟨r, hr, rfl⟩ := List.mem_map.1 hd
    obtain ⟨s, hs, rfl⟩ := List.mem_map.1 hx
    exact hp s (mem_allR.2 ⟨r, hr, hs⟩)
  · rw [hm, gath_ne, flat_toD]
    constructor
    · rintro ⟨s, hs, h⟩
      exact ⟨s.d, List.mem_map.2 ⟨s, hs, rfl⟩, h⟩
    · rintro ⟨x, hx, h⟩
      obtain ⟨s, hs, rfl⟩ := List.mem_map.1 hx
      exact ⟨s, hs, h⟩
  · rw [gath_ids, flat_toD]
    constructor
    · rintro ⟨s, hs, h, hi⟩
      exact ⟨s.d, List.mem_map.2 ⟨s, hs, rfl⟩, h, hi⟩
    · rintro ⟨x, hx, h, hi⟩
      obtain ⟨s, hs, rfl⟩ := List.mem_map.1 hx
      exact ⟨s, hs, h, hi⟩

theorem cell_kept {W X w7 : World} {b i : Nat} {v : Value} {g : Option Nat} (hc : W.cell? ⟨b, i, none⟩ = some v) (hb : b < W.heap.size) (h2 : X.grownBy w7 g) (hg : ∀ k, g = some k → k < b) (hX : Below W.heap.size W X) : w7.cell? ⟨b, i, none⟩ = some v :=
  (World.cell?_of_block (w := X) (h2.block b (Nat.lt_of_lt_of_le hb hX.size) (fun e => by have := hg b e.symm; omega))).trans (cell_in hX hb hc)
theorem size_kept {W X w7 : World} {b : Nat} {g : Option Nat} (hb : b < W.heap.size) (h2 : X.grownBy w7 g) (hX : Below W.heap.size W X) : b < w7.heap.size := Nat.lt_of_lt_of_le hb (Nat.le_trans hX.size h2.size)
/-- One list more, in memory: put to its row, and the map told of it. -/
theorem Inv.step {w W X w2 : World} {bm n : Nat} {D : DataW Value} {L : List Dp} {m : Dp} {v' : Value} (h : Inv W w.heap.size bm n D L) (hw : Below w.heap.size w W) (hbm : w.heap.size ≤ bm) (hs : (Lit.int .i64 m.sh).wf = true) (hn : n < 4000000)
    (h1 : OwnR w2 w.heap.size v' (gath L m.sh ++ [m.lr])) (h2 : X.grownBy w2 (vAt D m.sh).ownBlock) (h3 : v'.ownBlock = (vAt D m.sh).ownBlock ∨ v'.ownBlock = some X.heap.size) (hX : Below W.heap.size W X) :
    ∃ w9, (Instr.mapUpdate 156 (.map (some bm)) (.int .i64 m.sh) v').run Tryz.prog w2 = .ok () w9 ∧ Inv w9 w.heap.size bm (n + 1) (D.put (kS m.sh) (.held v')) (L ++ [m]) ∧ Below w.heap.size w w9 ∧ ∀ b i, b < w2.heap.size → b ≠ bm → w9.cell? ⟨b, i, none⟩ = w2.cell? ⟨b, i, none⟩ := by
  have hi := h.later hX
  have hb := hw.trans (hX.mono hw.size)
  have hm2 : MapL w2 bm n D := World.ownsMap.kept hi.map h2 (fun e => row_not_map (hi.row m.sh) hi.map e.symm)
  have hb2 : Below w.heap.size w w2 := grown_belowR hb (hi.row m.sh) (Nat.le_refl _) hb.size h2
  obtain ⟨w9, hup, h4, h5⟩ := mapL_upd hm2 hs hn v'
  exact ⟨w9, hup, hi.push h1 h2 h3 h4 h5, hb2.grown h5 hb2.size (fun k hk => by cases hk; exact hbm), fun b i hb hne => World.cell?_of_block (w := w2) (h5.block b hb (fun e => hne (Option.some.inj e)))⟩

set_option maxRecDepth 100000 in
set_option maxHeartbeats 4000000 in
theorem pmerge_any (A : Option Addr) (cp : Nat) (rs : List DRow) (p : Int) (w : World) (hlen : (allR rs).length ≤ 1000) (hrl : rs.length ≤ 1000000) (hn : idsN (toD (allR rs)) ≤ 1000000) (hp : ∀ s ∈ allR rs, p < s.sh) (hwf : ∀ s ∈ allR rs, (Lit.int .i64 s.sh).wf = true) (hl : Dls w A rs) :
    Calls Tryz.prog 25 #[.slice A rs.length cp] w (RetD w (mergeD (rs.map fun r => toD r.2.1))) := by
  have HL := Lib.hid hl
  have HNN := Lib.hid hn
  have HP := Lib.hid hp
  have HWF := Lib.hid hwf
  have hmm := @run_makeMap Tryz.prog
  have hB0 : Hid (Below w.heap.size w (w.alloc (.map #[] 0))) := (Below.refl _ _).alloc (Nat.le_refl _) _
  have hI0 : Hid (Inv (w.alloc (.map #[] 0)) w.heap.size w.heap.size 0 (.map []) []) := inv_new w _
  clear hl hn hp hwf
  go_enter Tryz.func25, Tryz.ntmps25
  go_wp2
  generalize w.alloc (.map #[] 0) = w1 at *
  go_loopw [14] (fun i wr => ∃ (k : Nat) (D : DataW Value), k ≤ rs.length ∧ i = .int .i64 k ∧ Inv wr w.heap.size w.heap.size (allR (rs.take k)).length D (allR (rs.take k)) ∧ Below w.heap.size w wr) (fun i _ => rs.length - (intOf i).toNat)
  case atStart => exact ⟨0, _, Nat.zero_le _, rfl, hI0.out, hB0.out⟩
  case round =>
    clear hI0 hB0
    obtain ⟨k, D, hk, rfl, hinv, hb⟩ := hrel
    have HB := Lib.hid hb
    have HINV := Lib.hid hinv
    clear hb hinv
    by_cases hlt : k < rs.length
    · obtain ⟨r, hr⟩ : ∃ r, rs[k]? = some r := ⟨_, List.getElem?_eq_getElem hlt⟩
      obtain ⟨g, o, rfl, hg, hc, hd⟩ := (HL.out.later HB.out).at hr
      have hk1 : (k : Int) < (rs.length : Int) := by omega
      have hk0 : (0 : Int) ≤ (k : Int) := by omega
      have hdk : decide ((k : Int) < (rs.length : Int)) = true := decide_eq_true hk1
      have HR := Lib.hid hr
      have HDD := Lib.hid ((HL.out.1 r (List.mem_of_getElem? hr)))
      clear hr hd
      obtain ⟨ra, rl, rc⟩ := r
      unfold drV at hc
      simp only at hc HDD
      have hrl2 : rl.length ≤ 1000 := by
        have := allR_part HR.out (j := rl.length) (Nat.le_refl _)
        simp only [List.length_append, List.take_length] at this
        omega
      go_wp2
      go_loopw [20] (fun i wr => ∃ (j : Nat) (D : DataW Value), j ≤ rl.length ∧ i = .int .i64 j ∧ Inv wr w.heap.size w.heap.size (allR (rs.take k) ++ rl.take j).length D (allR (rs.take k) ++ rl.take j) ∧ Below w.heap.size w wr) (fun i _ => rl.length - (intOf i).toNat)
      case atStart => exact ⟨0, D, Nat.zero_le _, rfl, by rw [List.take_zero, List.append_nil]; exact HINV.out, HB.out⟩
      case round =>
        clear HB HINV hg hc D
        obtain ⟨j, D, hj, rfl, hinv, hb⟩ := hrel
        have HB := Lib.hid hb
        have HINV := Lib.hid hinv
        clear hb hinv
        by_cases hjl : j < rl.length
        · obtain ⟨s, hs⟩ := at_ltD hjl
          obtain ⟨b, o2, rfl, hbg, hx, hy, hi⟩ := (HDD.out.later HB.out).at hs
          have hj1 : (j : Int) < (rl.length : Int) := by omega
          have hj0 : (0 : Int) ≤ (j : Int) := by omega
          have hdj : decide ((j : Int) < (rl.length : Int)) = true := decide_eq_true hj1
          have HSW := Lib.hid (HWF.out s (mem_allR.2 ⟨_, List.mem_of_getElem? HR.out, List.mem_of_getElem? hs⟩))
          have HLL := Lib.hid (allR_part HR.out (j := j) hj)
          have HT : Hid (allR (rs.take k) ++ rl.take (j + 1) = (allR (rs.take k) ++ rl.take j) ++ [s]) := by
            show _ = _
            rw [take_snoc hs, List.append_assoc]
          have HTL : Hid ((allR (rs.take k) ++ rl.take (j + 1)).length = (allR (rs.take k) ++ rl.take j).length + 1) := by
            show _ = _
            rw [HT.out, List.length_append]
            rfl
          unfold ilD at hy
          clear hs hi
          generalize hL2 : allR (rs.take k) ++ rl.take (j + 1) = L2 at *
          have HE2 := Lib.hid hL2
          clear hL2
          generalize hLc : allR (rs.take k) ++ rl.take j = Lc at *
          clear hLc
          have HGL := Lib.hid (gath_len Lc s.sh)
          go_wp2
          have hNB := dep_new wr (.int .i64 s.sh) (.slice s.ia s.ids.length s.ic)
          have hB2 : Below wr.heap.size wr (wr.alloc (.cells #[.int .i64 s.sh, .slice s.ia s.ids.length s.ic] 26)) := blAlloc (Below.refl _ _) _
          have hsz2 : wr.heap.size < (wr.alloc (.cells #[.int .i64 s.sh, .slice s.ia s.ids.length s.ic] 26)).heap.size := by simp
          generalize wr.alloc (.cells #[.int .i64 s.sh, .slice s.ia s.ids.length s.ic] 26) = W at *
          obtain ⟨hx2, hy2⟩ := hNB
          have HI2 := Lib.hid (HINV.out.later hB2)
          have HNE : Hid (wr.heap.size ≠ w.heap.size) := Nat.ne_of_gt HINV.out.map.lt
          have HBK := Lib.hid (fun k hk => ((HINV.out.row s.sh).block k hk).2)
          have HBW := Lib.hid (blThen HB.out hB2)
          clear hB2 hx hy HINV
          have hlk1 : (Instr.lookup 156 (.map (some w.heap.size)) (.int .i64 s.sh) false).run Tryz.prog W.drew = .ok (vAt D s.sh) W.drew := mapL_look (w := W.drew) (show MapL W.drew _ _ _ from HI2.out.map) HSW.out
          have hlk2 : (Instr.lookup 156 (.map (some w.heap.size)) (.int .i64 s.sh) false).run Tryz.prog (W.alloc (.cells #[.slice s.ia s.ids.length s.ic] 24)).drew = .ok (vAt D s.sh) (W.alloc (.cells #[.slice s.ia s.ids.length s.ic] 24)).drew := mapL_look (w := (W.alloc _).drew) (World.ownsMap.drew (World.ownsMap.alloc HI2.out.map _)) HSW.out
          go_region_held3 (fun w' => w'.cell? ⟨wr.heap.size, 0, none⟩ = some (.int .i64 s.sh) ∧ w'.cell? ⟨wr.heap.size, 1, none⟩ = some (.slice s.ia s.ids.length s.ic)) (first | exact ⟨hx9, hy9⟩ | exact ⟨hx7, hy7⟩ | go_keep) (go_must ((refine step_r rfl (.tmp 30) (.tmp 33) rfl w.heap.size (v := vAt D s.sh) (d := gath Lc s.sh) (ad := ⟨W.heap.size, 0, none⟩) (cap := 1) (m := s.lr) (by simp [Act.eval]) (by simp [Act.eval]) ((HI2.out.row s.sh).later (by repeat (first | with_reducible exact Below.refl _ _ | with_reducible refine blAlloc ?_ _ | with_reducible refine Below.drew ?_))) (r_one (w0 := W) rfl rfl) (by have := HGL.out; have := HLL.out; omega) (by have := HBW.out.size; simp; omega) ?_); intro v7 w7 h1 h2 h3; have hx7 := cell_kept hx2 hsz2 h2 HBK.out (by repeat (first | with_reducible exact Below.refl _ _ | with_reducible refine blAlloc ?_ _ | with_reducible refine Below.drew ?_)); have hy7 := cell_kept hy2 hsz2 h2 HBK.out (by repeat (first | with_reducible exact Below.refl _ _ | with_reducible refine blAlloc ?_ _ | with_reducible refine Below.drew ?_)); have hs7 := size_kept hsz2 h2 (by repeat (first | with_reducible exact Below.refl _ _ | with_reducible refine blAlloc ?_ _ | with_reducible refine Below.drew ?_)); obtain ⟨w9, hup, h4, h5, h6⟩ := Inv.step HI2.out HBW.out (Nat.le_refl _) HSW.out (by have := HLL.out; omega) h1 h2 h3 (by repeat (first | with_reducible exact Below.refl _ _ | with_reducible refine blAlloc ?_ _ | with_reducible refine Below.drew ?_)); have HIN := Lib.hid h4; have HB9 := Lib.hid h5; have hx9 := h6 _ 0 hs7 HNE.out; have hy9 := h6 _ 1 hs7 HNE.out; rw [hx7] at hx9; rw [hy7] at hy9; clear h1 h2 h3 h4 h5 h6))
          all_goals
            go_wp2
            go_roundw
            case rel => exact ⟨j + 1, _, hjl, by go_num, by rw [HE2.out, HTL.out, HT.out]; exact HIN.out, HB9.out⟩
            case measure => simp [intOf]; omega
        · have hge : ¬ (j : Int) < (rl.length : Int) := by omega
          have hdj : decide ((j : Int) < (rl.length : Int)) = false := decide_eq_false hge
          have HIE : Hid (Inv wr w.heap.size w.heap.size (allR (rs.take (k + 1))).length D (allR (rs.take (k + 1)))) := by
            have h := HINV.out
            rw [show rl.take j = rl from List.take_of_length_le (by omega)] at h
            rw [show allR (rs.take (k + 1)) = allR (rs.take k) ++ rl from allR_take HR.out]
            exact h
          go_wp2
          go_roundw
          case rel => exact ⟨k + 1, D, hlt, by go_num, HIE.out, HB.out⟩
          case measure => simp [intOf]; omega
    · have hge : ¬ (k : Int) < (rs.length : Int) := by omega
      have hdk : decide ((k : Int) < (rs.length : Int)) = false := decide_eq_false hge
      have HI : Hid (Inv wr w.heap.size w.heap.size (allR rs).length D (allR rs)) := by
        have h := HINV.out
        rwa [List.take_of_length_le (by omega)] at h
      clear HINV
      obtain ⟨hK1, hK2, hK3, hK4⟩ := keysL_facts HI.out.map
      have hsz := World.ownsMap.size_le HI.out.map
      have HMG := Lib.hid (gath_merged HP.out hK1 (fun t => by rw [hK2, HI.out.key]))
      have HKN := Lib.hid (fun t (ht : t ∈ S5.sortL (intKeys D)) => (HI.out.key t).1 ((hK2 t).1 ht))
      have HKW := Lib.hid hK3
      have HKL : Hid ((S5.sortL (intKeys D)).length ≤ 1000) := by
        show _ ≤ _
        rw [S5.sortL_length, hK4]
        omega
      have HKL2 : Hid ((intKeys D).length ≤ 1000000) := by
        show _ ≤ _
        rw [hK4]
        omega
      have HSZ : Hid (Maps.size D ≤ 1000000) := by
        show _ ≤ _
        omega
      clear hK1 hK2 hK3 hK4 hsz
      go_wp2_with (first
        | (go_at_call 110; refine (keysL_any (some w.heap.size) _).mono ?_; rintro e w3 ⟨rfl, rfl⟩)
        | (go_at_call 109; refine (sortedKeysL_any wr.heap.size w.heap.size _ D _ HKL2.out HSZ.out (S3.box1_new _ _ _) (HI.out.map.later (blAlloc (Below.refl _ _) _) HI.out.map.lt)).mono ?_; rintro e w4 ⟨kv, rfl, h1, h2⟩; have HO4 := Lib.hid h1; have HB4 : Hid (Below wr.heap.size wr w4) := blThen (blAlloc (Below.refl _ _) _) h2; obtain ⟨ka, kc, rfl, h3⟩ := h1.il; have HIL := Lib.hid h3; clear h1 h2 h3))
      generalize S5.sortL (intKeys D) = K at *
      have HI4 := Lib.hid (HI.out.later HB4.out)
      have HBW4 := Lib.hid (blThen HB.out HB4.out)
      clear HI HB HO4 HKL2 HSZ
      go_loopw [8, 41] (fun v i wq => ∃ (m : Nat) (F : List Dp), m ≤ K.length ∧ i = .int .i64 m ∧ toD F = (K.take m).map (fun t => (t, sortL (allL (gath (allR rs) t)))) ∧ OwnD wq w4.heap.size v F ∧ HasG wq v F ∧ Below w4.heap.size w4 wq) (fun _ i _ => K.length - (intOf i).toNat)
      case atStart => exact ⟨0, [], Nat.zero_le _, rfl, rfl, OwnD.nil _ _, HasG.nil _ _, Below.refl _ _⟩
      case round =>
        obtain ⟨m, F, hm, rfl, hF, ho, hg, hb⟩ := hrel
        have HB := Lib.hid hb
        have HO := Lib.hid ho
        have HG := Lib.hid hg
        have HFE := Lib.hid hF
        obtain ⟨av, cv, rfl, _⟩ := ho.row
        clear hb ho hg hF
        by_cases hml : m < K.length
        · obtain ⟨t, ht⟩ : ∃ t, K[m]? = some t := ⟨_, List.getElem?_eq_getElem hml⟩
          obtain ⟨g, o, rfl, hg, hc⟩ := HIL.out.at ht
          have hcw := cell_in HB.out hg hc
          have hgw := Nat.lt_of_lt_of_le hg HB.out.size
          have hm1 : (m : Int) < (K.length : Int) := by omega
          have hm0 : (0 : Int) ≤ (m : Int) := by omega
          have hm3 : m < 1000 := by have := HKL.out; omega
          have hdm : decide ((m : Int) < (K.length : Int)) = true := decide_eq_true hm1
          have htK := List.mem_of_getElem? ht
          have HIW := HI4.out.later HB.out
          have hlk := mapL_look HIW.map (HKW.out t htK)
          obtain ⟨rg, rcap, hrv, hrc, hrg, hll⟩ := (HIW.row t).ll (HKN.out t htK) (fun r hr => by
            unfold gath at hr
            obtain ⟨s, hs, rfl⟩ := List.mem_map.1 hr
            obtain ⟨r, hr, hs⟩ := mem_allR.1 (List.mem_filter.1 hs).1
            exact ((((HL.out.later HBW4.out).later HB.out).1 r hr).1 s hs).lr)
          rw [hrv] at hlk
          have HLL := Lib.hid hll
          have HRC := Lib.hid hrc
          have HG1 : Hid (1 ≤ (gath (allR rs) t).length) := by
            show 1 ≤ _
            exact List.length_pos_iff.2 (HKN.out t htK)
          have HG2 : Hid ((gath (allR rs) t).length ≤ 1000) := by
            show _ ≤ _
            have := gath_len (allR rs) t
            omega
          have HG3 : Hid ((allL (gath (allR rs) t)).length ≤ 1000000) := Nat.le_trans (gath_alen _ _) HNN.out
          have HFT : Hid ((K.take (m + 1)).map (fun t => (t, sortL (allL (gath (allR rs) t)))) = (K.take m).map (fun t => (t, sortL (allL (gath (allR rs) t)))) ++ [(t, sortL (allL (gath (allR rs) t)))]) := by
            show _ = _
            rw [List.take_add_one, ht, List.map_append]
            rfl
          have HFL : Hid (F.length ≤ 1000000) := by
            have h := congrArg List.length HFE.out
            rw [toD_length, List.length_map, List.length_take] at h
            have := HKL.out
            show _ ≤ _
            omega
          clear hg hc hll hrc ht htK hrv HIW
          generalize gath (allR rs) t = G at *
          go_wp2_with (first
            | (go_at_call 111; refine (mergeA_any rg 0 rcap G _ HG1.out HRC.out hrg HG2.out HG3.out HLL.out).mono ?_; rintro e w6 ⟨xa, xc, rfl, h1, h2, h3, h4, _, h5⟩; have HB6 := Lib.hid h5; have HM1 := Lib.hid h1; have HM2 := Lib.hid h2; have HMV := Lib.hid (apart_g HO.out h1 h3 (Nat.le_refl _)); have HM4 := Lib.hid h4; clear h1 h2 h3 h4 h5)
            | (at_builtin; go_must (refine append_dp1 rfl (.tmp 45) (.tmp 52) rfl w4.heap.size (v := .slice av F.length cv) (d := F) (ad := ⟨w6.heap.size, 0, none⟩) (cap := 1) (m := ⟨t, xa, xc, sortL (allL G)⟩) rfl rfl (HO.out.later (by repeat (first | with_reducible exact HB6.out | with_reducible refine blAlloc ?_ _))) (dp_one (w0 := w6) rfl rfl) HFL.out (by have := HB.out.size; have := HB6.out.size; simp; omega) ?_; intro v' w' h1 h2 h3; have HO7 := Lib.hid h1; have HG7 := Lib.hid ((HG.out.later (by repeat (first | with_reducible exact HB6.out | with_reducible refine blAlloc ?_ _))).push (m := ⟨t, xa, xc, sortL (allL G)⟩) (show IdsAt _ _ from ⟨HM1.out.later (blAlloc (Below.refl _ _) _), HM2.out, HM4.out⟩) HMV.out h2 h3); have HB7 := Lib.hid (grown_belowD (x := w4) (HB.out.trans ((show Below wr.heap.size wr _ from (by repeat (first | with_reducible exact HB6.out | with_reducible refine blAlloc ?_ _))).mono HB.out.size)) (HO.out.later (by repeat (first | with_reducible exact HB6.out | with_reducible refine blAlloc ?_ _))) (Nat.le_refl _) (by have := HB.out.size; have := HB6.out.size; simp; omega) h2); clear h1 h2 h3)))
          go_roundw
          case rel => exact ⟨m + 1, _, hml, by go_num, by rw [HFT.out, ← HFE.out]; unfold toD; rw [List.map_append]; rfl, HO7.out, HG7.out, HB7.out⟩
          case measure => simp [intOf]; omega
        · have hge2 : ¬ (m : Int) < (K.length : Int) := by omega
          have hdm : decide ((m : Int) < (K.length : Int)) = false := decide_eq_false hge2
          have HFF : Hid (toD F = mergeD (rs.map fun r => toD r.2.1)) := by
            have h := HFE.out
            rw [show K.take m = K from List.take_of_length_le (by omega)] at h
            exact h.trans HMG.out
          go_wp2
          go_ret
          obtain ⟨a2, c2, hv, h1, h2, h3⟩ := HO.out.dl fun s hs => (HG.out s hs).1
          exact ⟨a2, c2, F, by rw [← hv]; rfl, HFF.out, h3, h1, h2, blThen HBW4.out HB.out⟩

end SD
end Go.Proofs.YtjlkgbejldcklaaGreat
