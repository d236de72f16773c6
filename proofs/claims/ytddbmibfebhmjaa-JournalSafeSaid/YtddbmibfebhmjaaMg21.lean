/- slices.Sorted of the keys of the map of tracks; Files. Conditions: none. -/
import Derived.Lib.SlKeysI
import Derived.Maps.OwnSet
import Derived.Sort.MapsRangeIn
import Derived.Test.YtddbmibfebhmjaaMg20
import Derived.Test.YtddbmibfebhmjaaMg18
set_option maxRecDepth 100000
set_option maxHeartbeats 16000000
set_option linter.unusedVariables false
namespace Go.Proofs.Ytddbmibfebhmjaa
open S2
namespace SZ
open Go.RowKit Go.Sort Go.Shelf Go.Maps
attribute [local go_sem] Oper.semAt_some
theorem MapT.later {B : Nat} {w wr : World} {b n : Nat} {D : DataW Value} (h : MapT w b n D) (hw : Below B w wr) (hb : b < B) : MapT wr b n D := h.of (hw.block b hb)
theorem keysT_stops (n : Nat) (hn : 1 ≤ n) (Bm b nn : Nat) (D0 : DataW Value) (w0 w : World) (hm : S3.Box1 w0 Bm 71 (.map (some b))) (hown : MapT w0 b nn D0) (hbel : Below w0.heap.size w0 w) :
  SeqStopsK Fence.wide n Try.prog 75 #[.pointer (some ⟨Bm, 0, none⟩)] (fun s : Int => #[.int .i64 s]) KeepsWalks (fun ss => ss.Perm (intKeys D0)) (fun _ => True) (Maps.size D0) w := by
 intro y J Jx W hW hJ hJx hY h0
 have hb0 := hbel.trans (hW.mono hbel.size)
 have hownW : W.ownsMap Try.prog 3 ptrV b nn D0 := hown.later hb0 hown.lt
 have hc0 := S3.cell_in hb0 hm.lt hm.c
 have hbl := Nat.lt_of_lt_of_le hm.lt hb0.size
 have HY := Lib.hid hY
 have HJ := Lib.hid hJ
 have HOWN := Lib.hid hownW
 clear hY hJ hJx hW hbel hm hown hb0 hownW
 refine callsIn_of_wp Try.func75 rfl trivial ?_ rfl
 simp only [Try.ntmps75, List.size_toArray, List.length_cons, List.length_nil, Nat.reduceAdd, Nat.reduceSub, Array.replicate_succ, Array.replicate_zero, List.push_toArray, List.append_toArray, List.nil_append, List.cons_append]
 gi_wp2_with (first
  | (gi_at_range; refine wpListIn_range_own _ rfl _ 71 rfl 3 77 lawZ Try.underlying71 _ b nn _ rfl HOWN.out ?_; intro w0 hrg0 hg0 hs0)
  | gi_in)
 try go_frame
 gi_loopw [3] (fun _ wr => ∃ (left : Lit → Bool) (cnt : Nat) (ss : List Int), wr.ranges Try.prog 3 ptrV b W.heap.size nn D0 left cnt ∧ ss.length + cnt ≤ Maps.size D0 ∧ CollectedI D0 left ss ∧ J ss wr)
  (fun _ wr => wr.rangeLeft b W.heap.size)
 case atStart =>
  exact ⟨_, _, [], hrg0, by simp, CollectedI.start D0, HJ.out [] W _ none h0 hg0 (fun r e => by cases e)⟩
 case round =>
  obtain ⟨left, cnt, ss, hrg, hcs, hC, hJs⟩ := hrel
  gi_wp2_with (first
   | (gi_at_next; refine wpListIn_next_ranges _ rfl _ rfl 3 lawZ ptrV encZ id (fun key kl hk => by obtain ⟨x, hx, _⟩ := Maps.keyOf_i64 Try.underlying3 hk; exact ⟨x, hx⟩) (fun v _ _ => ⟨v, rfl⟩) b W.heap.size nn _ _ _ rfl hrg ?_ ?_)
   | gi_in)
  ·intro hc0 hl0
   gi_wp2
   go_end0
   exact ⟨⟨_, rfl⟩, .inl ⟨ss, hC.perm HOWN.out lawZ Try.underlying3 hl0, hJs⟩⟩
  ·intro x c kl yd yp w2 cnt2 hkey hlk hv hat hrg2 hlt hg2 hs2 hen
   obtain ⟨x', ex, rfl, _⟩ := Maps.keyOf_i64 Try.underlying3 hkey
   obtain rfl : x = x' := encZ_inj ex
   have hJ2 : J ss w2 := HJ.out ss wr w2 (some W.heap.size) hJs hg2 (fun r e => by cases e; exact ⟨Nat.le_refl _, hrg.iter_walk⟩)
   obtain ⟨fn, tmps, assign, body, hy, hR⟩ := HY.out ss x w2 hJ2 (by omega)
   clear hs2
   gi_wp2
   refine hR.mono ?_
   rintro e W3 (⟨rfl, hJ3, hk3⟩ | ⟨rfl, hJx3⟩)
   ·gi_wp2
    have hrg3 := hrg2.of_walks hk3
    go_roundw
    case rel => exact ⟨_, cnt2, ss ++ [x], hrg3, by simp; omega, hC.step hlk hat, hJ3⟩
    case measure => rw [hrg3.left_eq, hrg.left_eq]; exact hlt
   ·gi_wp2
    refine bodyPost_ret (results_none rfl _ _ _) rfl ?_
    exact ⟨⟨_, rfl⟩, .inr ⟨_, trivial, hJx3⟩⟩
theorem keysT_any (m : Option Nat) (w : World) : Calls Try.prog 62 #[.map m] w fun e w' => e = .returned (.func (.func 75) #[] #[.pointer (some ⟨w.heap.size, 0, none⟩)]) ∧ w' = w.alloc (.cells #[.map m] 71) := by
 go_enter Try.func62, Try.ntmps62
 go_wp2
 go_ret
 exact ⟨rfl, rfl⟩
theorem sortedKeysT_any (Bm b nn : Nat) (D : DataW Value) (w : World) (hlen : (intKeys D).length ≤ 1000000) (hn : Maps.size D ≤ 1000000) (hm : S3.Box1 w Bm 71 (.map (some b))) (hown : MapT w b nn D) :
  Calls Try.prog 61 #[.func (.func 75) #[] #[.pointer (some ⟨Bm, 0, none⟩)]] w fun e w' => ∃ v, e = .returned v ∧ S4.OwnI w' w.heap.size v (S5.sortL (intKeys D)) ∧ Below w.heap.size w w' := by
 refine (S5.sortedI_any _ (fun r => r.Perm (intKeys D)) w (fun r h => by rw [h.length_eq]; exact hlen) ?_).mono ?_
 ·refine S5.appendSeqI_any KeepsWalks _ _ (enters_of Try.func75 (by kernel_rfl) rfl) (fun r => r.Perm (intKeys D)) (fun _ => True) (Maps.size D) (by omega) w walksK_t (fun w2 h2 W k o o' hk ho h3 h4 => walksK_b (w := w2) W k o o' hk ho h3 h4) (fun _ _ h _ => h.walks) ?_
  intro n w' hn hb
  exact keysT_stops n hn Bm b nn D w w' hm hown hb
 ·rintro e w' ⟨v, r, rfl, hr, h1, h2⟩
  refine ⟨v, rfl, ?_, h2⟩
  rwa [show S5.sortL r = S5.sortL (intKeys D) from mergeSort_of_perm_i hr] at h1
theorem keysT_facts {w : World} {b n : Nat} {D : DataW Value} (h : MapT w b n D) : (S5.sortL (intKeys D)).Pairwise (· < ·) ∧ (∀ s, s ∈ S5.sortL (intKeys D) ↔ Maps.has D (kI s) = true) ∧ (∀ s ∈ S5.sortL (intKeys D), (Lit.int .i64 s).wf = true) ∧ (intKeys D).length = Maps.size D := by
 have h2 : w.ownsMap Try.prog 3 ptrV b n D := h
 obtain ⟨es, hD, hpw, _⟩ := World.ownsMap.entries h2 lawZ
 obtain ⟨es', hD', hko⟩ := World.ownsMap.keysOf h2
 obtain rfl : es = es' := by rw [hD] at hD'; simpa using hD'
 have hwf := intKeys_wf h2 Try.underlying3
 subst hD
 have hk : ∀ p ∈ es, ∃ x, p.1 = .int .i64 x := fun p hp => by
  obtain ⟨v, hv⟩ := hko p hp
  obtain ⟨x, _, hx, _⟩ := Maps.keyOf_i64 Try.underlying3 hv
  exact ⟨x, hx⟩
 have hnd : (intKeys (.map es)).Nodup := by
  show (es.map fun p => Go.intOf p.1).Nodup
  refine List.pairwise_map.2 (hpw.imp_of_mem fun {p q} hp' hq' hne e => hne ?_)
  obtain ⟨a, ha⟩ := hk p hp'
  obtain ⟨c, hc⟩ := hk q hq'
  rw [ha, hc] at e ⊢
  exact congrArg _ e
 have hmem : ∀ s, s ∈ intKeys (.map es) ↔ Maps.has (.map es) (kI s) = true := by
  intro s
  rw [Maps.has_eq, List.any_eq_true]
  show s ∈ es.map (fun p => Go.intOf p.1) ↔ _
  rw [List.mem_map]
  constructor
  ·rintro ⟨p, hp', rfl⟩
   obtain ⟨a, ha⟩ := hk p hp'
   exact ⟨p, hp', by rw [ha]; simp [Lit.sameKey, Go.intOf, kI]⟩
  ·rintro ⟨p, hp', hs⟩
   obtain ⟨a, ha⟩ := hk p hp'
   rw [ha] at hs
   exact ⟨p, hp', by rw [ha]; simpa [Lit.sameKey, Go.intOf, kI] using hs⟩
 refine ⟨S5.strict_of (S5.sortL_rises _) ((List.mergeSort_perm _ _).symm.nodup_iff.1 hnd), fun s => by rw [S5.sortL_mem, hmem], fun s hs => hwf s ((S5.sortL_mem _ _).1 hs), ?_⟩
 show (es.map fun p => Go.intOf p.1).length = es.length
 rw [List.length_map]
theorem files_sorted {w : World} {b : Nat} {S : Nat → Prop} {D : Dm} {m n : Nat} {lf : Int} {M : DataW Value} {tb : Int → Option Nat} {rv : Int → Value} (h : PMem w b S D m n lf M tb rv) : S5.sortL (intKeys M) = D.l.map Fil.n ∧ (intKeys M).length ≤ 1000 ∧ Maps.size M ≤ 1000 := by
 obtain ⟨h1, h2, h3, h4⟩ := keysT_facts h.map
 have he : S5.sortL (intKeys M) = D.l.map Fil.n := by
  refine S5.rises_uniq h1 (List.pairwise_map.2 h.good.ris) fun s => ?_
  rw [h2, (h.rep.2 s).1, h.key s, List.mem_map]
  constructor
  ·intro hs
   obtain ⟨f, hf⟩ := Option.isSome_iff_exists.1 hs
   exact ⟨f, (getF_some hf).1, (getF_some hf).2⟩
  ·rintro ⟨f, hf, rfl⟩
   rw [h.good.ris.get hf]
   rfl
 have hl : (intKeys M).length = D.l.length := by
  have := congrArg List.length he
  rw [List.length_map] at this
  rw [← this]
  exact ((List.mergeSort_perm _ _).length_eq).symm
 have := h.good.len
 exact ⟨he, by omega, by omega⟩
theorem files_any {w : World} {b : Nat} {S : Nat → Prop} {D : Dm} {m n : Nat} {lf : Int} {M : DataW Value} {tb : Int → Option Nat} {rv : Int → Value} (h : PMem w b S D m n lf M tb rv) :
  Calls Try.prog 35 #[.pointer (some ⟨b, 0, none⟩)] w fun e w' => ∃ v, e = .returned v ∧ S4.OwnI w' w.heap.size v (D.l.map Fil.n) ∧ Below w.heap.size w w' := by
 obtain ⟨he, hl, hs⟩ := files_sorted h
 have c0 := blk_cell h.blk 0
 have hlb := lt_of_block h.blk
 simp at c0
 have hb1 : Below w.heap.size w (w.alloc (.cells #[.map (some m)] 71)) := (Below.refl _ w).alloc (Nat.le_refl _) _
 have hmap : MapT (w.alloc (.cells #[.map (some m)] 71)) m n M := h.map.later hb1 h.map.lt
 have HS := Lib.hid (sortedKeysT_any w.heap.size m n M (w.alloc (.cells #[.map (some m)] 71)) (by omega) (by omega) (heap_alloc_new w _) hmap)
 have HE := Lib.hid he
 clear h hmap he hl hs
 go_enter Try.func35, Try.ntmps35
 go_wp2_with (first
  | (go_at_call 62; refine (keysT_any _ _).mono ?_; rintro e w' ⟨rfl, rfl⟩)
  | (go_at_call 61; refine HS.out.mono ?_; rintro e w1 ⟨v, rfl, h1, h2⟩; rw [HE.out] at h1; have H1 := Lib.hid h1; have H2 := Lib.hid h2; clear h1 h2))
 go_ret
 exact ⟨v, rfl, H1.out.mono (by simp), hb1.trans (H2.out.mono (by simp))⟩
end SZ
end Go.Proofs.Ytddbmibfebhmjaa
