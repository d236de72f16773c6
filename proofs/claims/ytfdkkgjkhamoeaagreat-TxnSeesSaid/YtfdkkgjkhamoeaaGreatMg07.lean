/- The spans that are not empty, by rising From; outside; Union. Conditions: lists of at most a million spans. -/
import Derived.Shelf.SlSortCmp.NoneTotal
import Derived.Test.YtfdkkgjkhamoeaaGreatMg05
import Derived.Test.YtfdkkgjkhamoeaaGreatMg06
/- The library's sort at spans by their From: it leaves a permutation of the row, in which no From is below one ahead. Conditions: a row of at most a million spans that may be written. -/
namespace Go.Proofs.YtfdkkgjkhamoeaaGreat
namespace S3
open Go.RowKit
open Go.Sort (grow flatK get_flatK size_flatK Holds HoldsK putRowK putRow mapBlock onCells SWO grow_grow alloc_eq_grow)

theorem grow_below (w : World) (q : Nat) (os : Array Obj) : Below w.heap.size w (grow (w.drewN q) os) :=
  ⟨rfl, rfl, rfl, by simp [grow, World.drewN], fun k hk => by
    show (w.heap ++ os)[k]? = _
    rw [Array.getElem?_append_left hk]⟩
theorem byFrom1_grow (s t : Sp) (w : World) :
    Calls Tryz.prog 135 #[.agg #[.string s.1, .string s.2], .agg #[.string t.1, .string t.2]] w fun r w' => r = .returned (.int .i64 (cmpT s.1 t.1)) ∧ ∃ q os, w' = grow (w.drewN q) os :=
  (byFrom1_any s t w).mono fun r w' ⟨h1, h2⟩ => ⟨h1, 0, #[.cells #[.string s.1, .string s.2] 75, .cells #[.string t.1, .string t.2] 75], by
    rw [h2, alloc_eq_grow, alloc_eq_grow, grow_grow]
    rfl⟩

def encS (x : Sp) : List Value := [.string x.1, .string x.2]
def cfS (x y : Sp) : Int := cmpT x.1 y.1
theorem ltOf_cfS (x y : Sp) : ltOf cfS x y = ltT x.1 y.1 := by
  unfold ltOf cfS
  cases h : ltT x.1 y.1
  · simp only [decide_eq_false_iff_not]
    intro hc
    rw [(cmpT_neg x.1 y.1).1 hc] at h
    cases h
  · simp only [decide_eq_true_eq]
    exact (cmpT_neg x.1 y.1).2 h
theorem swoS : SWO (ltOf cfS) where
  irrefl x := by rw [ltOf_cfS, lt_irrefl]
  trans x y z h1 h2 := by rw [ltOf_cfS] at *; exact lt_trans h1 h2
  ntrans x y z h1 h2 := by rw [ltOf_cfS] at *; exact ge_trans h2 h1
theorem cmpLaysS (blk off size : Nat) (w : World) : CmpLays Tryz.prog 135 #[] encS 2 cfS blk off size w :=
  fun _ _ _ _ x y => byFrom1_grow x y _

/-- Block g holds the spans of l from its head on, and they may be written. -/
def RowC (w : World) (g : Nat) (l : List Sp) : Prop := Row2 w g 0 l ∧ ∀ i, i < l.length * 2 → w.frozen? ⟨g, i, none⟩ = false
theorem holds_of_row {w : World} {g : Nat} {l : List Sp} (h : RowC w g l) : HoldsK encS 2 w g 0 l.toArray := by
  intro j hj
  rw [size_flatK] at hj
  have hj2 : j < l.length * 2 := by simpa using hj
  obtain ⟨s, hs⟩ := at_lt (l := l) (k := j / 2) (by omega)
  obtain ⟨c0, c1⟩ := h.1 (j / 2) s hs
  have hget : l.toArray[j / 2]! = s := by simp [hs]
  rw [get_flatK _ _ _ _ hj, hget, Nat.zero_add]
  rw [Nat.zero_add] at c0 c1
  refine ⟨?_, h.2 j hj2⟩
  rcases Nat.mod_two_eq_zero_or_one j with hm | hm
  · rw [hm]
    rw [show j / 2 * 2 = j by omega] at c0
    exact c0
  · rw [hm]
    rw [show j / 2 * 2 + 1 = j by omega] at c1
    exact c1
theorem row_of_holds {w : World} {g : Nat} {d : Array Sp} (h : HoldsK encS 2 w g 0 d) : Row2 w g 0 d.toList := by
  intro i s hi
  have hil : i < d.size := by simpa using (List.getElem?_eq_some_iff.1 hi).1
  have hget : d[i]! = s := by
    have : d[i]? = some s := by simpa using hi
    rw [getElem!_pos d i hil]
    rw [Array.getElem?_eq_getElem hil] at this
    exact Option.some.inj this
  have h0 := h (i * 2) (by rw [size_flatK]; omega)
  have h1 := h (i * 2 + 1) (by rw [size_flatK]; omega)
  rw [get_flatK _ _ _ _ (by omega), Nat.zero_add] at h0 h1
  rw [show i * 2 / 2 = i by omega, show i * 2 % 2 = 0 by omega, hget] at h0
  rw [show (i * 2 + 1) / 2 = i by omega, show (i * 2 + 1) % 2 = 1 by omega, hget] at h1
  rw [Nat.zero_add]
  exact ⟨h0.1, h1.1⟩
theorem but_sortWorld (w : World) (g m : Nat) (d : Array Sp) (os : Array Obj) : w.grownBy (sortWorldK encS 2 w g 0 m d os) (some g) := by
  have h1 : w.grownBy (putRowK encS 2 (Go.Sort.ahead w m) g 0 d) (some g) := by
    refine ⟨rfl, rfl, rfl, ?_, fun k hk hne => ?_⟩
    · simp [putRowK, Go.Sort.ahead]
    · have hkg : g ≠ k := fun e => hne (by rw [e])
      simp only [putRowK, putRow, mapBlock, Go.Sort.ahead, Array.getElem?_modify]
      rw [if_neg hkg]
  have h2 := grow_below (putRowK encS 2 (Go.Sort.ahead w m) g 0 d) 0 os
  exact ⟨h2.os.trans h1.os, h2.tape.trans h1.tape, h2.output.trans h1.output, Nat.le_trans h1.size h2.size, fun k hk hne => (h2.block k (Nat.lt_of_lt_of_le hk h1.size)).trans (h1.block k hk hne)⟩

theorem sortfunc_none (a : Option Addr) (cap : Nat) (w : World) :
    Calls Tryz.prog 134 #[.slice a 0 cap, .func (.func 135) #[] #[]] w fun e w' => e = .returned (.tuple #[]) ∧ w = w' :=
  (AnyF.slices_SortFunc_none (P := Tryz.prog) (ρ := Tryz.sortSp_ren) { Tryz.sortSp with } a cap (.func (.func 135) #[] #[]) w).mono fun _ _ ⟨he, hw⟩ => ⟨he, hw.symm⟩
theorem sortfunc_any (g cap : Nat) (l : List Sp) (w : World) (hlen : l.length ≤ 1000000) (hg : g < w.heap.size) (hH : RowC w g l) :
    Calls Tryz.prog 134 #[.slice (some ⟨g, 0, none⟩) l.length cap, .func (.func 135) #[] #[]] w fun e w' =>
      e = .returned (.tuple #[]) ∧ ∃ d : List Sp, d.Perm l ∧ (d.Pairwise fun a b => ltT b.1 a.1 = false) ∧ w.grownBy w' (some g) ∧ Row2 w' g 0 d := by
  have eg : ∀ args w, (callFunc 135 args).run Tryz.prog w = .ok (.enter 135 args) w := enters_of Tryz.func135 (by kernel_rfl) rfl
  have hK := holds_of_row hH
  have hcon := AnyQ.slices_SortFunc Tryz.sortSp 2 Tryz.isAgg75 Tryz.sizeOf75 encS (fun _ => rfl) (fun x v hv => by simp [encS] at hv; rcases hv with rfl | rfl <;> rfl) cfS swoS 135 #[] g 0 cap l.toArray w eg (cmpLaysS g 0 l.toArray.size w) hK hg (by simp; omega)
  change Calls Tryz.prog 134 _ _ _ at hcon
  refine Calls.mono hcon fun e w' ⟨he, d', n, os, hp, hs, hw⟩ => ⟨he, d'.toList, ?_, ?_, by rw [hw]; exact but_sortWorld w g n d' os, ?_⟩
  · obtain ⟨hsz, _, hperm⟩ := hp
    have e1 : (d'.extract 0 l.toArray.size).toList = d'.toList := by rw [← hsz]; simp
    have e2 : (l.toArray.extract 0 l.toArray.size).toList = l := by simp
    rwa [e1, e2] at hperm
  · rw [List.pairwise_iff_getElem]
    intro i j hi hj hij
    obtain ⟨hsz, _, _⟩ := hp
    have hi' : i < d'.size := by simpa using hi
    have hj' : j < d'.size := by simpa using hj
    have := hs i j (Nat.zero_le _) hij (by rw [← hsz]; exact hj')
    rw [ltOf_cfS, getElem!_pos d' j hj', getElem!_pos d' i hi'] at this
    simpa using this
  · rw [hw]
    exact row_of_holds (holdsK_sortWorldK_c encS 2 w g 0 l.toArray d' n os hK hg hp.1)

end S3
end Go.Proofs.YtfdkkgjkhamoeaaGreat

/- The spans that are not empty, by rising From; outside; Union. Conditions: lists of at most a million spans. -/
namespace Go.Proofs.YtfdkkgjkhamoeaaGreat
namespace S3
open Go.RowKit

theorem one_new (X : World) (s : Sp) (n : Nat) (h : X.heap.size = n) : Sl (X.alloc (.cells #[.string s.1, .string s.2] 75)) (.slice (some ⟨n, 0, none⟩) 1 1) [s] := by
  subst h
  exact one_sl (box2_new X s) 1
theorem filter_take {α : Type} (p : α → Bool) (l : List α) (k : Nat) (x : α) (h : l[k]? = some x) : (l.take (k + 1)).filter p = (l.take k).filter p ++ if p x then [x] else [] := by
  rw [List.take_add_one, h, List.filter_append]
  cases hp : p x <;> simp [hp]
theorem filter_len {α : Type} (p : α → Bool) (l : List α) (k : Nat) : ((l.take k).filter p).length ≤ l.length := Nat.le_trans (List.length_filter_le _ _) (by simp; omega)

set_option maxRecDepth 100000 in
set_option maxHeartbeats 1000000 in
theorem byFrom_any (va : Value) (l : List Sp) (w : World) (hlen : l.length ≤ 1000000) (ha : Sl w va l) :
    Calls Tryz.prog 102 #[va] w fun e w' => ∃ v d, e = .returned v ∧ d.Perm (l.filter fullS) ∧ (d.Pairwise fun a b => ltT b.1 a.1 = false) ∧ Sl w' v d ∧ Below w.heap.size w w' := by
  obtain ⟨aa, ca, rfl⟩ := ha.form
  have HA := Lib.hid ha
  have HL := Lib.hid (filter_len fullS l)
  clear ha
  go_enter Tryz.func102, Tryz.ntmps102
  go_wp2
  go_loopw [3, 8] (fun v i wr => ∃ k : Nat, k ≤ l.length ∧ i = .int .i64 k ∧ OwnL wr w.heap.size v ((l.take k).filter fullS) ∧ Below w.heap.size w wr) (fun _ i _ => l.length - (intOf i).toNat)
  case atStart => exact ⟨0, Nat.zero_le _, rfl, OwnL.nil _ _, Below.refl _ _⟩
  case round =>
    obtain ⟨k, hk, rfl, ho, hb⟩ := hrel
    obtain ⟨av, cv, rfl⟩ := ho.form
    have HO := Lib.hid ho
    have HB := Lib.hid hb
    clear ho
    by_cases hlt : k < l.length
    · obtain ⟨s, hs⟩ := at_lt hlt
      obtain ⟨g, o, rfl, hg, c0, c1⟩ := HA.out.at hs
      replace c0 := cell_in hb hg c0
      replace c1 := cell_in hb hg c1
      have hgw := Nat.lt_of_lt_of_le hg hb.size
      have HF := Lib.hid (filter_take fullS l k s hs)
      clear hs hb
      cases hf : fullS s
      · have HFF := Lib.hid hf
        clear hf
        go_wp2_with (go_at_call 133; refine (isEmpty_any s _).mono ?_; rintro r w2 ⟨rfl, rfl⟩; rw [HFF.out])
        go_roundw
        case rel => exact ⟨k + 1, hlt, by go_num, by rw [HF.out, HFF.out]; simp only [Bool.false_eq_true, if_false, List.append_nil]; exact HO.out.later (blAlloc (blAlloc (Below.refl _ _) _) _), blAlloc (blAlloc HB.out _) _⟩
        case measure => simp [intOf]; omega
      · have HFF := Lib.hid hf
        clear hf
        go_wp2_with (first
          | (go_at_call 133; refine (isEmpty_any s _).mono ?_; rintro r w2 ⟨rfl, rfl⟩; rw [HFF.out])
          | (at_builtin; refine append_sp rfl (.tmp 15) (.tmp 17) rfl w.heap.size _ _ rfl (HO.out.later (blAlloc (blAlloc (blAlloc (Below.refl _ _) _) _) _)) _ [s] rfl (one_new _ s _ (by simp)) (by have := HL.out k; simp; omega) (by have := HB.out.size; simp; omega) ?_; intro v' w' h1 h2; have H1 := Lib.hid h1; have H2 := Lib.hid (grown_below (blAlloc (blAlloc (blAlloc HB.out _) _) _) (HO.out.later (blAlloc (blAlloc (blAlloc (Below.refl _ _) _) _) _)) (Nat.le_refl _) (by have := HB.out.size; simp; omega) h2); clear h1 h2))
        go_roundw
        case rel => exact ⟨k + 1, hlt, by go_num, by rw [HF.out, HFF.out]; exact H1.out, H2.out⟩
        case measure => simp [intOf]; omega
    · obtain rfl : k = l.length := by omega
      clear hb
      have HT : Hid ((l.take l.length).filter fullS = l.filter fullS) := by show _ = _; rw [List.take_length]
      rw [HT.out] at HO ⊢
      by_cases hne : l.filter fullS = []
      · have HN := Lib.hid hne
        have hlen0 : (l.filter fullS).length = 0 := by rw [hne]; rfl
        rw [hlen0] at HO ⊢
        clear hne
        go_wp2_with (go_at_call 134; refine (sortfunc_none _ _ _).mono ?_; rintro e w' ⟨rfl, rfl⟩)
        go_ret
        exact ⟨_, [], rfl, by rw [HN.out], List.Pairwise.nil, by have h := HO.out.sl; rwa [HN.out] at h, HB.out⟩
      · obtain ⟨g, cap, he, hg, hgw, _, _, hrow, hfr⟩ := HO.out.row hne
        simp only [Value.slice.injEq] at he
        obtain ⟨rfl, _, rfl⟩ := he
        have HR : Hid (RowC wr g (l.filter fullS)) := ⟨hrow, hfr⟩
        have HLF : Hid ((l.filter fullS).length ≤ 1000000) := Nat.le_trans (List.length_filter_le _ _) hlen
        clear hrow hfr
        go_wp2_with fail
        refine (sortfunc_any g cv (l.filter fullS) _ HLF.out hgw HR.out).mono ?_
        rintro e w2 ⟨rfl, d, hperm, hpw, hbut, hrow2⟩
        have HP := Lib.hid hperm
        have HPW := Lib.hid hpw
        have HB2 : Hid (Below w.heap.size w w2) := HB.out.grown hbut HB.out.size (fun k hk => by cases hk; exact hg)
        have HS : Hid (Sl w2 (.slice (some ⟨g, 0, none⟩) (l.filter fullS).length cv) d) := ⟨_, cv, by rw [hperm.length_eq], fun h => (by cases h), fun _ => ⟨g, 0, rfl, Nat.lt_of_lt_of_le hgw hbut.size, hrow2⟩⟩
        clear hperm hpw hbut hrow2
        go_wp2
        go_ret
        exact ⟨_, d, rfl, HP.out, HPW.out, HS.out, HB2.out⟩

end S3
end Go.Proofs.YtfdkkgjkhamoeaaGreat
