/- What a tally has not of a list of numbers: IndexFunc, DeleteFunc by Has; late. Conditions: lists of at most a million numbers, all of them ints. -/
import Derived.Test.YtopogdfmbdbimaaWd
set_option linter.unusedVariables false
namespace Go.Proofs.Ytopogdfmbdbimaa
open Go.RowKit Go.Sort Go.Shelf Go.Maps

def WfL (l : List Int) : Prop := ∀ n ∈ l, (Lit.int .i64 n).wf = true
set_option maxHeartbeats 1000000 in
theorem indexHas_any (b mb q : Nat) (vs vn : Value) (D : DataW Unit) (a : Option Addr) (c : Nat) (l : List Int) (w : World) (hlen : l.length ≤ 1000000) (hwf : WfL l) (hl : Il w a c l) (hb : Tly w b vs vn mb) (hm : MapI w mb q D) :
    Calls Try.prog 57 #[.slice a l.length c, .func (.func 24) #[.pointer (some ⟨b, 0, none⟩)] #[]] w fun e w' => e = .returned (.int .i64 (idxP (inD D) l)) ∧ Below w.heap.size w w' := by
  have HL := Lib.hid hl
  have HT := Lib.hid hb
  have HM := Lib.hid hm
  have HW := Lib.hid hwf
  clear hl hb hm hwf
  go_enter Try.func57, Try.ntmps57
  go_wp2
  go_loopw [8] (fun i wr => ∃ k : Nat, k ≤ l.length ∧ i = .int .i64 k ∧ (l.take k).any (inD D) = false ∧ Below w.heap.size w wr) (fun i _ => l.length - (intOf i).toNat)
  case atStart => exact ⟨0, Nat.zero_le _, rfl, rfl, Below.refl _ _⟩
  case round =>
    obtain ⟨k, hk, rfl, hn, hb⟩ := hrel
    by_cases hlt : k < l.length
    · obtain ⟨x, hx⟩ := at_lt hlt
      obtain ⟨g, o, rfl, hg, d0⟩ := HL.out.at hx
      have c0 := cell_in hb hg d0
      have hgw := Nat.lt_of_lt_of_le hg hb.size
      have hk0 : (0 : Int) ≤ (k : Int) := by omega
      have hk1 : (k : Int) < (l.length : Int) := by omega
      have hdk : decide ((k : Int) < (l.length : Int)) = true := decide_eq_true hk1
      have HC := Lib.hid (thas_any b mb q vs vn D x wr (HW.out x (List.mem_of_getElem? hx)) (HT.out.later hb HT.out.lt) (HM.out.later hb HM.out.lt))
      have HX := Lib.hid hx
      have HB := Lib.hid hb
      have HN := Lib.hid hn
      clear hx hb hn d0
      cases hp : inD D x
      · rw [hp] at HC
        go_wp2_with (go_at_call 24; refine HC.out.mono ?_; rintro e w' ⟨rfl, hb⟩; have HB2 := Lib.hid (blThen HB.out hb); clear hb)
        go_roundw
        case rel => exact ⟨k + 1, hlt, by go_num, any_take_s HX.out HN.out hp, HB2.out⟩
        case measure => simp [intOf]; omega
      · rw [hp] at HC
        have HE := Lib.hid (idx_hit HX.out hp HN.out)
        go_wp2_with (go_at_call 24; refine HC.out.mono ?_; rintro e w' ⟨rfl, hb⟩; have HB2 := Lib.hid (blThen HB.out hb); clear hb)
        go_ret
        exact ⟨ret_int HE.out.symm, HB2.out⟩
    · have hdk : decide ((k : Int) < (l.length : Int)) = false := decide_eq_false (by omega)
      rw [List.take_of_length_le (by omega)] at hn
      have HE := Lib.hid (idx_miss hn)
      clear hn
      go_wp2
      go_ret
      exact ⟨ret_int HE.out.symm, hb⟩

/-- Row g of the world is n cells of a block of the call's own that hold the numbers of m. -/
def NumsAt (w : World) (g cap : Nat) (m : List Int) : Prop := ∃ cur : Array Value, w.heap[g]? = some (.cells cur 3 (0, 0)) ∧ m.length ≤ cap ∧ cap ≤ maxLen ∧ cur.size = cap * 1 ∧ cur.toList.take m.length = cellsI m
theorem NumsAt.lt {w : World} {g cap : Nat} {m : List Int} (h : NumsAt w g cap m) : g < w.heap.size := by obtain ⟨cur, h, _⟩ := h; exact lt_of_block h
theorem NumsAt.later {w wr : World} {g cap : Nat} {m : List Int} (h : NumsAt w g cap m) (hb : Below w.heap.size w wr) : NumsAt wr g cap m := by
  obtain ⟨cur, h1, r⟩ := h
  exact ⟨cur, (hb.block g (lt_of_block h1)).trans h1, r⟩
theorem NumsAt.cell {w : World} {g cap : Nat} {m : List Int} (h : NumsAt w g cap m) {j : Nat} {x : Int} (hx : m[j]? = some x) : w.cell? ⟨g, j, none⟩ = some (.int .i64 x) := by
  obtain ⟨cur, h1, h2, h3, h4, h5⟩ := h
  have hj := (List.getElem?_eq_some_iff.1 hx).1
  rw [cell_of_row w g _ _ _ _ h1]
  have c1 := cellsI_at hx
  rw [← h5, List.getElem?_take_of_lt hj] at c1
  simpa using c1
theorem NumsAt.frozen {w : World} {g cap : Nat} {m : List Int} (h : NumsAt w g cap m) (j : Nat) : w.frozen? ⟨g, j, none⟩ = false := by
  obtain ⟨cur, h1, _⟩ := h
  simp [World.frozen?, h1]
theorem NumsAt.own {w : World} {g cap base : Nat} {m : List Int} (h : NumsAt w g cap m) (hb : base ≤ g) : OwnI w base (.slice (some ⟨g, 0, none⟩) m.length cap) m := by
  obtain ⟨cur, h1, h2, h3, h4, h5⟩ := h
  exact ⟨(cellsI_length m).trans (Nat.mul_one _).symm, .inr ⟨g, cap, cur, rfl, hb, h1, h2, h3, h4, by rw [Nat.mul_one]; exact h5⟩⟩
theorem NumsAt.set {w : World} {g cap : Nat} {m : List Int} (h : NumsAt w g cap m) {j : Nat} (hj : j < m.length) (x : Int) : NumsAt (w.setCell ⟨g, j, none⟩ (.int .i64 x)) g cap (m.set j x) := by
  obtain ⟨cur, h1, h2, h3, h4, h5⟩ := h
  refine ⟨_, block_setCell h1 _, by simpa using h2, h3, by simpa using h4, ?_⟩
  rw [Array.toList_setIfInBounds, List.length_set, List.take_set, h5]
  simp [cellsI]
/-- Its first k numbers. -/
theorem NumsAt.cut {w : World} {g cap : Nat} {m : List Int} (h : NumsAt w g cap m) (k : Nat) : NumsAt w g cap (m.take k) := by
  obtain ⟨cur, h1, h2, h3, h4, h5⟩ := h
  refine ⟨cur, h1, by rw [List.length_take]; omega, h3, h4, ?_⟩
  have e : cur.toList.take (m.take k).length = (cur.toList.take m.length).take k := by
    rw [List.take_take, List.length_take]
  rw [e, h5]
  simp [cellsI]
/-- Cells behind the first k are written: these stay. -/
theorem NumsAt.setCells {g cap : Nat} {m : List Int} : ∀ (vs : List Value) (o : Nat) (w : World), m.length ≤ o → NumsAt w g cap m → NumsAt (w.setCells g o vs) g cap m := by
  intro vs
  induction vs with
  | nil => intro o w _ h; exact h
  | cons v vs ih =>
    intro o w ho h
    refine ih (o + 1) _ (by omega) ?_
    obtain ⟨cur, h1, h2, h3, h4, h5⟩ := h
    refine ⟨_, block_setCell h1 _, h2, h3, by simpa using h4, ?_⟩
    rw [Array.toList_setIfInBounds, List.take_set_of_le ho, h5]
theorem below_setCells (B g : Nat) (hg : B ≤ g) : ∀ (vs : List Value) (o : Nat) (a w : World), Below B a w → Below B a (w.setCells g o vs) := by
  intro vs
  induction vs with
  | nil => intro o a w h; exact h
  | cons v vs ih => intro o a w h; exact ih (o + 1) a _ (h.setCell hg v)

/-- One behind the other: those that p does not hold of, ahead; the rest as it was. -/
structure Kept (p : Int → Bool) (l m : List Int) (i j : Nat) : Prop where
  len : m.length = l.length
  lo : m.take i = (l.take j).filter fun x => !p x
  hi : ∀ k, j ≤ k → m[k]? = l[k]?
  lt : i < j
  le : j ≤ l.length
theorem Kept.start {p : Int → Bool} {l : List Int} {k : Nat} {x : Int} (hx : l[k]? = some x) (hp : p x = true) (hn : (l.take k).any p = false) : Kept p l l k (k + 1) where
  len := rfl
  lo := by
    rw [List.take_add_one, hx, List.filter_append]
    have : (l.take k).filter (fun x => !p x) = l.take k := List.filter_eq_self.2 fun y hy => by
      have := List.any_eq_false.1 hn y hy
      simpa using this
    rw [this]
    simp [hp]
  hi := fun _ _ => rfl
  lt := by omega
  le := (List.getElem?_eq_some_iff.1 hx).1
theorem Kept.skip {p : Int → Bool} {l m : List Int} {i j : Nat} {x : Int} (h : Kept p l m i j) (hx : l[j]? = some x) (hp : p x = true) : Kept p l m i (j + 1) where
  len := h.len
  lo := by
    rw [List.take_add_one, hx, List.filter_append, h.lo]
    simp [hp]
  hi := fun k hk => h.hi k (by omega)
  lt := by have := h.lt; omega
  le := (List.getElem?_eq_some_iff.1 hx).1
theorem Kept.keep {p : Int → Bool} {l m : List Int} {i j : Nat} {x : Int} (h : Kept p l m i j) (hx : l[j]? = some x) (hp : p x = false) : Kept p l (m.set i x) (i + 1) (j + 1) where
  len := by rw [List.length_set, h.len]
  lo := by
    have hl := h.len
    have h1 := h.lt
    have h2 := (List.getElem?_eq_some_iff.1 hx).1
    rw [List.take_add_one, List.take_set_of_le (Nat.le_refl _), h.lo, List.getElem?_set_self (by omega), List.take_add_one, hx, List.filter_append]
    simp [hp]
  hi := fun k hk => by
    have h1 := h.lt
    rw [List.getElem?_set_ne (by omega)]
    exact h.hi k (by omega)
  lt := by have := h.lt; omega
  le := (List.getElem?_eq_some_iff.1 hx).1
theorem find_spec (p : Int → Bool) (l : List Int) : l.any p = false ∨ ∃ k x, l[k]? = some x ∧ p x = true ∧ (l.take k).any p = false ∧ idxP p l = (k : Int) := by
  cases h : l.any p
  · exact .inl rfl
  · have hlt : l.findIdx p < l.length := List.findIdx_lt_length.2 (by obtain ⟨x, h1, h2⟩ := List.any_eq_true.1 h; exact ⟨x, h1, h2⟩)
    refine .inr ⟨l.findIdx p, l[l.findIdx p], List.getElem?_eq_getElem hlt, List.findIdx_getElem, ?_, ?_⟩
    · rw [List.any_eq_false]
      intro y hy
      obtain ⟨j, hj, rfl⟩ := List.mem_iff_getElem.1 hy
      rw [List.length_take] at hj
      rw [List.getElem_take]
      have := List.not_of_lt_findIdx (p := p) (xs := l) (i := j) (by omega)
      simpa using this
    · simp [idxP, h]

set_option maxRecDepth 100000 in
set_option maxHeartbeats 2000000 in
theorem delete_any (b mb q : Nat) (vs vn : Value) (D : DataW Unit) (base : Nat) (v : Value) (l : List Int) (w : World) (hlen : l.length ≤ 1000000) (hwf : WfL l) (hown : OwnI w base v l) (hb : Tly w b vs vn mb) (hm : MapI w mb q D) (hbb : b < base) (hmb : mb < base) (hbase : base ≤ w.heap.size) :
    Calls Try.prog 50 #[v, .func (.func 24) #[.pointer (some ⟨b, 0, none⟩)] #[]] w fun e w' => ∃ v', e = .returned v' ∧ OwnI w' base v' (l.filter fun x => !inD D x) ∧ Below base w w' := by
  have HT := Lib.hid hb
  have HM := Lib.hid hm
  have HW := Lib.hid hwf
  have hIF : Hid (∀ a c, v = .slice a l.length c → Calls Try.prog 57 #[.slice a l.length c, .func (.func 24) #[.pointer (some ⟨b, 0, none⟩)] #[]] w fun e w' => e = .returned (.int .i64 (idxP (inD D) l)) ∧ Below w.heap.size w w') := by
    intro a c e
    subst e
    exact indexHas_any b mb q vs vn D a c l w hlen hwf hown.at hb hm
  clear hwf hb hm
  rcases find_spec (inD D) l with hno | ⟨k0, x0, hx0, hp0, hn0, hi0⟩
  · obtain ⟨a, c, rfl⟩ := hown.form
    have HC := Lib.hid (hIF.out a c rfl)
    have HF : Hid (l.filter (fun x => !inD D x) = l) := List.filter_eq_self.2 fun y hy => by simpa using List.any_eq_false.1 hno y hy
    rw [idx_miss hno] at HC
    have HO := Lib.hid hown
    clear hno hown hIF
    go_enter Try.func50, Try.ntmps50
    go_wp2_with (go_at_call 57; refine HC.out.mono ?_; rintro e w' ⟨rfl, hb⟩; have HB := Lib.hid hb; clear hb)
    go_ret
    exact ⟨_, rfl, by rw [HF.out]; exact HO.out.later HB.out, HB.out.mono hbase⟩
  · have hk0 := (List.getElem?_eq_some_iff.1 hx0).1
    rcases hown.cases with ⟨rfl, rfl⟩ | ⟨g, cap, cur, rfl, hg, hh, h1, h2, h3, h4⟩
    · simp at hk0
    have HR : Hid (NumsAt w g cap l) := ⟨cur, hh, h1, h2, h3, h4⟩
    have HC := Lib.hid (hIF.out _ _ rfl)
    rw [hi0] at HC
    have HK := Lib.hid (Kept.start hx0 hp0 hn0)
    have hne1 : ((k0 : Int) == -1) = false := beq_eq_false_iff_ne.2 (by omega)
    clear hx0 hp0 hn0 hi0 hown hIF hh h3 h4
    go_enter Try.func50, Try.ntmps50
    go_wp2_with (go_at_call 57; refine HC.out.mono ?_; rintro e w1 ⟨rfl, hb⟩; have HB := Lib.hid hb; clear hb)
    go_loopw [5, 6, 7] (fun s5 s6 _ wr => ∃ (i j : Nat) (m : List Int), s5 = .int .i64 i ∧ s6 = .int .i64 j ∧ Hid (Kept (inD D) l m i j) ∧ Hid (NumsAt wr g cap m) ∧ Hid (Below base w wr)) (fun _ j _ _ => l.length - (intOf j).toNat)
    case atStart => exact ⟨k0, k0 + 1, l, rfl, by go_num, HK, HR.out.later HB.out, HB.out.mono hbase⟩
    case round =>
      obtain ⟨i, j, m, rfl, rfl, HKm, HRm, HBm⟩ := hrel
      have hij := HKm.out.lt
      have hml := HKm.out.len
      have hjl := HKm.out.le
      have hgl := HRm.out.lt
      by_cases hlt : j < l.length
      · obtain ⟨x, hx⟩ := at_lt hlt
        have cj := HRm.out.cell ((HKm.out.hi j (Nat.le_refl _)).trans hx)
        have hj0 : (0 : Int) ≤ (j : Int) := by omega
        have hj1 : (j : Int) < (l.length : Int) := by omega
        have hdj : decide ((j : Int) < (l.length : Int)) = true := decide_eq_true hj1
        have hi0 : (0 : Int) ≤ (i : Int) := by omega
        have hi1 : (i : Int) < (l.length : Int) := by omega
        have HCx := Lib.hid (thas_any b mb q vs vn D x wr (HW.out x (List.mem_of_getElem? hx)) (HT.out.later HBm.out hbb) (HM.out.later HBm.out hmb))
        have HX := Lib.hid hx
        clear hx
        cases hp : inD D x
        · rw [hp] at HCx
          obtain ⟨y, hy⟩ := at_lt (l := m) (k := i) (by omega)
          have ci := HRm.out.cell hy
          have fi := HRm.out.frozen i
          have HKP := Lib.hid (fun (w2 : World) (hb : Below wr.heap.size wr w2) => (⟨cell_in hb hgl ci, (hb.frozen (p := ⟨g, i, none⟩) hgl).trans fi⟩ : w2.cell? ⟨g, i, none⟩ = some (.int .i64 y) ∧ w2.frozen? ⟨g, i, none⟩ = false))
          clear ci fi hy
          go_wp2_with (go_at_call 24; refine HCx.out.mono ?_; rintro e w2 ⟨rfl, hb⟩; obtain ⟨ci, fi⟩ := HKP.out w2 hb; have HB2 := Lib.hid hb; have hg2 := Nat.lt_of_lt_of_le hgl hb.size; clear hb)
          go_roundw
          case rel => exact ⟨i + 1, j + 1, m.set i x, by go_num, by go_num, HKm.out.keep HX.out hp, (HRm.out.later HB2.out).set (by omega) x, (HBm.out.trans (HB2.out.mono (Nat.le_trans hbase HBm.out.size))).setCell hg _⟩
          case measure => simp [intOf]; omega
        · rw [hp] at HCx
          go_wp2_with (go_at_call 24; refine HCx.out.mono ?_; rintro e w2 ⟨rfl, hb⟩; have HB2 := Lib.hid hb; clear hb)
          go_roundw
          case rel => exact ⟨i, j + 1, m, rfl, by go_num, HKm.out.skip HX.out hp, HRm.out.later HB2.out, HBm.out.trans (HB2.out.mono (Nat.le_trans hbase HBm.out.size))⟩
          case measure => simp [intOf]; omega
      · obtain rfl : j = l.length := by omega
        have hdj : decide ((l.length : Int) < (l.length : Int)) = false := decide_eq_false (by omega)
        have hi0 : (0 : Int) ≤ (i : Int) := by omega
        have hcl : ∀ ty, (Builtin.clear_ #[23] ty #[.slice (some ⟨g, i, none⟩) (l.length - i) (cap - i)]).run Try.prog wr = .ok (.tuple #[]) (wr.setCells g i (List.replicate (l.length - i) (.int .i64 0))) :=
          fun ty => Lib.run_clear_slice wr _ _ ty _ Try.underlying23 Try.zeroValue3 rfl rfl g i _ _ (by omega)
            (fun t ht => by
              obtain ⟨y, hy⟩ := at_lt (l := m) (k := i + t) (by omega)
              rw [HRm.out.cell hy]
              rfl)
            (fun t ht => HRm.out.frozen _)
        have HRF : Hid (NumsAt (wr.setCells g i (List.replicate (l.length - i) (.int .i64 0))) g cap (m.take i)) := (HRm.out.cut i).setCells _ _ _ (by rw [List.length_take]; omega)
        have HE : Hid (m.take i = l.filter fun x => !inD D x) := by
          have h := HKm.out.lo
          rwa [List.take_of_length_le (l := l) (by omega)] at h
        have HIL : Hid ((m.take i).length = i) := by show _ = _; rw [List.length_take]; omega
        have HBF := Lib.hid (below_setCells base g hg (List.replicate (l.length - i) (.int .i64 0)) i w wr HBm.out)
        go_wp2
        go_ret
        refine ⟨_, rfl, ?_, HBF.out⟩
        have h := HRF.out.own hg
        rw [HIL.out] at h
        rw [← HE.out]
        exact h

set_option maxHeartbeats 1000000 in
theorem late_any (b mb q : Nat) (vs vn : Value) (D : DataW Unit) (a : Option Addr) (c : Nat) (l : List Int) (w : World) (hlen : l.length ≤ 1000000) (hwf : WfL l) (hl : Il w a c l) (hb : Tly w b vs vn mb) (hm : MapI w mb q D) :
    Calls Try.prog 42 #[.pointer (some ⟨b, 0, none⟩), .slice a l.length c] w (RetI w (l.filter fun x => !inD D x)) := by
  have HT := Lib.hid hb
  have HM := Lib.hid hm
  have HW := Lib.hid hwf
  have HL := Lib.hid hl
  clear hb hm hwf hl
  go_enter Try.func42, Try.ntmps42
  go_wp2_with (first
    | (go_at_call 51; refine (cloneI_any a c l _ hlen HL.out).mono ?_; rintro e w1 ⟨v1, rfl, ho, hb⟩; have HO := Lib.hid ho; have HB := Lib.hid hb; clear ho hb)
    | (go_at_call 50; refine (delete_any b mb q vs vn D w.heap.size v1 l _ hlen HW.out HO.out (HT.out.later HB.out HT.out.lt) (HM.out.later HB.out HM.out.lt) HT.out.lt HM.out.lt HB.out.size).mono ?_; rintro e w2 ⟨v2, rfl, ho, hb⟩; have HO2 := Lib.hid ho; have HB2 := Lib.hid hb; clear ho hb))
  go_ret
  exact ⟨v2, rfl, HO2.out, HB.out.trans HB2.out⟩

end Go.Proofs.Ytopogdfmbdbimaa
