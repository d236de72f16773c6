/- Rows of shards of the call's own; a tally of the program's in memory (PTd); whether in each shard as many have answered as it needs. Conditions: lists of at most a million. -/
import Derived.Test.YtopogdfmbdbimaaWe
import Derived.Test.YtopogdfmbdbimaaVh
import Derived.Deep.RegionHeld3
set_option linter.unusedVariables false
namespace Go.Proofs.Ytopogdfmbdbimaa
open Go.RowKit Go.Sort Go.Shelf Go.Maps

def slV (s : Sh) : Value := .slice s.na s.nodes.length s.nc
/-- The cells of a row of shards. -/
def cellsS (l : List Sh) : List Value := l.flatMap fun s => [.string s.sp.1, .string s.sp.2, slV s]
theorem cellsS_length (l : List Sh) : (cellsS l).length = l.length * 3 := by
  induction l with
  | nil => rfl
  | cons a r ih => simp [cellsS] at ih ⊢; omega
theorem cellsS_append (l r : List Sh) : cellsS (l ++ r) = cellsS l ++ cellsS r := by simp [cellsS]
theorem cellsS_at (l : List Sh) : ∀ (i : Nat) (s : Sh), l[i]? = some s → (cellsS l)[i * 3]? = some (.string s.sp.1) ∧ (cellsS l)[i * 3 + 1]? = some (.string s.sp.2) ∧ (cellsS l)[i * 3 + 2]? = some (slV s) := by
  induction l with
  | nil => intro i s h; simp at h
  | cons a r ih =>
    intro i s h
    cases i with
    | zero =>
      simp only [List.getElem?_cons_zero, Option.some.injEq] at h
      subst h
      exact ⟨rfl, rfl, rfl⟩
    | succ i =>
      obtain ⟨h1, h2, h3⟩ := ih i s (by simpa using h)
      have e : cellsS (a :: r) = Value.string a.sp.1 :: Value.string a.sp.2 :: slV a :: cellsS r := rfl
      refine ⟨?_, ?_, ?_⟩
      · rw [e, show (i + 1) * 3 = (i * 3) + 1 + 1 + 1 by omega]; simpa using h1
      · rw [e, show (i + 1) * 3 + 1 = (i * 3 + 1) + 1 + 1 + 1 by omega]; simpa using h2
      · rw [e, show (i + 1) * 3 + 2 = (i * 3 + 2) + 1 + 1 + 1 by omega]; simpa using h3
theorem cellsS_one (l : List Sh) : ∀ u ∈ cellsS l, u.oneCell' = true := by
  intro u hu
  obtain ⟨s, _, h⟩ := List.mem_flatMap.1 hu
  simp only [List.mem_cons, List.not_mem_nil, or_false] at h
  rcases h with rfl | rfl | rfl <;> rfl
/-- The slice v is the call's own (in a block from base on) and holds these shards. -/
def OwnS (w : World) (base : Nat) (v : Value) (l : List Sh) : Prop := w.ownsRow base 40 3 v l.length (cellsS l)
theorem OwnS.nil (w : World) (base : Nat) : OwnS w base (.slice none 0 0) [] := World.ownsRow_nil _ _ _ _
theorem OwnS.keep {S : Nat → Prop} {w w' : World} {base : Nat} {v : Value} {l : List Sh} (h : OwnS w base v l) (k : Keeps S w w') (hg : ∀ x, v.ownBlock = some x → ¬ S x) : OwnS w' base v l := by
  refine ⟨h.1, ?_⟩
  rcases h.2 with hn | ⟨b, cap, cur, rfl, hb, hh, r⟩
  · exact .inl hn
  · exact .inr ⟨b, cap, cur, rfl, hb, (k.block b (lt_of_block hh) (hg b rfl)).trans hh, r⟩
theorem OwnS.later {w w' : World} {base : Nat} {v : Value} {l : List Sh} (h : OwnS w base v l) (hb : Below w.heap.size w w') : OwnS w' base v l := h.keep (Keeps.ofBelow (S := fun _ => False) hb) (fun _ _ h => h)
theorem OwnS.block {w : World} {base : Nat} {v : Value} {l : List Sh} (h : OwnS w base v l) : ∀ k, v.ownBlock = some k → base ≤ k ∧ ∃ cur, w.heap[k]? = some (.cells cur 40 (0, 0)) := by
  intro k hk
  obtain ⟨h1, ⟨rfl, _⟩ | ⟨g, cap, cur, rfl, hg, hh, _⟩⟩ := h
  · simp [Value.ownBlock] at hk
  · simp [Value.ownBlock] at hk
    subst hk
    exact ⟨hg, cur, hh⟩
theorem OwnI.blockI {w : World} {base : Nat} {v : Value} {l : List Int} (h : OwnI w base v l) : ∀ k, v.ownBlock = some k → base ≤ k ∧ ∃ cur, w.heap[k]? = some (.cells cur 3 (0, 0)) := by
  intro k hk
  obtain ⟨h1, ⟨rfl, _⟩ | ⟨g, cap, cur, rfl, hg, hh, _⟩⟩ := h
  · simp [Value.ownBlock] at hk
  · simp [Value.ownBlock] at hk
    subst hk
    exact ⟨hg, cur, hh⟩
theorem OwnS.row {w : World} {base : Nat} {v : Value} {l : List Sh} (h : OwnS w base v l) : ∃ a c, v = .slice a l.length c ∧ (l ≠ [] → ∃ g, a = some ⟨g, 0, none⟩ ∧ g < w.heap.size ∧ RowS w g 0 l) := by
  obtain ⟨h1, ⟨rfl, hl⟩ | ⟨g, cap, cur, hv, hg, hh, hn, hm, hs, hx⟩⟩ := h
  · have := List.eq_nil_of_length_eq_zero hl
    subst this
    exact ⟨none, 0, rfl, fun h => absurd rfl h⟩
  · refine ⟨_, cap, hv, fun _ => ⟨g, rfl, lt_of_block hh, fun i s hi => ?_⟩⟩
    have hil := (List.getElem?_eq_some_iff.1 hi).1
    obtain ⟨c1, c2, c3⟩ := cellsS_at l i s hi
    rw [← hx] at c1 c2 c3
    rw [List.getElem?_take_of_lt (by omega)] at c1 c2 c3
    rw [Nat.zero_add]
    exact ⟨by rw [cell_of_row w g _ _ _ _ hh]; simpa using c1, by rw [cell_of_row w g _ _ _ _ hh]; simpa using c2, by rw [cell_of_row w g _ _ _ _ hh]; simpa [slV] using c3⟩

/-- A tally of the program's in w: block b, its map mb, its shards' nodes ms, its nodes ns, whoever has answered D; all in blocks from A on and below B. -/
structure PTd (w : World) (A B b mb k : Nat) (vs vn : Value) (ms : List Sh) (ns : List Int) (D : DataW Unit) : Prop where
  blk : Tly w b vs vn mb
  own : OwnS w A vs ms
  each : ∀ m ∈ ms, OwnI w A (slV m) m.nodes
  nds : OwnI w A vn ns
  map : MapI w mb k D
  lob : A ≤ b
  lom : A ≤ mb
  hib : b < B
  him : mb < B
  his : ∀ x, vs.ownBlock = some x → x < B
  hin : ∀ x, vn.ownBlock = some x → x < B
  hie : ∀ m ∈ ms, ∀ x, (slV m).ownBlock = some x → x < B
  size : B ≤ w.heap.size
theorem MapI.keep {S : Nat → Prop} {w wr : World} {b k : Nat} {D : DataW Unit} (h : MapI w b k D) (hw : Keeps S w wr) (hb : ¬ S b) : MapI wr b k D := by
  obtain ⟨es, clock, hh, r⟩ := h
  exact ⟨es, clock, (hw.block b (lt_of_block hh) hb).trans hh, r⟩
theorem PTd.keep {S : Nat → Prop} {w w' : World} {A B b mb k : Nat} {vs vn : Value} {ms : List Sh} {ns : List Int} {D : DataW Unit} (h : PTd w A B b mb k vs vn ms ns D) (hk : Keeps S w w') (hS : ∀ x, A ≤ x → x < B → ¬ S x) : PTd w' A B b mb k vs vn ms ns D where
  blk := (hk.block b h.blk.lt (hS b h.lob h.hib)).trans h.blk
  own := h.own.keep hk fun x hx => hS x (h.own.block x hx).1 (h.his x hx)
  each := fun m hm => (h.each m hm).keep hk fun x hx => hS x ((h.each m hm).block x hx) (h.hie m hm x hx)
  nds := h.nds.keep hk fun x hx => hS x (h.nds.block x hx) (h.hin x hx)
  map := h.map.keep hk (hS mb h.lom h.him)
  lob := h.lob
  lom := h.lom
  hib := h.hib
  him := h.him
  his := h.his
  hin := h.hin
  hie := h.hie
  size := Nat.le_trans h.size hk.size
theorem PTd.later {w w' : World} {A B b mb k : Nat} {vs vn : Value} {ms : List Sh} {ns : List Int} {D : DataW Unit} (h : PTd w A B b mb k vs vn ms ns D) (hb : Below w.heap.size w w') : PTd w' A B b mb k vs vn ms ns D := h.keep (Keeps.ofBelow (S := fun _ => False) hb) (fun _ _ _ h => h)

theorem filter_not_len (p : Int → Bool) (l : List Int) : (l.filter fun x => !p x).length + (l.filter p).length = l.length := by
  induction l with
  | nil => rfl
  | cons a r ih =>
    cases h : p a <;> simp [h] <;> omega
theorem w64_nat {x : Int} (h0 : -4000000 ≤ x) (h1 : x ≤ 4000000) : wrap64 x = x := IntWalk.wrap64_in _ (by omega)
theorem lack_iff (p : Int → Bool) (l : List Int) (hl : l.length ≤ 1000000) (n : Nat) (b : Bool) (hb : b = decide (n ≤ (l.filter p).length)) : decide (IntKind.i64.wrap ((l.length : Int) - ((l.filter fun x => !p x).length : Int)) < (n : Int)) = !b := by
  have h := filter_not_len p l
  have e : IntKind.i64.wrap ((l.length : Int) - ((l.filter fun x => !p x).length : Int)) = ((l.filter p).length : Int) := by
    rw [IntWalk.i64_in _ (by omega)]
    omega
  rw [e, hb]
  by_cases h2 : n ≤ (l.filter p).length
  · rw [decide_eq_true h2, decide_eq_false (by omega)]
    rfl
  · rw [decide_eq_false h2, decide_eq_true (by omega)]
    rfl

/-- Whether in each of these shards as many have answered as it needs. -/
def enough (need : Nat → Nat) (ms : List Sh) (D : DataW Unit) : Bool := ms.all fun m => decide (need m.nodes.length ≤ (m.nodes.filter (inD D)).length)
theorem enough_take {need : Nat → Nat} {ms : List Sh} {D : DataW Unit} {k : Nat} {m : Sh} (hm : ms[k]? = some m) (h : enough need (ms.take k) D = true) (h2 : need m.nodes.length ≤ (m.nodes.filter (inD D)).length) : enough need (ms.take (k + 1)) D = true := by
  unfold enough at *
  rw [List.take_add_one, hm, List.all_append, h]
  simp [h2]
theorem enough_stop {need : Nat → Nat} {ms : List Sh} {D : DataW Unit} {k : Nat} {m : Sh} (hm : ms[k]? = some m) (h2 : ¬ need m.nodes.length ≤ (m.nodes.filter (inD D)).length) : enough need ms D = false := by
  unfold enough
  rw [List.all_eq_false]
  exact ⟨m, List.mem_of_getElem? hm, by simpa using h2⟩
theorem keep3 {w w' : World} {t : Nat} {v0 v1 v2 : Value} (h : Below w.heap.size w w') (ht : t < w.heap.size) (c0 : w.cell? ⟨t, 0, none⟩ = some v0) (c1 : w.cell? ⟨t, 1, none⟩ = some v1) (c2 : w.cell? ⟨t, 2, none⟩ = some v2) :
    Below w.heap.size w w' ∧ w'.cell? ⟨t, 0, none⟩ = some v0 ∧ w'.cell? ⟨t, 1, none⟩ = some v1 ∧ w'.cell? ⟨t, 2, none⟩ = some v2 := ⟨h, cell_in h ht c0, cell_in h ht c1, cell_in h ht c2⟩

set_option maxRecDepth 100000 in
set_option maxHeartbeats 4000000 in
theorem inEach_any (f : Nat) (need : Nat → Nat) (hneed : ∀ n, n ≤ 1000000 → need n ≤ 2000000) (hcall : ∀ (s : Sh) (w : World), s.nodes.length ≤ 1000000 → Calls Try.prog f #[shV s] w fun e w' => e = .returned (.int .i64 (need s.nodes.length)) ∧ Below w.heap.size w w')
    (hent : ∀ args w, (callFunc f args).run Try.prog w = .ok (.enter f args) w)
    (w : World) (A B b mb k : Nat) (vs vn : Value) (ms : List Sh) (ns : List Int) (D : DataW Unit) (h : PTd w A B b mb k vs vn ms ns D) (hlen : ms.length ≤ 1000000) (hwf : ∀ m ∈ ms, m.nodes.length ≤ 1000000 ∧ WfL m.nodes) :
    Calls Try.prog 35 #[.pointer (some ⟨b, 0, none⟩), .func (.func f) #[] #[]] w fun e w' => e = .returned (.bool (enough need ms D)) ∧ Below w.heap.size w w' := by
  obtain ⟨sa, sc, rfl, hrow⟩ := h.own.row
  have c0 := h.blk.c0
  have hbl := h.blk.lt
  have HP := Lib.hid h
  have HROW := Lib.hid hrow
  have HWF := Lib.hid hwf
  have HC := Lib.hid hcall
  have HND := Lib.hid hneed
  clear h hrow hwf hcall hneed
  go_enter Try.func35, Try.ntmps35
  go_wp2
  go_loopw [14] (fun i wr => ∃ j : Nat, j ≤ ms.length ∧ i = .int .i64 j ∧ enough need (ms.take j) D = true ∧ Below w.heap.size w wr) (fun i _ => ms.length - (intOf i).toNat)
  case atStart => exact ⟨0, Nat.zero_le _, rfl, rfl, Below.refl _ _⟩
  case round =>
    obtain ⟨j, hj, rfl, he, hb⟩ := hrel
    by_cases hlt : j < ms.length
    · obtain ⟨m, hm⟩ := at_lt hlt
      obtain ⟨g, rfl, hg, hr⟩ := HROW.out (ne_of_lt hlt)
      obtain ⟨d0, d1, d2⟩ := hr j m hm
      rw [Nat.zero_add] at d0 d1 d2
      have e0 := cell_in hb hg d0
      have e1 := cell_in hb hg d1
      have e2 := cell_in hb hg d2
      have hgw := Nat.lt_of_lt_of_le hg hb.size
      have hj0 : (0 : Int) ≤ (j : Int) := by omega
      have hj1 : (j : Int) < (ms.length : Int) := by omega
      have hdj : decide ((j : Int) < (ms.length : Int)) = true := decide_eq_true hj1
      have HM := Lib.hid hm
      have HE := Lib.hid he
      have HB := Lib.hid hb
      have HMW := Lib.hid (HWF.out m (List.mem_of_getElem? hm))
      have HXB := Lib.hid (blAlloc (Below.refl wr.heap.size wr) (.cells #[.string m.sp.1, .string m.sp.2, .slice m.na m.nodes.length m.nc] 40))
      have HPX := Lib.hid ((HP.out.later hb).later HXB.out)
      have HIL := Lib.hid (HPX.out.each m (List.mem_of_getElem? hm)).at
      clear hm he hb hr d0 d1 d2
      generalize hXw : wr.alloc (.cells #[.string m.sp.1, .string m.sp.2, .slice m.na m.nodes.length m.nc] 40) = X at *
      have hXb : X.heap[wr.heap.size]? = some (.cells #[.string m.sp.1, .string m.sp.2, .slice m.na m.nodes.length m.nc] 40 (0, 0)) := by rw [← hXw]; exact heap_alloc_new wr _
      have x0 : X.cell? ⟨wr.heap.size, 0, none⟩ = some (.string m.sp.1) := by rw [cell_of_row X _ _ _ _ _ hXb]; rfl
      have x1 : X.cell? ⟨wr.heap.size, 1, none⟩ = some (.string m.sp.2) := by rw [cell_of_row X _ _ _ _ _ hXb]; rfl
      have x2 : X.cell? ⟨wr.heap.size, 2, none⟩ = some (.slice m.na m.nodes.length m.nc) := by rw [cell_of_row X _ _ _ _ _ hXb]; rfl
      have xl : wr.heap.size < X.heap.size := lt_of_block hXb
      go_wp2
      go_region_held3 (fun w' => Below X.heap.size X w' ∧ w'.cell? ⟨wr.heap.size, 0, none⟩ = some (.string m.sp.1) ∧ w'.cell? ⟨wr.heap.size, 1, none⟩ = some (.string m.sp.2) ∧ w'.cell? ⟨wr.heap.size, 2, none⟩ = some (.slice m.na m.nodes.length m.nc))
        ((refine keep3 ?_ xl x0 x1 x2; (repeat (first | exact Below.refl _ _ | refine Below.drew ?_ | refine blThen ?_ hb2 | refine blThen ?_ hb1))))
        (first
          | (go_at_call 42; refine (late_any b mb k _ vn D m.na m.nc m.nodes _ HMW.out.1 HMW.out.2 (HIL.out.later (Below.drew (Below.refl _ _))) (HPX.out.later (Below.drew (Below.refl _ _))).blk (HPX.out.later (Below.drew (Below.refl _ _))).map).mono ?_; rintro e w1 ⟨v1, rfl, ho1, hb1⟩; obtain ⟨ga, gc, rfl⟩ := ho1.form)
          | (go_at_fn f; refine (HC.out m _ HMW.out.1).mono ?_; rintro e w2 ⟨rfl, hb2⟩))
      have HB1 := Lib.hid (blThen HB.out (blThen HXB.out (blThen (blThen (Below.drew (Below.refl _ _)) hb1) hb2)))
      clear x0 x1 x2 xl hb1 hb2 ho1 hXb
      generalize hq : decide (need m.nodes.length ≤ (m.nodes.filter (inD D)).length) = q
      have hdq := lack_iff (inD D) m.nodes HMW.out.1 (need m.nodes.length) q hq.symm
      rw [hdq]
      have HQ := Lib.hid hq
      clear hq hdq
      cases q
      · have HF := Lib.hid (enough_stop (need := need) (D := D) HM.out (of_decide_eq_false HQ.out))
        go_wp2
        go_ret
        exact ⟨ret_bool HF.out.symm, HB1.out⟩
      · go_wp2
        go_roundw
        case rel => exact ⟨j + 1, hlt, by go_num, enough_take HM.out HE.out (of_decide_eq_true HQ.out), HB1.out⟩
        case measure => simp [intOf]; omega
    · have hdj : decide ((j : Int) < (ms.length : Int)) = false := decide_eq_false (by omega)
      rw [List.take_of_length_le (by omega)] at he
      have HE := Lib.hid he
      clear he
      go_wp2
      go_ret
      exact ⟨ret_bool HE.out.symm, hb⟩

end Go.Proofs.Ytopogdfmbdbimaa
