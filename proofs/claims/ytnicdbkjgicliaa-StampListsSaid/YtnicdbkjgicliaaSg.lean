/- stamp.Sort: it returns a list of its own, in which the stamps of l rise, each once. Conditions: a list of at most a million stamps. -/
import Derived.Test.YtnicdbkjgicliaaSs
import Derived.Test.YtnicdbkjgicliaaSv
import Derived.Shelf.SlSortCmp.NoneTotal
namespace Go.Proofs.Ytnicdbkjgicliaa
open Go.Sort (grow)
open Go.RowKit (Hid)

/-- It returns a list of its own, with the stamps of l, of which the room is told, and leaves older memory as it was. -/
def RetC (w : World) (l : List (Int × Int)) (e : Ending) (w' : World) : Prop := ∃ a cap, e = .returned (.slice a l.length cap) ∧ SL w' a l ∧ (a = none → cap = 0) ∧ (∀ b o, a = some ⟨b, o, none⟩ → w.heap.size ≤ b) ∧ l.length ≤ cap ∧ cap ≤ 9223372036854775807 ∧ RowKit.Below w.heap.size w w'

theorem retc_nil (w w' : World) (h : RowKit.Below w.heap.size w w') : RetC w [] (.returned (.slice none 0 0)) w' := ⟨none, 0, rfl, SL.nil_ok _ _, fun _ => rfl, fun _ _ h => (by cases h), Nat.le_refl _, by omega, h⟩

theorem sortfunc_none (a : Option Addr) (cap : Nat) (w : World) :
    Calls Try.prog 48 #[.slice a 0 cap, .func (.func 17) #[] #[]] w fun e w' => e = .returned (.tuple #[]) ∧ w = w' :=
  (AnyF.slices_SortFunc_none (P := Try.prog) (ρ := Try.sortSt_ren) { Try.sortSt with } a cap (.func (.func 17) #[] #[]) w).mono fun _ _ ⟨he, hw⟩ => ⟨he, hw.symm⟩

theorem compact_none (a : Option Addr) (cap : Nat) (w : World) :
    Calls Try.prog 49 #[.slice a 0 cap] w fun e w' => e = .returned (.slice a 0 cap) ∧ w = w' := by
  go_enter Try.func49, Try.ntmps49
  go_wp2
  go_ret
  exact ⟨rfl, rfl⟩

/-- What lies in a row of the call's own may be written. -/
theorem OwnL.row {w : World} {base : Nat} {v : Value} {l : List (Int × Int)} (h : OwnL w base v l) (hne : l ≠ []) :
    ∃ g cap, v = .slice (some ⟨g, 0, none⟩) l.length cap ∧ base ≤ g ∧ g < w.heap.size ∧ l.length ≤ cap ∧ cap ≤ 9223372036854775807 ∧ RowC w g l := by
  obtain ⟨h1, h2 | ⟨g, cap, cur, hv, hg, hh, hn, hm, hs, hx⟩⟩ := h
  · obtain ⟨rfl, hl⟩ := h2
    exact absurd (List.eq_nil_of_length_eq_zero hl) hne
  · refine ⟨g, cap, hv, hg, lt_of_block hh, hn, by unfold maxLen at hm; omega, fun i x y hi => ?_⟩
    have hil := (List.getElem?_eq_some_iff.1 hi).1
    obtain ⟨c1, c2⟩ := cellsL_at l i x y hi
    rw [← hx] at c1 c2
    rw [List.getElem?_take_of_lt (by omega)] at c1 c2
    refine ⟨?_, ?_, ?_, ?_⟩
    · simp only [World.cell?, hh]; simpa using c1
    · simp only [World.cell?, hh]; simpa using c2
    · simp [World.frozen?, hh]
    · simp [World.frozen?, hh]
theorem RowC.sl {w : World} {g : Nat} {l : List (Int × Int)} (h : RowC w g l) (hg : g < w.heap.size) : SL w (some ⟨g, 0, none⟩) l := fun _ => ⟨g, 0, rfl, hg, fun i x y hi => by
  obtain ⟨c0, c1, _, _⟩ := h i x y hi
  rw [Nat.zero_add]
  exact ⟨c0, c1⟩⟩

set_option maxHeartbeats 1000000 in
theorem sort_any (a : Option Addr) (cap : Nat) (l : List (Int × Int)) (w : World) (hlen : l.length ≤ 1000000) (hl : SL w a l) (hn : a = none → cap = 0) :
    Calls Try.prog 26 #[.slice a l.length cap] w (RetC w (sortL l)) := by
  obtain ⟨i0, hi, hz0, hz1, hz2⟩ := info_parts info_st
  have HI := Lib.hid hi
  have HZ0 := Lib.hid hz0
  have HZ1 := Lib.hid hz1
  have HZ2 := Lib.hid hz2
  rcases src_of hl with rfl | ⟨ad, rfl, hs⟩
  · obtain rfl : cap = 0 := hn rfl
    obtain rfl : l = [] := by
      apply Classical.byContradiction
      intro hne
      obtain ⟨_, _, h, _⟩ := hl hne
      cases h
    clear hi hz0 hz1 hz2 hl hn hlen
    show Calls Try.prog 26 #[.slice none 0 0] w (RetC w [])
    go_enter Try.func26, Try.ntmps26
    go_wp2_with (first | (at_builtin; refine wpList_append_own_none rfl _ _ 31 rfl w.heap.size 23 i0 2 Try.underlying31 HI.out _ 0 [] rfl (World.ownsRow_nil _ _ _ _) rfl ?_) | (go_at_call 48; refine (sortfunc_none _ _ _).mono ?_; rintro e w' ⟨rfl, rfl⟩) | (go_at_call 49; refine (compact_none _ _ _).mono ?_; rintro e w' ⟨rfl, rfl⟩))
    go_ret
    exact retc_nil _ _ (RowKit.Below.refl _ _)
  · have HS := Lib.hid (hs w (RowKit.Below.refl _ _))
    have hlc := cellsL_length l
    have HC := Lib.hid hlc
    have HLEN := Lib.hid hlen
    clear hi hz0 hz1 hz2 hl hn hs hlc
    by_cases hne : l = []
    · subst hne
      clear hlen
      show Calls Try.prog 26 #[.slice (some ad) 0 cap] w (RetC w [])
      go_enter Try.func26, Try.ntmps26
      go_wp2_with (at_builtin; refine wpList_append_own _ rfl _ _ 31 rfl w.heap.size 23 i0 (.agg #[.int .i64 0, .int .i64 0]) 2 16 Try.underlying31 HI.out HZ0.out HZ1.out HZ2.out rfl (by decide) (.slice none 0 0) 0 [] rfl (World.ownsRow_nil _ _ _ _) ad 0 cap [] rfl rfl (fun j u h => (by simp at h)) (fun u h => (by simp at h)) (by decide) (by decide) (Nat.le_refl _) ?_)
      · intro v' w' _ hgrow hiff
        obtain rfl := hiff
        have HB : Hid (RowKit.Below w.heap.size w w') := (RowKit.Below.refl _ _).grown hgrow (Nat.le_refl _) (fun k hk => by simp [Value.ownBlock] at hk)
        clear hgrow
        go_wp2_with (first | (go_at_call 48; refine (sortfunc_none _ _ _).mono ?_; rintro e w' ⟨rfl, rfl⟩) | (go_at_call 49; refine (compact_none _ _ _).mono ?_; rintro e w' ⟨rfl, rfl⟩))
        go_ret
        exact retc_nil _ _ HB.out
    · go_enter Try.func26, Try.ntmps26
      go_wp2_with (at_builtin; refine wpList_append_own _ rfl _ _ 31 rfl w.heap.size 23 i0 (.agg #[.int .i64 0, .int .i64 0]) 2 16 Try.underlying31 HI.out HZ0.out HZ1.out HZ2.out rfl (by decide) (.slice none 0 0) 0 [] rfl (World.ownsRow_nil _ _ _ _) ad l.length cap (cellsL l) rfl HC.out HS.out (cellsL_one l) (by unfold maxLen; omega) (by omega) (Nat.le_refl _) ?_)
      · intro v' w' hown hgrow _
        have HO : OwnL w' w.heap.size v' l := hown
        have HB : Hid (RowKit.Below w.heap.size w w') := (RowKit.Below.refl _ _).grown hgrow (Nat.le_refl _) (fun k hk => by simp [Value.ownBlock] at hk)
        obtain ⟨g, cap', rfl, hg, hgw, hnc, hcm, hrow⟩ := HO.row hne
        clear hown hgrow HO
        go_wp2_with fail
        refine (sortfunc_any g cap' l _ HLEN.out hgw hrow).mono ?_
        rintro e w2 ⟨rfl, d, hperm, hpw, hbut, hrow2⟩
        have hdl : d.length = l.length := hperm.length_eq
        have hg2 : g < w2.heap.size := Nat.lt_of_lt_of_le hgw hbut.size
        have HB2 : Hid (RowKit.Below w.heap.size w w2) := But.below HB.out hbut hg HB.out.size
        have HCS : Hid (cmpct d = sortL l) := cmpct_sort hperm hpw
        clear hbut hrow hperm hpw
        go_wp2_with fail
        rw [← hdl]
        refine (compact_any g cap' d _ (by rw [hdl]; exact HLEN.out) (by rw [hdl]; exact hnc) hcm hg2 hrow2).mono ?_
        rintro e w3 ⟨rfl, hbut, hrow3⟩
        have HB3 : Hid (RowKit.Below w.heap.size w w3) := But.below HB2.out hbut hg HB2.out.size
        have hg3 : g < w3.heap.size := Nat.lt_of_lt_of_le hg2 hbut.size
        have HR3 := Lib.hid hrow3
        clear hbut hrow3 hrow2
        go_wp2
        go_ret
        refine ⟨some ⟨g, 0, none⟩, cap', by rw [← HCS.out]; rfl, by rw [← HCS.out]; exact HR3.out.sl hg3, fun h => (by cases h), fun b o hb => ?_, Nat.le_trans (sortL_length l) hnc, hcm, HB3.out⟩
        simp only [Option.some.injEq, Addr.mk.injEq] at hb
        omega

end Go.Proofs.Ytnicdbkjgicliaa
