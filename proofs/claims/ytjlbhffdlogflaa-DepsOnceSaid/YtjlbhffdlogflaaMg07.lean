/- The reference's Same at two slices that hold the same stamps, and its List at a rising one: both return true. Conditions: lists of at most a million stamps. -/
import Derived.Shelf.SlSortCmp.NoneTotal
import Derived.Test.YtjlbhffdlogflaaMg06
import Derived.Test.YtjlbhffdlogflaaMg05
import Derived.Test.YtjlbhffdlogflaaMg02
/- stamp.Sort: it returns a list of its own, in which the stamps of l rise, each once. Conditions: a list of at most a million stamps. -/
namespace Go.Proofs.Ytjlbhffdlogflaa
namespace S1
open Go.Sort (grow)
open Go.RowKit (Hid)

theorem sortfunc_none (a : Option Addr) (cap : Nat) (w : World) :
    Calls Try.prog 42 #[.slice a 0 cap, .func (.func 38) #[] #[]] w fun e w' => e = .returned (.tuple #[]) ∧ w = w' :=
  (AnyF.slices_SortFunc_none (P := Try.prog) (ρ := Try.sortSt_ren) { Try.sortSt with } a cap (.func (.func 38) #[] #[]) w).mono fun _ _ ⟨he, hw⟩ => ⟨he, hw.symm⟩

theorem compact_none (a : Option Addr) (cap : Nat) (w : World) :
    Calls Try.prog 43 #[.slice a 0 cap] w fun e w' => e = .returned (.slice a 0 cap) ∧ w = w' := by
  go_enter Try.func43, Try.ntmps43
  go_wp2
  go_ret
  exact ⟨rfl, rfl⟩

set_option maxHeartbeats 1000000 in
theorem sort_any (a : Option Addr) (cap : Nat) (l : List (Int × Int)) (w : World) (hlen : l.length ≤ 1000000) (hl : SL w a l) (hn : a = none → cap = 0) :
    Calls Try.prog 26 #[.slice a l.length cap] w (RetC w (sortL l)) := by
  obtain ⟨i0, hi, hz0, hz1, hz2⟩ := info_parts info_st
  have HI := Lib.hid hi
  have HZ0 := Lib.hid hz0
  have HZ1 := Lib.hid hz1
  have HZ2 := Lib.hid hz2
  rcases src_of hl with rfl | ⟨ad, rfl, hs⟩
  · obtain rfl : cap = 0 := hn rfl
    obtain rfl : l = [] := by
      apply Classical.byContradiction
      intro hne
      obtain ⟨_, _, h, _⟩ := hl hne
      cases h
    clear hi hz0 hz1 hz2 hl hn hlen
    show Calls Try.prog 26 #[.slice none 0 0] w (RetC w [])
    go_enter Try.func26, Try.ntmps26
    go_wp2_with (first | (at_builtin; refine wpList_append_own_none rfl _ _ 37 rfl w.heap.size 33 i0 2 Try.underlying37 HI.out _ 0 [] rfl (World.ownsRow_nil _ _ _ _) rfl ?_) | (go_at_call 42; refine (sortfunc_none _ _ _).mono ?_; rintro e w' ⟨rfl, rfl⟩) | (go_at_call 43; refine (compact_none _ _ _).mono ?_; rintro e w' ⟨rfl, rfl⟩))
    go_ret
    exact retc_nil _ _ (RowKit.Below.refl _ _)
  · have HS := Lib.hid (hs w (RowKit.Below.refl _ _))
    have hlc := cellsL_length l
    have HC := Lib.hid hlc
    have HLEN := Lib.hid hlen
    clear hi hz0 hz1 hz2 hl hn hs hlc
    by_cases hne : l = []
    · subst hne
      clear hlen
      show Calls Try.prog 26 #[.slice (some ad) 0 cap] w (RetC w [])
      go_enter Try.func26, Try.ntmps26
      go_wp2_with (at_builtin; refine wpList_append_own _ rfl _ _ 37 rfl w.heap.size 33 i0 (.agg #[.int .i64 0, .int .i64 0]) 2 16 Try.underlying37 HI.out HZ0.out HZ1.out HZ2.out rfl (by decide) (.slice none 0 0) 0 [] rfl (World.ownsRow_nil _ _ _ _) ad 0 cap [] rfl rfl (fun j u h => (by simp at h)) (fun u h => (by simp at h)) (by decide) (by decide) (Nat.le_refl _) ?_)
      · intro v' w' _ hgrow hiff
        obtain rfl := hiff
        have HB : Hid (RowKit.Below w.heap.size w w') := (RowKit.Below.refl _ _).grown hgrow (Nat.le_refl _) (fun k hk => by simp [Value.ownBlock] at hk)
        clear hgrow
        go_wp2_with (first | (go_at_call 42; refine (sortfunc_none _ _ _).mono ?_; rintro e w' ⟨rfl, rfl⟩) | (go_at_call 43; refine (compact_none _ _ _).mono ?_; rintro e w' ⟨rfl, rfl⟩))
        go_ret
        exact retc_nil _ _ HB.out
    · go_enter Try.func26, Try.ntmps26
      go_wp2_with (at_builtin; refine wpList_append_own _ rfl _ _ 37 rfl w.heap.size 33 i0 (.agg #[.int .i64 0, .int .i64 0]) 2 16 Try.underlying37 HI.out HZ0.out HZ1.out HZ2.out rfl (by decide) (.slice none 0 0) 0 [] rfl (World.ownsRow_nil _ _ _ _) ad l.length cap (cellsL l) rfl HC.out HS.out (cellsL_one l) (by unfold maxLen; omega) (by omega) (Nat.le_refl _) ?_)
      · intro v' w' hown hgrow _
        have HO : OwnL w' w.heap.size v' l := hown
        have HB : Hid (RowKit.Below w.heap.size w w') := (RowKit.Below.refl _ _).grown hgrow (Nat.le_refl _) (fun k hk => by simp [Value.ownBlock] at hk)
        obtain ⟨g, cap', rfl, hg, hgw, hnc, hcm, hrow⟩ := HO.row hne
        clear hown hgrow HO
        go_wp2_with fail
        refine (sortfunc_any g cap' l _ HLEN.out hgw hrow).mono ?_
        rintro e w2 ⟨rfl, d, hperm, hpw, hbut, hrow2⟩
        have hdl : d.length = l.length := hperm.length_eq
        have hg2 : g < w2.heap.size := Nat.lt_of_lt_of_le hgw hbut.size
        have HB2 : Hid (RowKit.Below w.heap.size w w2) := But.below HB.out hbut hg HB.out.size
        have HCS : Hid (cmpct d = sortL l) := cmpct_sort hperm hpw
        clear hbut hrow hperm hpw
        go_wp2_with fail
        rw [← hdl]
        refine (compact_any g cap' d _ (by rw [hdl]; exact HLEN.out) (by rw [hdl]; exact hnc) hcm hg2 hrow2).mono ?_
        rintro e w3 ⟨rfl, hbut, hrow3⟩
        have HB3 : Hid (RowKit.Below w.heap.size w w3) := But.below HB2.out hbut hg HB2.out.size
        have hg3 : g < w3.heap.size := Nat.lt_of_lt_of_le hg2 hbut.size
        have HR3 := Lib.hid hrow3
        clear hbut hrow3 hrow2
        go_wp2
        go_ret
        refine ⟨some ⟨g, 0, none⟩, cap', by rw [← HCS.out]; rfl, by rw [← HCS.out]; exact HR3.out.sl hg3, fun h => (by cases h), fun b o hb => ?_, Nat.le_trans (sortL_length l) hnc, hcm, HB3.out⟩
        simp only [Option.some.injEq, Addr.mk.injEq] at hb
        omega

end S1
end Go.Proofs.Ytjlbhffdlogflaa

/- stamp.Below and the reference's Below: the stamps of l that are less than s, in l's order. Conditions: a list of at most a million stamps. -/
namespace Go.Proofs.Ytjlbhffdlogflaa
namespace S1
open Go.Sort (grow)
open Go.RowKit

theorem OwnL.later {W wr : World} {base : Nat} {v : Value} {l : List (Int × Int)} (h : OwnL W base v l) (hb : Below W.heap.size W wr) : OwnL wr base v l := by
  obtain ⟨h1, h2 | ⟨g, cap, cur, hv, hg, hh, hn, hm, hs, hx⟩⟩ := h
  · exact ⟨h1, .inl h2⟩
  · exact ⟨h1, .inr ⟨g, cap, cur, hv, hg, (hb.block g (lt_of_block hh)).trans hh, hn, hm, hs, hx⟩⟩
theorem OwnL.nil (w : World) (base : Nat) : OwnL w base (.slice none 0 0) [] := World.ownsRow_nil _ _ _ _
theorem OwnL.block {w : World} {base : Nat} {v : Value} {l : List (Int × Int)} (h : OwnL w base v l) : ∀ k, v.ownBlock = some k → base ≤ k := by
  intro k hk
  obtain ⟨h1, ⟨rfl, _⟩ | ⟨g, cap, cur, rfl, hg, _⟩⟩ := h
  · simp [Value.ownBlock] at hk
  · simp [Value.ownBlock] at hk
    omega

end S1
end Go.Proofs.Ytjlbhffdlogflaa

/- The reference's Same at two slices that hold the same stamps, and its List at a rising one: both return true. Conditions: lists of at most a million stamps. -/
namespace Go.Proofs.Ytjlbhffdlogflaa
namespace S1
open Go.Sort (grow)
open Go.RowKit

theorem SS.next {l : List (Int × Int)} (h : SS l) {k : Nat} {x y : Int × Int} (hx : l[k]? = some x) (hy : l[k + 1]? = some y) : ltS x y = true := by
  obtain ⟨h1, rfl⟩ := List.getElem?_eq_some_iff.1 hx
  obtain ⟨h2, rfl⟩ := List.getElem?_eq_some_iff.1 hy
  exact List.pairwise_iff_getElem.1 h k (k + 1) h1 h2 (by omega)

end S1
end Go.Proofs.Ytjlbhffdlogflaa
