/- Contracts of the reference's Max, Has and After, and of own, which copies a list. Conditions: lists of at most a million stamps. -/
import Derived.Test.YtnicdbkjgicliaaSu
namespace Go.Proofs.Ytnicdbkjgicliaa
open Go.RowKit Go.Sort

set_option maxHeartbeats 1000000 in
theorem refmax_any (a : Option Addr) (cap : Nat) (l : List (Int × Int)) (w : World) (hlen : l.length ≤ 1000000) (hl : SL w a l) :
    Calls Try.prog 23 #[.slice a l.length cap] w fun e w' => e = .returned (.agg #[.int .i64 (maxL l).1, .int .i64 (maxL l).2]) ∧ Below w.heap.size w w' := by
  by_cases hne : l = []
  · subst hne
    show Calls Try.prog 23 #[.slice a 0 cap] w fun e w' => e = .returned (.agg #[.int .i64 0, .int .i64 0]) ∧ Below w.heap.size w w'
    go_enter Try.func23, Try.ntmps23
    go_wp2
    exact bodyPost_ret (v := .agg #[.int .i64 0, .int .i64 0]) (by simp [results, Try.results23, go_sem]) rfl ⟨rfl, (Below.refl _ _).alloc (Nat.le_refl _) _⟩
  · obtain ⟨b, o, rfl, hb, hl⟩ := hl hne
    have h0 : 0 < l.length := List.length_pos_iff.2 hne
    obtain ⟨x0, y0, h00⟩ := at_lt h0
    obtain ⟨hx0, hy0⟩ := hl 0 x0 y0 h00
    simp only [Nat.zero_mul, Nat.add_zero] at hx0 hy0
    have H00 := Lib.hid h00
    have HL := Lib.hid hl
    have hz : ((l.length : Int) == 0) = false := by simpa using hne
    clear h00 hl
    go_enter Try.func23, Try.ntmps23
    go_wp2
    have hB0 : Hid (Below w.heap.size w ((w.alloc (Obj.cells #[Value.int IntKind.i64 0, Value.int IntKind.i64 0] 23)).alloc (Obj.cells #[Value.int IntKind.i64 x0, Value.int IntKind.i64 y0] 23))) := ((Below.refl _ _).alloc (Nat.le_refl _) _).alloc (by simp) _
    have hR0 : Own2 ((w.alloc (Obj.cells #[Value.int IntKind.i64 0, Value.int IntKind.i64 0] 23)).alloc (Obj.cells #[Value.int IntKind.i64 x0, Value.int IntKind.i64 y0] 23)) w.heap.size 0 0 := own2_new0 _ _ _ _
    have hM0 : Own2 ((w.alloc (Obj.cells #[Value.int IntKind.i64 0, Value.int IntKind.i64 0] 23)).alloc (Obj.cells #[Value.int IntKind.i64 x0, Value.int IntKind.i64 y0] 23)) (w.heap.size + 1) x0 y0 := own2_new1 _ _ _ _
    generalize (w.alloc (Obj.cells #[Value.int IntKind.i64 0, Value.int IntKind.i64 0] 23)).alloc (Obj.cells #[Value.int IntKind.i64 x0, Value.int IntKind.i64 y0] 23) = W at *
    go_loopw [4] (fun i wr => ∃ k : Nat, 1 ≤ k ∧ k ≤ l.length ∧ i = .int .i64 k ∧ Below w.heap.size w wr ∧ Own2 wr w.heap.size 0 0 ∧ Own2 wr (w.heap.size + 1) (maxL (l.take k)).1 (maxL (l.take k)).2) (fun i _ => l.length - (intOf i).toNat)
    case atStart => exact ⟨1, Nat.le_refl _, h0, rfl, hB0.out, hR0, by rw [maxL_one l _ H00.out]; exact hM0⟩
    case round =>
      obtain ⟨k, hk1, hk, rfl, hbel, hR, hM⟩ := hrel
      have HB := Lib.hid hbel
      clear hR0 hM0
      obtain ⟨mx, my, hm⟩ : ∃ mx my, maxL (l.take k) = (mx, my) := ⟨_, _, rfl⟩
      rw [hm] at hM
      have HMX := Lib.hid hm
      clear hm
      have hr0 := hR.c0
      have hr1 := hR.c1
      have hrf0 := hR.f0
      have hrf1 := hR.f1
      have hm0 := hM.c0
      have hm1 := hM.c1
      have hmf0 := hM.f0
      have hmf1 := hM.f1
      have hsz : w.heap.size + 1 < wr.heap.size := hM.lt
      have hsz0 : w.heap.size < wr.heap.size := hR.lt
      have hbw : b < wr.heap.size := Nat.lt_of_lt_of_le hb hbel.size
      have HR := Lib.hid hR
      have HM := Lib.hid hM
      clear hR hM
      by_cases hlt : k < l.length
      · obtain ⟨x, y, hxy⟩ := at_lt hlt
        obtain ⟨hx, hy⟩ := HL.out.later hb hbel k x y hxy
        have HXY := Lib.hid hxy
        clear hxy hbel
        cases hgt : ltS (mx, my) (x, y)
        · have HGT := Lib.hid hgt
          clear hgt
          go_wp2_with fail
          refine region_aft (by kernel_rfl) (by kernel_rfl) ?_
          repeat (go_big_quiet_step (first | (go_at_call 13; exact aft_grown ((less_any _ _ _ _ _).mono fun e w' h => by rw [HGT.out] at h; exact h))))
          refine wpQuiet_nil ?_
          rintro w2 ⟨z, rfl⟩
          go_wp2
          go_roundw
          case rel => exact ⟨k + 1, by omega, hlt, by go_num, blThen HB.out z.h, HR.out.later z.h (by omega), by
            rw [maxL_take l k _ hk1 HXY.out, HMX.out, stepM, if_neg (by rw [HGT.out]; simp)]
            exact HM.out.later z.h (by omega)⟩
          case measure => simp [intOf]; omega
        · have HGT := Lib.hid hgt
          clear hgt
          go_wp2_with fail
          refine region_aft (by kernel_rfl) (by kernel_rfl) ?_
          repeat (go_big_quiet_step (first | (go_at_call 13; exact aft_grown ((less_any _ _ _ _ _).mono fun e w' h => by rw [HGT.out] at h; exact h))))
          refine wpQuiet_nil ?_
          rintro w2 ⟨z, rfl⟩
          go_wp2
          go_roundw
          case rel => exact ⟨k + 1, by omega, hlt, by go_num, ((blThen HB.out z.h).setCell (by simp) _).setCell (by simp) _, ((HR.out.later z.h (by omega)).set_other (by simp) _).set_other (by simp) _, by
            rw [maxL_take l k _ hk1 HXY.out, HMX.out, stepM, if_pos HGT.out]
            exact (HM.out.later z.h (by omega)).set _ _⟩
          case measure => simp [intOf]; omega
      · have hfin : maxL l = (mx, my) := by
          have := HMX.out
          rwa [List.take_of_length_le (by omega)] at this
        have HF := Lib.hid hfin
        clear hfin hbel
        have e0 := (HR.out.set mx my).c0
        have e1 := (HR.out.set mx my).c1
        go_wp2
        exact bodyPost_ret (v := .agg #[.int .i64 mx, .int .i64 my]) (by simp [results, Try.results23, go_sem, e0, e1]) rfl ⟨by rw [HF.out], (HB.out.setCell (by simp) _).setCell (by simp) _⟩

/-- It returns a list of its own, with the stamps of l, and leaves older memory as it was. -/
def RetL (w : World) (l : List (Int × Int)) (e : Ending) (w' : World) : Prop := ∃ a cap, e = .returned (.slice a l.length cap) ∧ SL w' a l ∧ (a = none → cap = 0) ∧ (∀ b o, a = some ⟨b, o, none⟩ → w.heap.size ≤ b) ∧ Below w.heap.size w w'

theorem ret_eq {u v : Value} (h : u = v) : Ending.returned u = .returned v := by rw [h]
theorem src_of {w : World} {a : Option Addr} {l : List (Int × Int)} (hl : SL w a l) : a = none ∨ ∃ ad, a = some ad ∧ ∀ (W : World), Below w.heap.size w W → ∀ (j : Nat) (u : Value), (cellsL l)[j]? = some u → W.cell? (ad.add j) = some u := by
  cases a with
  | none => exact .inl rfl
  | some ad =>
    refine .inr ⟨ad, rfl, fun W hW j u hj => ?_⟩
    have hne : l ≠ [] := by rintro rfl; simp [cellsL] at hj
    obtain ⟨b, o, he, hb, hlst⟩ := hl hne
    simp only [Option.some.injEq] at he
    subst he
    exact (hlst.later hb hW).cells j u hj

theorem own_empty (w : World) : (w.alloc (.cells #[] 23)).ownsRow w.heap.size 23 2 (.slice (some ⟨w.heap.size, 0, none⟩) 0 0) 0 [] := by
  refine ⟨rfl, .inr ⟨w.heap.size, 0, #[], rfl, Nat.le_refl _, ?_, Nat.le_refl _, Nat.zero_le _, rfl, rfl⟩⟩
  show (w.heap.push _)[w.heap.size]? = _
  simp

set_option maxHeartbeats 1000000 in
theorem own_any (a : Option Addr) (cap : Nat) (l : List (Int × Int)) (w : World) (hlen : l.length ≤ 1000000) (hl : SL w a l) (hn : a = none → cap = 0) :
    Calls Try.prog 20 #[.slice a l.length cap] w (RetL w l) := by
  obtain ⟨i0, hi, hz0, hz1, hz2⟩ := info_parts info_st
  have HI := Lib.hid hi
  have HZ0 := Lib.hid hz0
  have HZ1 := Lib.hid hz1
  have HZ2 := Lib.hid hz2
  rcases src_of hl with rfl | ⟨ad, rfl, hs⟩
  · obtain rfl : cap = 0 := hn rfl
    obtain rfl : l = [] := by
      apply Classical.byContradiction
      intro hne
      obtain ⟨_, _, h, _⟩ := hl hne
      cases h
    clear hi hz0 hz1 hz2 hl hn hlen
    show Calls Try.prog 20 #[.slice none 0 0] w (RetL w [])
    go_enter Try.func20, Try.ntmps20
    go_wp2_with (at_builtin; refine wpList_append_own_none rfl _ _ 31 rfl w.heap.size 23 i0 2 Try.underlying31 HI.out _ 0 [] rfl (own_empty w) rfl ?_)
    go_ret
    exact ⟨_, 0, rfl, fun h => absurd rfl h, fun _ => rfl, fun b o hb => (by simp only [Option.some.injEq, Addr.mk.injEq] at hb; omega), (Below.refl _ _).alloc (Nat.le_refl _) _⟩
  · have HS := Lib.hid (hs (w.alloc (.cells #[] 23)) ((Below.refl _ _).alloc (Nat.le_refl _) _))
    have hlc := cellsL_length l
    have HC := Lib.hid hlc
    clear hi hz0 hz1 hz2 hl hn hs hlc
    go_enter Try.func20, Try.ntmps20
    go_wp2_with (at_builtin; refine wpList_append_own _ rfl _ _ 31 rfl w.heap.size 23 i0 (.agg #[.int .i64 0, .int .i64 0]) 2 16 Try.underlying31 HI.out HZ0.out HZ1.out HZ2.out rfl (by decide) _ 0 [] rfl (own_empty w) ad l.length cap (cellsL l) rfl HC.out HS.out (cellsL_one l) ?qc3 ?qc4 ?qc5 ?_)
    case qc3 => unfold maxLen; omega
    case qc4 => omega
    case qc5 => simp
    · intro v' w' hown hgrow _
      have HO : Hid (OwnL w' w.heap.size v' l) := hown
      have HB : Hid (Below w.heap.size w w') := ((Below.refl _ _).alloc (Nat.le_refl _) _).grown hgrow (by simp) (fun k hk => by simp [Value.ownBlock] at hk; omega)
      clear hown hgrow
      go_wp2
      go_ret
      obtain ⟨a', cap', hv, hsl, hn', hge, _⟩ := HO.out.sl
      exact ⟨a', cap', ret_eq hv, hsl, hn', hge, HB.out⟩

end Go.Proofs.Ytnicdbkjgicliaa
