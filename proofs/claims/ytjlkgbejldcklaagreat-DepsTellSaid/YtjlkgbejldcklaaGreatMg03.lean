/- slices.Compact at stamps: it returns the list in which each run of equal stamps is one. Conditions: a row of at most a million stamps that may be written. -/
import Derived.Lib.SliceRun
import Derived.Test.YtjlkgbejldcklaaGreatMg02
/- slices.Compact at stamps: it returns the list in which each run of equal stamps is one. Conditions: a row of at most a million stamps that may be written. -/
namespace Go.Proofs.YtjlkgbejldcklaaGreat
namespace S1
open Go.RowKit Go.Sort
set_option linter.unusedVariables false
set_option linter.unusedSimpArgs false

/-- Block g holds the stamps of d from its head on, and they may be written. -/
def RowC (w : World) (g : Nat) (d : List (Int × Int)) : Prop := ∀ i x y, d[i]? = some (x, y) → w.cell? ⟨g, i * 2, none⟩ = some (.int .i64 x) ∧ w.cell? ⟨g, i * 2 + 1, none⟩ = some (.int .i64 y) ∧ w.frozen? ⟨g, i * 2, none⟩ = false ∧ w.frozen? ⟨g, i * 2 + 1, none⟩ = false
theorem RowC.later {w wr : World} {g : Nat} {d : List (Int × Int)} (h : RowC w g d) (hg : g < w.heap.size) (hb : Below w.heap.size w wr) : RowC wr g d := fun i x y hi =>
  ⟨cell_in hb hg (h i x y hi).1, cell_in hb hg (h i x y hi).2.1, (hb.frozen (p := ⟨g, i * 2, none⟩) hg).trans (h i x y hi).2.2.1, (hb.frozen (p := ⟨g, i * 2 + 1, none⟩) hg).trans (h i x y hi).2.2.2⟩
theorem RowC.take {w : World} {g : Nat} {d : List (Int × Int)} (h : RowC w g d) (k : Nat) : RowC w g (d.take k) := fun i x y hi => by
  have hik : i < k := by
    have := (List.getElem?_eq_some_iff.1 hi).1
    simp only [List.length_take] at this
    omega
  rw [List.getElem?_take_of_lt hik] at hi
  exact h i x y hi
theorem RowC.set {w : World} {g k : Nat} {d : List (Int × Int)} (h : RowC w g d) (hk : k < d.length) (x y : Int) : RowC ((w.setCell ⟨g, k * 2, none⟩ (.int .i64 x)).setCell ⟨g, k * 2 + 1, none⟩ (.int .i64 y)) g (d.set k (x, y)) := by
  intro i u v hi
  obtain ⟨a, b, hab⟩ := at_lt hk
  obtain ⟨c0, c1, _, _⟩ := h k a b hab
  simp only [World.frozen?_setCell]
  have c1' : (w.setCell ⟨g, k * 2, none⟩ (.int .i64 x)).cell? ⟨g, k * 2 + 1, none⟩ = some (.int .i64 b) := by
    rw [World.cell?_setCell_other]
    · exact c1
    · intro he
      simp only [Addr.mk.injEq] at he
      omega
  by_cases hik : i = k
  · subst hik
    rw [List.getElem?_set_self hk] at hi
    simp only [Option.some.injEq, Prod.mk.injEq] at hi
    obtain ⟨rfl, rfl⟩ := hi
    obtain ⟨_, _, f0, f1⟩ := h i a b hab
    refine ⟨?_, World.cell?_setCell_same _ _ _ c1', f0, f1⟩
    rw [World.cell?_setCell_other]
    · exact World.cell?_setCell_same _ _ _ c0
    · intro he
      simp only [Addr.mk.injEq] at he
      omega
  · rw [List.getElem?_set_ne (fun e => hik e.symm)] at hi
    obtain ⟨e0, e1, f0, f1⟩ := h i u v hi
    refine ⟨?_, ?_, f0, f1⟩
    · rw [World.cell?_setCell_other, World.cell?_setCell_other]
      · exact e0
      · intro he
        simp only [Addr.mk.injEq] at he
        omega
      · intro he
        simp only [Addr.mk.injEq] at he
        omega
    · rw [World.cell?_setCell_other, World.cell?_setCell_other]
      · exact e1
      · intro he
        simp only [Addr.mk.injEq] at he
        omega
      · intro he
        simp only [Addr.mk.injEq] at he
        omega

theorem zeroSt (w : World) : (zeroValue 42).run Tryz.prog w = .ok (.agg #[.int .i64 0, .int .i64 0]) w := by kernel_rfl
/-- What clear does to the tail of a row: what stands ahead of it stays. -/
theorem run_clear_st (w : World) (ty : TypeId) (g o n c : Nat) (hn : 0 < n) (hc : ∀ j, j < n * 2 → (w.cell? ⟨g, o + j, none⟩).isSome = true) (hf : ∀ j, j < n * 2 → w.frozen? ⟨g, o + j, none⟩ = false) :
    (Builtin.clear_ #[24] ty #[.slice (some ⟨g, o, none⟩) n c]).run Tryz.prog w = .ok (.tuple #[]) (w.setCells g o (Builtin.zeroCells (Value.agg #[.int .i64 0, .int .i64 0]).cells n).toList) := by
  have hl : (Builtin.zeroCells (Value.agg #[.int .i64 0, .int .i64 0]).cells n).toList.length = n * 2 := by simp [Builtin.zeroCells, Value.cells]
  have h1 : ∀ v ∈ (Builtin.zeroCells (Value.agg #[.int .i64 0, .int .i64 0]).cells n).toList, v.oneCell' = true := by
    intro v hv
    simp only [Builtin.zeroCells, Value.cells, Array.toList_map, List.mem_map] at hv
    obtain ⟨i, _, rfl⟩ := hv
    have : i % 2 = 0 ∨ i % 2 = 1 := Nat.mod_two_eq_zero_or_one i
    show (#[Value.int IntKind.i64 0, Value.int IntKind.i64 0][i % 2]!).oneCell' = true
    rcases this with h | h <;> rw [h] <;> rfl
  have hst := run_storeCells_cells (P := Tryz.prog) g o (Builtin.zeroCells (Value.agg #[.int .i64 0, .int .i64 0]).cells n).toList 0 w (by rw [hl]; simpa using hc) (by rw [hl]; simpa using hf) h1
  simp only [Nat.add_zero] at hst
  obtain ⟨m, rfl⟩ : ∃ m, n = m + 1 := ⟨n - 1, by omega⟩
  simp [Builtin.clear_, run_underlying Tryz.underlying24, zeroSt, hst]
theorem but_setCells (g : Nat) : ∀ (vs : List Value) (o : Nat) (w : World), But g w (w.setCells g o vs)
  | [], _, w => But.refl _ _
  | v :: r, o, w => (But.set g o w v).trans (but_setCells g r (o + 1) _)
theorem RowC.cleared {w : World} {g k : Nat} {d : List (Int × Int)} (h : RowC w g d) (hk : d.length ≤ k) (vs : List Value) : RowC (w.setCells g (k * 2) vs) g d := fun i x y hi => by
  have hil := (List.getElem?_eq_some_iff.1 hi).1
  obtain ⟨c0, c1, f0, f1⟩ := h i x y hi
  rw [World.cell?_setCells_out _ _ _ _ _ (fun _ _ => .inl (by show i * 2 < k * 2; omega)), World.cell?_setCells_out _ _ _ _ _ (fun _ _ => .inl (by show i * 2 + 1 < k * 2; omega)), World.frozen?_setCells, World.frozen?_setCells]
  exact ⟨c0, c1, f0, f1⟩

set_option maxHeartbeats 4000000 in
theorem compact_any (g cap : Nat) (d : List (Int × Int)) (w : World) (hlen : d.length ≤ 1000000) (hcap : d.length ≤ cap) (hcapm : cap ≤ 9223372036854775807) (hg : g < w.heap.size) (hH : RowC w g d) :
    Calls Tryz.prog 202 #[.slice (some ⟨g, 0, none⟩) d.length cap] w fun e w' => e = .returned (.slice (some ⟨g, 0, none⟩) (cmpct d).length cap) ∧ But g w w' ∧ RowC w' g (cmpct d) := by
  have HH := Lib.hid hH
  clear hH
  by_cases h2 : d.length < 2
  · have hc : cmpct d = d := by
      match d, h2 with
      | [], _ => rfl
      | [a], _ => rfl
    rw [hc]
    have h2I : (d.length : Int) < 2 := by omega
    clear hc
    go_enter Tryz.func202, Tryz.ntmps202
    go_wp2
    go_ret
    exact ⟨rfl, But.refl _ _, HH.out⟩
  have h2I : ¬ (d.length : Int) < 2 := by omega
  generalize hv : cmpct d = cd
  have HV := Lib.hid hv
  clear hv
  obtain ⟨n, hn⟩ : ∃ n, d.length = n := ⟨_, rfl⟩
  rw [hn] at hlen hcap h2 h2I ⊢
  have HN := Lib.hid hn
  clear hn
  go_enter Tryz.func202, Tryz.ntmps202
  go_wp2
  go_loopw [3, 4, 5] (fun i _ _ wr => ∃ k : Nat, 1 ≤ k ∧ k ≤ n ∧ i = .int .i64 k ∧ Below w.heap.size w wr ∧ cmpct (d.take k) = d.take k) (fun i _ _ _ => n - (intOf i).toNat)
  case atStart =>
    refine ⟨1, Nat.le_refl _, by omega, rfl, Below.refl _ _, ?_⟩
    have := HN.out
    match d with
    | [] => rfl
    | a :: r => rfl
  case round =>
    obtain ⟨k, hk1, hk, rfl, hbel, hpre⟩ := hrel
    have HB := Lib.hid hbel
    have HPRE := Lib.hid hpre
    clear hbel hpre
    by_cases hlt : k < n
    · obtain ⟨x, y, hxy⟩ := at_lt (l := d) (k := k) (by rw [HN.out]; exact hlt)
      obtain ⟨u, v, huv⟩ := at_lt (l := d) (k := k - 1) (by rw [HN.out]; omega)
      obtain ⟨c0, c1, _, _⟩ := HH.out.later hg HB.out k x y hxy
      obtain ⟨b0, b1, _, _⟩ := HH.out.later hg HB.out (k - 1) u v huv
      have hgw : g < wr.heap.size := Nat.lt_of_lt_of_le hg HB.out.size
      have HXY := Lib.hid hxy
      have HUV := Lib.hid huv
      have hsubI : (1 : Int) ≤ (k : Int) := by omega
      clear hxy huv
      have hlast : (cmpct (d.take k)).getLast? = some (u, v) := by
        rw [cmpct_last, List.getLast?_take, HUV.out]
        simp; omega
      have HLAST := Lib.hid hlast
      have HSTEP := Lib.hid (cmpct_take d k (x, y) HXY.out)
      clear hlast
      by_cases q1 : x = u
      · by_cases q2 : y = v
        · subst q1 q2
          have hkcap : k < cap := by omega
          go_wp2_with fail
          refine region_aft (by kernel_rfl) (by kernel_rfl) ?_
          repeat (go_big_quiet_step (fail))
          refine wpQuiet_nil ?_
          rintro w2 ⟨z, rfl⟩
          go_wp2_with fail
          have HD : Hid (RowC z.x g d) := (HH.out.later hg HB.out).later hgw z.h
          have hgz : g < z.x.heap.size := Nat.lt_of_lt_of_le hgw z.h.size
          have HBZ : Hid (Below w.heap.size w z.x) := blThen HB.out z.h
          generalize z.x = W at *
          clear c0 c1 b0 b1
          go_loopw [3, 5] (fun i i2 wr => ∃ (kk k2 : Nat) (c : List (Int × Int)), i = .int .i64 kk ∧ i2 = .int .i64 k2 ∧ k ≤ kk ∧ kk < k + k2 ∧ 1 ≤ k2 ∧ k + k2 ≤ n ∧ c.length = n ∧ RowC wr g c ∧ But g W wr ∧ c.take kk = cmpct (d.take (k + k2)) ∧ ∀ j, k + k2 - 1 ≤ j → c[j]? = d[j]?) (fun _ i2 _ => n - k - (intOf i2).toNat)
          case atStart =>
            refine ⟨k, 1, d, rfl, rfl, Nat.le_refl _, by omega, Nat.le_refl _, by omega, HN.out, HD.out, But.refl _ _, ?_, fun j _ => rfl⟩
            rw [HSTEP.out, stepC, if_pos (by first | exact HLAST.out | simpa using HLAST.out), HPRE.out]
          case round =>
            obtain ⟨kk, k2, c, rfl, rfl, hkk, hkk2, hk21, hk2n, hcl, hrow, hbut, htake, hhigh⟩ := hrel
            have HR := Lib.hid hrow
            have HBU := Lib.hid hbut
            have HT := Lib.hid htake
            have HHI := Lib.hid hhigh
            have HCL := Lib.hid hcl
            have hgr : g < wr.heap.size := Nat.lt_of_lt_of_le hgz hbut.size
            clear hrow hbut htake hhigh hcl
            by_cases hlt2 : k2 < n - k
            · obtain ⟨x, y, hxy⟩ := at_lt (l := d) (k := k + k2) (by rw [HN.out]; omega)
              obtain ⟨u, v, huv⟩ := at_lt (l := d) (k := k + k2 - 1) (by rw [HN.out]; omega)
              obtain ⟨c0, c1, _, _⟩ := HR.out (k + k2) x y (by rw [HHI.out _ (by omega)]; exact hxy)
              obtain ⟨b0, b1, _, _⟩ := HR.out (k + k2 - 1) u v (by rw [HHI.out _ (by omega)]; exact huv)
              have hkkn : kk < n := by omega
              obtain ⟨o0, o1, hold⟩ := at_lt (l := c) (k := kk) (by rw [HCL.out]; exact hkkn)
              obtain ⟨a0, a1, af0, af1⟩ := HR.out kk o0 o1 hold
              rw [show (k + k2) * 2 = k * 2 + k2 * 2 by omega] at c0 c1
              rw [show (k + k2 - 1) * 2 = k * 2 + (k2 - 1) * 2 by omega] at b0 b1
              have hlast : (cmpct (d.take (k + k2))).getLast? = some (u, v) := by
                rw [cmpct_last, List.getLast?_take, huv]
                simp; omega
              have HXY := Lib.hid hxy
              have HLAST2 := Lib.hid hlast
              have HSTEP2 := Lib.hid (cmpct_take d (k + k2) (x, y) hxy)
              have hlt2I : (k2 : Int) < (n : Int) - (k : Int) := by omega
              clear hxy huv hold hlast
              by_cases q1 : x = u
              · by_cases q2 : y = v
                · subst q1 q2
                  go_wp2_with fail
                  refine region_aft (by kernel_rfl) (by kernel_rfl) ?_
                  repeat (go_big_quiet_step (fail))
                  refine wpQuiet_nil ?_
                  rintro w2 ⟨z2, rfl⟩
                  go_wp2
                  go_roundw
                  case rel =>
                    refine ⟨kk, k2 + 1, c, by go_num, by go_num, by omega, by omega, by omega, by omega, HCL.out, HR.out.later hgr z2.h, HBU.out.trans (But.of_below z2.h), ?_, fun j hj => HHI.out j (by omega)⟩
                    rw [HT.out, ← Nat.add_assoc, HSTEP2.out, stepC, if_pos HLAST2.out]
                  case measure => simp [intOf]; omega
                · subst q1
                  have HNE : Hid (¬ ((x, y) = ((x, v) : Int × Int))) := fun h => q2 (by simpa using h)
                  have q2b : (y == v) = false := by simpa using q2
                  have q2c : (y != v) = true := by simpa using q2
                  clear q2
                  go_wp2_with fail
                  refine region_aft (by kernel_rfl) (by kernel_rfl) ?_
                  repeat (go_big_quiet_step (fail))
                  refine wpQuiet_nil ?_
                  rintro w2 ⟨z2, rfl⟩
                  go_wp2
                  go_roundw
                  case rel =>
                    refine ⟨kk + 1, k2 + 1, c.set kk (x, y), by go_num, by go_num, by omega, by omega, by omega, by omega, by rw [List.length_set]; exact HCL.out, (HR.out.later hgr z2.h).set (by rw [HCL.out]; exact hkkn) x y, ((HBU.out.trans (But.of_below z2.h)).setb _ _).setb _ _, ?_, fun j hj => ?_⟩
                    · rw [List.take_add_one, List.getElem?_set_self (by rw [HCL.out]; exact hkkn), List.take_set_of_le (Nat.le_refl _), HT.out, ← Nat.add_assoc, HSTEP2.out, stepC, if_neg (by rw [HLAST2.out]; exact fun h => HNE.out (Option.some.inj h).symm)]
                      rfl
                    · rw [List.getElem?_set_ne (by omega)]
                      exact HHI.out j (by omega)
                  case measure => simp [intOf]; omega
              · have HNE : Hid (¬ ((x, y) = ((u, v) : Int × Int))) := fun h => q1 (by simp only [Prod.mk.injEq] at h; exact h.1)
                have q1b : (x == u) = false := by simpa using q1
                have q1c : (x != u) = true := by simpa using q1
                clear q1
                go_wp2_with fail
                refine region_aft (by kernel_rfl) (by kernel_rfl) ?_
                repeat (go_big_quiet_step (fail))
                refine wpQuiet_nil ?_
                rintro w2 ⟨z2, rfl⟩
                go_wp2
                go_roundw
                case rel =>
                  refine ⟨kk + 1, k2 + 1, c.set kk (x, y), by go_num, by go_num, by omega, by omega, by omega, by omega, by rw [List.length_set]; exact HCL.out, (HR.out.later hgr z2.h).set (by rw [HCL.out]; exact hkkn) x y, ((HBU.out.trans (But.of_below z2.h)).setb _ _).setb _ _, ?_, fun j hj => ?_⟩
                  · rw [List.take_add_one, List.getElem?_set_self (by rw [HCL.out]; exact hkkn), List.take_set_of_le (Nat.le_refl _), HT.out, ← Nat.add_assoc, HSTEP2.out, stepC, if_neg (by rw [HLAST2.out]; exact fun h => HNE.out (Option.some.inj h).symm)]
                    rfl
                  · rw [List.getElem?_set_ne (by omega)]
                    exact HHI.out j (by omega)
                case measure => simp [intOf]; omega
            · have hk2 : k + k2 = n := by omega
              have hfin : c.take kk = cd := by
                rw [HT.out, ← HV.out, List.take_of_length_le (by rw [HN.out]; omega)]
              have hlenc : cd.length = kk := by
                rw [← hfin, List.length_take, HCL.out]
                omega
              have HF : Hid (RowC wr g cd) := by
                rw [← hfin]
                exact HR.out.take kk
              have hclr := fun ty => run_clear_st wr ty g (kk * 2) (n - kk) (cap - kk) (by omega)
                (fun j hj => by
                  obtain ⟨p, q, hpq⟩ := at_lt (l := c) (k := kk + j / 2) (by rw [HCL.out]; omega)
                  obtain ⟨r0, r1, _, _⟩ := HR.out _ p q hpq
                  rcases Nat.mod_two_eq_zero_or_one j with hm | hm
                  · rw [show kk * 2 + j = (kk + j / 2) * 2 by omega, r0]; rfl
                  · rw [show kk * 2 + j = (kk + j / 2) * 2 + 1 by omega, r1]; rfl)
                (fun j hj => by
                  obtain ⟨p, q, hpq⟩ := at_lt (l := c) (k := kk + j / 2) (by rw [HCL.out]; omega)
                  obtain ⟨_, _, r0, r1⟩ := HR.out _ p q hpq
                  rcases Nat.mod_two_eq_zero_or_one j with hm | hm
                  · rw [show kk * 2 + j = (kk + j / 2) * 2 by omega, r0]
                  · rw [show kk * 2 + j = (kk + j / 2) * 2 + 1 by omega, r1])
              have hge : ¬ (k2 : Int) < (n : Int) - (k : Int) := by omega
              have hkc : kk < cap := by omega
              have hkn : kk < n := by omega
              have HLC := Lib.hid hlenc
              have HFI := Lib.hid hfin
              clear hlenc hfin hk2
              go_wp2
              go_ret
              exact ⟨by rw [HLC.out]; rfl, ((But.of_below HBZ.out).trans HBU.out).trans (but_setCells g _ _ _), HF.out.cleared (by rw [HLC.out]; exact Nat.le_refl _) _⟩
        · subst q1
          have HNE : Hid (¬ ((x, y) = ((x, v) : Int × Int))) := fun h => q2 (by simpa using h)
          have q2b : (y == v) = false := by simpa using q2
          have q2c : (y != v) = true := by simpa using q2
          clear q2
          go_wp2_with fail
          refine region_aft (by kernel_rfl) (by kernel_rfl) ?_
          repeat (go_big_quiet_step (fail))
          refine wpQuiet_nil ?_
          rintro w2 ⟨z, rfl⟩
          go_wp2
          go_roundw
          case rel =>
            refine ⟨k + 1, by omega, by omega, by go_num, blThen HB.out z.h, ?_⟩
            rw [HSTEP.out, stepC, if_neg (by rw [HLAST.out]; exact fun h => HNE.out (Option.some.inj h).symm), HPRE.out, List.take_add_one, HXY.out]
            rfl
          case measure => simp [intOf]; omega
      · have HNE : Hid (¬ ((x, y) = ((u, v) : Int × Int))) := fun h => q1 (by simp only [Prod.mk.injEq] at h; exact h.1)
        have q1b : (x == u) = false := by simpa using q1
        have q1c : (x != u) = true := by simpa using q1
        clear q1
        go_wp2_with fail
        refine region_aft (by kernel_rfl) (by kernel_rfl) ?_
        repeat (go_big_quiet_step (fail))
        refine wpQuiet_nil ?_
        rintro w2 ⟨z, rfl⟩
        go_wp2
        go_roundw
        case rel =>
          refine ⟨k + 1, by omega, by omega, by go_num, blThen HB.out z.h, ?_⟩
          rw [HSTEP.out, stepC, if_neg (by rw [HLAST.out]; exact fun h => HNE.out (Option.some.inj h).symm), HPRE.out, List.take_add_one, HXY.out]
          rfl
        case measure => simp [intOf]; omega
    · have hkn : k = n := by omega
      have hfin : cd = d := by
        rw [← HV.out]
        have := HPRE.out
        rwa [List.take_of_length_le (by rw [HN.out]; omega)] at this
      have HFI := Lib.hid hfin
      clear hfin hkn
      go_wp2
      go_ret
      exact ⟨by rw [HFI.out, HN.out]; rfl, But.of_below HB.out, by rw [HFI.out]; exact HH.out.later hg HB.out⟩

end S1
end Go.Proofs.YtjlkgbejldcklaaGreat
