/- What the laws of dependencies share: small. Conditions: each list of Ids takes less than 2^47 bytes. -/
import Derived.SizedLaws
import Derived.Test.YtjlkgbejldcklaaGreatMg33
import Derived.Test.YtjlkgbejldcklaaGreatMg02
import Derived.Test.YtjlkgbejldcklaaGreatMg00
/- The arguments of this stage's laws, opened: dependencies that came in. Conditions: none. -/
set_option linter.unusedVariables false
set_option maxRecDepth 100000
namespace Go.Proofs.YtjlkgbejldcklaaGreat
open S1
namespace SD
open Go.ChangeShapes Go.WideShapes Go.ChangeAt Go.RowKit Go.Joins Go.Deep

theorem cellsDep : Tryz.prog.cellsOf 26 = 2 := by kernel_rfl
theorem bytesSt : Tryz.prog.bytesOf 42 = 16 := by kernel_rfl
theorem cells_i6 : Tryz.prog.cellsOf 3 = 1 := by kernel_rfl
theorem cells_ids : Tryz.prog.cellsOf 24 = 1 := by kernel_rfl
/-- All the numbers in them fit. -/
def WfD (l : List Dp) : Prop := ∀ s ∈ l, (Lit.int .i64 s.sh).wf = true ∧ ∀ i ∈ s.ids, (Lit.int .i64 i.1).wf = true ∧ (Lit.int .i64 i.2).wf = true

section
variable {H : Type} {enc : TypeId × Value → H}
theorem weightsAll_mem6 {P : Program} {e : TypeId} {d : DataW H} {n : Nat} (hn : n ∈ d.weights P e) : ∀ {l : List (DataW H)}, d ∈ l → n ∈ DataW.weightsAll P e l
  | y :: r, h => by
    unfold DataW.weightsAll
    rcases List.mem_cons.1 h with rfl | h
    · exact List.mem_append_left _ hn
    · exact List.mem_append_right _ (weightsAll_mem6 hn h)
theorem weights_elem6 {P : Program} {t e : TypeId} (ht : P.underlying t = some (.slice e)) {elems spare : List (DataW H)} {d : DataW H} (hd : d ∈ elems) {n : Nat} (hn : n ∈ d.weights P e) : n ∈ (DataW.slice elems spare : DataW H).weights P t := by
  simp only [DataW.weights, ht]
  exact List.mem_cons_of_mem _ (List.mem_append_left _ (weightsAll_mem6 hn hd))
/-- Dependencies, as a value's cells read. -/
theorem deps_cells {w : World} {cs : List Value} {fuel : Nat} {x : DataW H × List MemPlace} (hf' : DataW.trod enc Tryz.prog w 0 (fun _ => true) true fuel 22 cs = some x) :
    ∃ (a : Option Addr) (l : List Dp) (cap : Nat), cs = [.slice a l.length cap] ∧ Dl w a l ∧ l.length ≤ 9223372036854775807 ∧ (a = none → cap = 0) ∧ l.length ≤ cap ∧ WfD l ∧ (∀ s ∈ l, s.ids.length ≤ 9223372036854775807) ∧ ∀ s ∈ l, s.ids.length = 0 ∨ ∃ n ∈ x.1.weights Tryz.prog 22, s.ids.length ≤ n := by
  rcases open_slice Tryz.underlying22 hf' with ⟨hcs, _⟩ | ⟨a, len, cap, m, n, D, Pl, hcs, _, hl, hm, hmm, hx, hi⟩
  · exact ⟨none, [], 0, hcs, Dl.nil _ _, Nat.zero_le _, fun _ => rfl, Nat.le_refl _, fun s h => (by cases h), fun s h => (by cases h), fun s h => (by cases h)⟩
  · subst hcs
    simp only [if_true] at hmm
    subst hmm
    have hone : ∀ i, i < len → ∃ q : Dp, w.cell? (a.add (i * 2)) = some (.int .i64 q.sh) ∧ w.cell? ((a.add (i * 2)).add 1) = some (ilD q) ∧ IdsAt w q ∧ (Lit.int .i64 q.sh).wf = true ∧ (∀ i ∈ q.ids, (Lit.int .i64 i.1).wf = true ∧ (Lit.int .i64 i.2).wf = true) ∧ q.ids.length ≤ 9223372036854775807 ∧ (q.ids.length = 0 ∨ ∃ n ∈ (D i).weights Tryz.prog 26, q.ids.length ≤ n) := by
      intro i hlt
      obtain ⟨cs', hc, ht⟩ := hi i (by omega)
      rw [cellsDep] at hc
      obtain ⟨_, hlen, hat⟩ := World.cells?_some hc
      match cs', hlen with
      | [c0, c1], _ =>
        obtain ⟨y0, y1, k, hf, hd, h0, h1⟩ := trod_struct2 Tryz.underlying26 ht
        have e0 : DataW.trod enc Tryz.prog w 0 (fun _ => true) true k 3 [c0] = some y0 := by simpa [cells_i6] using h0
        have e1 : DataW.trod enc Tryz.prog w 0 (fun _ => true) true k 24 [c1] = some y1 := by simpa [cells_ids] using h1
        obtain ⟨x, hx0, _, wx⟩ := DataW.trod_int Tryz.underlying3 e0
        obtain ⟨na, nl, nc, hn0, hn1, hn2, hn3, _, hn5⟩ := stamps_cells e1
        have hcap : nl.length ≤ nc := by
          rcases open_slice Tryz.underlying24 e1 with ⟨hcs2, _⟩ | ⟨a2, len2, cap2, _, _, _, _, hcs2, _, hl2, _⟩
          · rw [hn0] at hcs2
            simp only [List.cons.injEq, Value.slice.injEq, and_true] at hcs2
            omega
          · rw [hn0] at hcs2
            simp only [List.cons.injEq, Value.slice.injEq, and_true] at hcs2
            obtain ⟨_, h5, h6⟩ := hcs2
            omega
        have hwt : nl.length = 0 ∨ ∃ n ∈ (D i).weights Tryz.prog 26, nl.length ≤ n := by
          rcases open_slice Tryz.underlying24 e1 with ⟨hcs2, _⟩ | ⟨a2, len2, cap2, m2, n2, D2, Pl2, hcs2, _, hl2, _, hm2, hx2, _⟩
          · rw [hn0] at hcs2
            simp only [List.cons.injEq, Value.slice.injEq, and_true] at hcs2
            exact .inl hcs2.2.1
          · rw [hn0] at hcs2
            simp only [List.cons.injEq, Value.slice.injEq, and_true] at hcs2
            obtain ⟨_, h5, _⟩ := hcs2
            have hD : D i = .agg [y0.1, y1.1] := congrArg Prod.fst hf
            refine .inr ⟨?nn, ?mem, ?le⟩
            case mem =>
              rw [hD]
              simp only [DataW.weights, Tryz.underlying26]
              refine List.mem_append_right _ (List.mem_append_left _ ?_)
              rw [hx2]
              simp only [DataW.weights, Tryz.underlying24]
              exact List.mem_cons_self
            case le =>
              rw [bytesSt]
              simp only [List.length_map, List.length_range]
              omega
        simp only [List.cons.injEq, and_true] at hx0 hn0
        subst hx0 hn0
        exact ⟨⟨x, na, nc, nl⟩, by simpa [Addr.add] using hat 0 (by omega), hat 1 (by omega), ⟨hn1, hn3, hcap⟩, wx, hn5, hn2, hwt⟩
    obtain ⟨f, hf2⟩ : ∃ f : Nat → Dp, ∀ i, i < len → w.cell? (a.add (i * 2)) = some (.int .i64 (f i).sh) ∧ w.cell? ((a.add (i * 2)).add 1) = some (ilD (f i)) ∧ IdsAt w (f i) ∧ (Lit.int .i64 (f i).sh).wf = true ∧ (∀ j ∈ (f i).ids, (Lit.int .i64 j.1).wf = true ∧ (Lit.int .i64 j.2).wf = true) ∧ (f i).ids.length ≤ 9223372036854775807 ∧ ((f i).ids.length = 0 ∨ ∃ n ∈ (D i).weights Tryz.prog 26, (f i).ids.length ≤ n) :=
      ⟨fun i => if h : i < len then Classical.choose (hone i h) else ⟨0, none, 0, []⟩, fun i hlt => by simp only [hlt, dif_pos]; exact Classical.choose_spec (hone i hlt)⟩
    have hlen : ((List.range len).map f).length = len := by simp
    have hat : ∀ (j : Nat) (s : Dp), ((List.range len).map f)[j]? = some s → j < len ∧ s = f j := by
      intro j s hj
      have hjl : j < len := by
        have := (List.getElem?_eq_some_iff.1 hj).1
        simpa using this
      exact ⟨hjl, by simpa [List.getElem?_map, List.getElem?_range, hjl, eq_comm] using hj⟩
    have hmem : ∀ s ∈ (List.range len).map f, ∃ i, i < len ∧ s = f i := by
      intro s hs
      obtain ⟨i, hi2, rfl⟩ := List.mem_map.1 hs
      exact ⟨i, List.mem_range.1 hi2, rfl⟩
    unfold maxLen at hm
    refine ⟨some a, (List.range len).map f, _, by rw [hlen], ⟨fun s hs => ?_, fun hne => ?_⟩, by rw [hlen]; omega, fun h => (by cases h), by rw [hlen]; exact hl, fun s hs => ?_, fun s hs => ?_, fun s hs => ?_⟩
    · obtain ⟨i, hil, rfl⟩ := hmem s hs
      exact (hf2 i hil).2.2.1
    · have h0 : 0 < len := by
        rcases Nat.eq_zero_or_pos len with h | h
        · subst h
          exact absurd rfl hne
        · exact h
      have h00 := (hf2 0 h0).1
      have e : a.add (0 * 2) = a := by rw [Nat.zero_mul]; unfold Addr.add; split <;> simp_all
      rw [e] at h00
      obtain ⟨b, off, spot⟩ := a
      have hspot : spot = none := World.cell?_spot h00
      subst hspot
      refine ⟨b, off, rfl, World.block_lt_of_cell? _ _ h00, fun i s hi' => ?_⟩
      obtain ⟨hil, rfl⟩ := hat i s hi'
      obtain ⟨g0, g1, _⟩ := hf2 i hil
      rw [Go.WideShapes.add_plain] at g0
      rw [Go.WideShapes.add_plain, Go.WideShapes.add_plain] at g1
      exact ⟨g0, g1⟩
    · obtain ⟨i, hil, rfl⟩ := hmem s hs
      exact ⟨(hf2 i hil).2.2.2.1, (hf2 i hil).2.2.2.2.1⟩
    · obtain ⟨i, hil, rfl⟩ := hmem s hs
      exact (hf2 i hil).2.2.2.2.2.1
    · obtain ⟨i, hil, rfl⟩ := hmem s hs
      rcases (hf2 i hil).2.2.2.2.2.2 with h | ⟨n, hn, h⟩
      · exact .inl h
      · refine .inr ⟨n, ?_, h⟩
        rw [hx]
        exact weights_elem6 Tryz.underlying22 (List.mem_map.2 ⟨i, List.mem_range.2 hil, rfl⟩) hn
/-- Dependencies that came in. -/
theorem open_deps {r : Reach} {b0 : Nat} {w : World} {v : Value} {d : DataW H} {p : List MemPlace} (hv : Value.okWide Tryz.prog w r b0 22 v) (h : DataW.Trod enc Tryz.prog w 0 (fun _ => true) true 22 v d p) :
    ∃ (a : Option Addr) (l : List Dp) (cap : Nat), v = .slice a l.length cap ∧ Dl w a l ∧ l.length ≤ 9223372036854775807 ∧ (a = none → cap = 0) ∧ l.length ≤ cap ∧ WfD l ∧
      ∀ (ts : List TypeId) (ds : List (DataW H)) (i : Nat), (DataW.weightsEach Tryz.prog ts ds).all (· ≤ reachBytes) = true → ts[i]? = some 22 → ds[i]? = some d → ∀ s ∈ l, s.ids.length ≤ 140737488355328 := by
  obtain ⟨a0, len, cap, rfl⟩ := okWide_slice Tryz.underlying22 hv
  obtain ⟨fuel, hf⟩ := h
  have hf' : DataW.trod enc Tryz.prog w 0 (fun _ => true) true fuel 22 [.slice a0 len cap] = some (d, p) := by simpa [Value.cells] using hf
  obtain ⟨a, l, cap', hcs, h1, h2, h3, h4, h5, _, h7⟩ := deps_cells hf'
  simp only [List.cons.injEq, and_true] at hcs
  refine ⟨a, l, cap', hcs, h1, h2, h3, h4, h5, fun ts ds i hsz ht hd s hs => ?_⟩
  rcases h7 s hs with h | ⟨n, hn, h⟩
  · omega
  · have h8 := List.all_eq_true.1 hsz n (DataW.weights_mem_each ht hd n hn)
    have h9 := reachBytes_lt
    simp only [decide_eq_true_eq] at h8
    omega
end

end SD
end Go.Proofs.YtjlkgbejldcklaaGreat

/- What the laws of dependencies share: small. Conditions: each list of Ids takes less than 2^47 bytes. -/
set_option linter.unusedVariables false
namespace Go.Proofs.YtjlkgbejldcklaaGreat
open S1
namespace SD
open Go.RowKit

theorem idsN_take_big {l : List Dp} (hr : ∀ s ∈ l, s.ids.length ≤ 140737488355328) (k : Nat) : idsN ((toD l).take k) ≤ k * 140737488355328 := by
  induction k with
  | zero => simp [idsN]
  | succ k ih =>
    by_cases hk : k < l.length
    · obtain ⟨s, hs⟩ := at_ltD hk
      rw [idsN_take (toD_at hs), Nat.add_mul, Nat.one_mul]
      exact Nat.add_le_add ih (hr s (List.mem_of_getElem? hs))
    · have e : (toD l).take (k + 1) = (toD l).take k := by
        rw [List.take_of_length_le (by rw [toD_length]; omega), List.take_of_length_le (by rw [toD_length]; omega)]
      rw [e]
      exact Nat.le_trans ih (Nat.mul_le_mul_right _ (Nat.le_succ k))
set_option maxRecDepth 100000 in
set_option maxHeartbeats 2000000 in
theorem small6_any (a : Option Addr) (c : Nat) (l : List Dp) (w : World) (hm : l.length ≤ 9223372036854775807) (hr : ∀ s ∈ l, s.ids.length ≤ 140737488355328) (hl : Dl w a l) :
    Calls Tryz.prog 23 #[.slice a l.length c] w fun e w' => e = .returned (.bool (decide (l.length ≤ 20 ∧ idsN (toD l) ≤ 100))) ∧ w = w' := by
  have HL := Lib.hid hl
  have HR := Lib.hid hr
  clear hl hr
  generalize hv : decide (l.length ≤ 20 ∧ idsN (toD l) ≤ 100) = v
  have HVV := Lib.hid hv
  clear hv
  go_enter Tryz.func23, Tryz.ntmps23
  go_wp2
  go_loopw [3, 4] (fun v i wr => ∃ k : Nat, k ≤ l.length ∧ k ≤ 21 ∧ v = .int .i64 (idsN ((toD l).take k) : Nat) ∧ i = .int .i64 k ∧ w = wr) (fun _ i _ => l.length - (intOf i).toNat)
  case atStart => exact ⟨0, Nat.zero_le _, by omega, rfl, rfl, rfl⟩
  case round =>
    obtain ⟨k, hk, hk21, rfl, rfl, rfl⟩ := hrel
    have hbig := idsN_take_big HR.out k
    by_cases hlt : k < l.length
    · have hk1 : (k : Int) < (l.length : Int) := by omega
      have hk0 : (0 : Int) ≤ (k : Int) := by omega
      have hdk : decide ((k : Int) < (l.length : Int)) = true := decide_eq_true hk1
      by_cases h20 : k ≤ 20
      · obtain ⟨s, hs⟩ := at_ltD hlt
        obtain ⟨b, o, rfl, hbg, hx, hy, hi⟩ := HL.out.at hs
        have hd20 : decide ((k : Int) ≤ 20) = true := decide_eq_true (by omega)
        have HFT := Lib.hid (idsN_take (toD_at hs))
        have hsl : s.ids.length ≤ 140737488355328 := HR.out s (List.mem_of_getElem? hs)
        unfold ilD at hy
        clear hs hi
        generalize hG : idsN ((toD l).take k) = G at *
        clear hG
        go_wp2
        go_roundw
        case rel => exact ⟨k + 1, hlt, by omega, by rw [HFT.out]; go_num, by go_num, by first | rfl | trivial⟩
        case measure => simp [intOf]; omega
      · have hd20 : decide ((k : Int) ≤ 20) = false := decide_eq_false (by omega)
        have hdl : decide ((l.length : Int) ≤ 20) = false := decide_eq_false (by omega)
        have HV : Hid (decide (l.length ≤ 20 ∧ idsN (toD l) ≤ 100) = false) := decide_eq_false (by omega)
        go_wp2
        go_ret
        exact ⟨ret_bool (HV.out.symm.trans HVV.out), rfl⟩
    · have hge : ¬ (k : Int) < (l.length : Int) := by omega
      have hdk : decide ((k : Int) < (l.length : Int)) = false := decide_eq_false hge
      have HTK : Hid (idsN ((toD l).take k) = idsN (toD l)) := by
        show _ = _
        rw [List.take_of_length_le (by rw [toD_length]; omega)]
      rw [HTK.out]
      rw [HTK.out] at hbig
      generalize hG : idsN (toD l) = G at *
      by_cases h20 : l.length ≤ 20
      · have hdl : decide ((l.length : Int) ≤ 20) = true := decide_eq_true (by omega)
        by_cases h100 : G ≤ 100
        · have hdg : decide ((G : Int) ≤ 100) = true := decide_eq_true (by omega)
          have HV : Hid (decide (l.length ≤ 20 ∧ G ≤ 100) = true) := decide_eq_true ⟨h20, h100⟩
          clear HTK hG
          go_wp2
          go_ret
          exact ⟨ret_bool (HV.out.symm.trans HVV.out), rfl⟩
        · have hdg : decide ((G : Int) ≤ 100) = false := decide_eq_false (by omega)
          have HV : Hid (decide (l.length ≤ 20 ∧ G ≤ 100) = false) := decide_eq_false fun h => h100 h.2
          clear HTK hG
          go_wp2
          go_ret
          exact ⟨ret_bool (HV.out.symm.trans HVV.out), rfl⟩
      · have hdl : decide ((l.length : Int) ≤ 20) = false := decide_eq_false (by omega)
        have HV : Hid (decide (l.length ≤ 20 ∧ G ≤ 100) = false) := decide_eq_false fun h => h20 h.1
        clear HTK hG
        go_wp2
        go_ret
        exact ⟨ret_bool (HV.out.symm.trans HVV.out), rfl⟩

end SD
end Go.Proofs.YtjlkgbejldcklaaGreat
