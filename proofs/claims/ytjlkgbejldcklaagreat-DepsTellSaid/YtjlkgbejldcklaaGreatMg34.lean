/- The reference's Below, Only, Without of Deps; lists of numbers in memory. Conditions: lists of at most a million. -/
import Derived.Deep.RegionHeld3
import Derived.Deep.RegionLaw
import Derived.Deep.AppendLies
import Derived.Test.YtjlkgbejldcklaaGreatMg33
/- The reference's Below, Only, Without of Deps; lists of numbers in memory. Conditions: lists of at most a million. -/
set_option linter.unusedVariables false
namespace Go.Proofs.YtjlkgbejldcklaaGreat
open S1
namespace SD
open Go.RowKit

theorem dl_mem {w : World} {a : Option Addr} {l : List Dp} (h : Dl w a l) {s : Dp} (hs : s ∈ l) : IdsAt w s := h.1 s hs
/-- One Dep that has just been laid. -/
theorem one_newD (X : World) (s : Dp) (n : Nat) (h : X.heap.size = n) : RowD (X.alloc (.cells #[.int .i64 s.sh, ilD s] 26)) n 0 [s] := by
  subst h
  have hb : (X.alloc (.cells #[.int .i64 s.sh, ilD s] 26)).heap[X.heap.size]? = some (.cells #[.int .i64 s.sh, ilD s] 26 (0, 0)) := by
    show (X.heap.push _)[X.heap.size]? = _
    simp
  intro i x hi
  cases i with
  | zero =>
    simp only [List.getElem?_cons_zero, Option.some.injEq] at hi
    subst hi
    exact ⟨by simp only [World.cell?, hb]; simp, by simp only [World.cell?, hb]; simp⟩
  | succ i => simp at hi
theorem grown_belowD {B base : Nat} {x w w' : World} {v : Value} {d : List Dp} (h : Below B x w) (hown : OwnD w base v d) (hB : B ≤ base) (hw : B ≤ w.heap.size) (hg : w.grownBy w' v.ownBlock) : Below B x w' :=
  h.grown hg hw (fun k hk => Nat.le_trans hB (hown.block k hk).1)
/-- The numbers of l lie at a. -/
def Nl (w : World) (a : Option Addr) (l : List Int) : Prop := l ≠ [] → ∃ g o, a = some ⟨g, o, none⟩ ∧ g < w.heap.size ∧ ∀ (i : Nat) x, l[i]? = some x → w.cell? ⟨g, o + i, none⟩ = some (.int .i64 x)
theorem Nl.later {W wr : World} {a : Option Addr} {l : List Int} (h : Nl W a l) (hw : Below W.heap.size W wr) : Nl wr a l := by
  intro hne
  obtain ⟨g, o, ha, hg, hl⟩ := h hne
  exact ⟨g, o, ha, Nat.lt_of_lt_of_le hg hw.size, fun i x hi => cell_in hw hg (hl i x hi)⟩
theorem Nl.at {w : World} {a : Option Addr} {l : List Int} (h : Nl w a l) {k : Nat} {x : Int} (hx : l[k]? = some x) : ∃ g o, a = some ⟨g, o, none⟩ ∧ g < w.heap.size ∧ w.cell? ⟨g, o + k, none⟩ = some (.int .i64 x) := by
  obtain ⟨g, o, ha, hg, hl⟩ := h (by rintro rfl; simp at hx)
  exact ⟨g, o, ha, hg, hl k x hx⟩
/-- Those of these shards. -/
def onlyP (P : List Int) (s : Dp) : Bool := P.any (· == s.sh)
theorem toD_only (l : List Dp) (P : List Int) : toD (l.filter (onlyP P)) = onlyD (toD l) P := by
  unfold toD onlyD
  rw [List.filter_map]
  rfl
theorem filterP_take (p : Dp → Bool) {l : List Dp} {k : Nat} {x : Dp} (h : l[k]? = some x) : (l.take (k + 1)).filter p = (l.take k).filter p ++ if p x = true then [x] else [] := by
  rw [List.take_add_one, h, List.filter_append]
  cases h : p x <;> simp [h]
theorem any_take_n {P : List Int} {j : Nat} {x s : Int} (h : P[j]? = some x) (hn : (P.take j).any (· == s) = false) (hne : x ≠ s) : (P.take (j + 1)).any (· == s) = false := by
  rw [List.take_add_one, h, List.any_append, hn]
  simpa using hne
theorem any_hit {P : List Int} {j : Nat} {s : Int} (h : P[j]? = some s) : P.any (· == s) = true := List.any_eq_true.2 ⟨s, List.mem_of_getElem? h, by simp⟩

set_option maxRecDepth 100000 in
set_option maxHeartbeats 2000000 in
theorem refonly_any (a : Option Addr) (c : Nat) (l : List Dp) (ap : Option Addr) (cp : Nat) (P : List Int) (w : World) (hlen : l.length ≤ 1000000) (hlp : P.length ≤ 1000000) (hl : Dl w a l) (hp : Nl w ap P) :
    Calls Tryz.prog 32 #[.slice a l.length c, .slice ap P.length cp] w (RetD w (onlyD (toD l) P)) := by
  have HL := Lib.hid hl
  have HP := Lib.hid hp
  clear hl hp
  go_enter Tryz.func32, Tryz.ntmps32
  go_wp2
  go_loopw [5, 6] (fun v i wr => ∃ k : Nat, k ≤ l.length ∧ i = .int .i64 k ∧ OwnD wr w.heap.size v ((l.take k).filter (onlyP P)) ∧ Below w.heap.size w wr) (fun _ i _ => l.length - (intOf i).toNat)
  case atStart => exact ⟨0, Nat.zero_le _, rfl, OwnD.nil _ _, Below.refl _ _⟩
  case round =>
    obtain ⟨k, hk, rfl, ho, hb⟩ := hrel
    have HB := Lib.hid hb
    have HO := Lib.hid ho
    obtain ⟨av, cv, rfl, _⟩ := ho.row
    clear hb ho
    by_cases hlt : k < l.length
    · obtain ⟨s, hs⟩ := at_ltD hlt
      obtain ⟨b, o, rfl, hbg, hx, hy, hi⟩ := HL.out.at hs
      have HE := Lib.hid (fun (W : World) (hb : Below w.heap.size w W) => (⟨cell_in hb hbg hx, cell_in hb hbg hy, Nat.lt_of_lt_of_le hbg hb.size⟩ : W.cell? ⟨b, o + k * 2, none⟩ = some (.int .i64 s.sh) ∧ W.cell? ⟨b, o + k * 2 + 1, none⟩ = some (ilD s) ∧ b < W.heap.size))
      have hk1 : (k : Int) < (l.length : Int) := by omega
      have hk0 : (0 : Int) ≤ (k : Int) := by omega
      have hdk : decide ((k : Int) < (l.length : Int)) = true := decide_eq_true hk1
      have HFT := Lib.hid (filterP_take (onlyP P) hs)
      have HLL : Hid (((l.take k).filter (onlyP P)).length ≤ 1000000) := Nat.le_trans (List.length_filter_le _ _) (by rw [List.length_take]; omega)
      clear hs hx hy hi hbg
      generalize hF : (l.take k).filter (onlyP P) = F at *
      go_wp2
      go_loopw [5, 7] (fun v i wr => v = .slice av F.length cv ∧ ∃ j : Nat, j ≤ P.length ∧ i = .int .i64 j ∧ (P.take j).any (· == s.sh) = false ∧ OwnD wr w.heap.size (.slice av F.length cv) F ∧ Below w.heap.size w wr) (fun _ i _ => P.length - (intOf i).toNat)
      case atStart => exact ⟨rfl, 0, Nat.zero_le _, rfl, rfl, HO.out, HB.out⟩
      case round =>
        clear HB HO
        obtain ⟨rfl, j, hj, rfl, hno, ho, hb⟩ := hrel
        obtain ⟨e0, e1, hbw⟩ := HE.out _ hb
        have HB := Lib.hid hb
        have HO := Lib.hid ho
        have HN := Lib.hid hno
        clear hb ho hno
        by_cases hjl : j < P.length
        · obtain ⟨x, hxj⟩ := at_ltD hjl
          obtain ⟨gp, op, rfl, hgp, x0⟩ := (HP.out.later HB.out).at hxj
          have hj1 : (j : Int) < (P.length : Int) := by omega
          have hj0 : (0 : Int) ≤ (j : Int) := by omega
          have hdj : decide ((j : Int) < (P.length : Int)) = true := decide_eq_true hj1
          have HXJ := Lib.hid hxj
          clear hxj
          by_cases hq : s.sh = x
          · obtain rfl := hq
            have HY : Hid (onlyP P s = true) := any_hit HXJ.out
            go_wp2_with fail
            refine region_aft (by kernel_rfl) (by kernel_rfl) ?_
            repeat (go_big_quiet_step (fail))
            refine wpQuiet_nil ?_
            rintro w2 ⟨z, rfl⟩
            have hz := z.h
            obtain ⟨f0, f1, hbz⟩ := HE.out _ (blThen HB.out hz)
            have HBZ := Lib.hid (blThen HB.out hz)
            have HOZ := Lib.hid (HO.out.later hz)
            generalize z.x = W at *
            clear e0 e1 hbw x0 HB HO hz
            go_wp2_with (at_builtin; (refine append_dp rfl (.tmp 30) (.tmp 35) rfl w.heap.size _ F rfl (HOZ.out.later (blAlloc (Below.refl _ _) _)) _ _ _ [s] rfl rfl (fun _ => ⟨_, _, rfl, one_newD W s _ rfl⟩) (fun h => (by cases h)) (by have := HLL.out; simp; omega) (by have := HBZ.out.size; simp; omega) ?_); intro v1 w3 h1 h2; have H1 := Lib.hid h1; have H2 := Lib.hid (grown_belowD (blAlloc HBZ.out _) (HOZ.out.later (blAlloc (Below.refl _ _) _)) (Nat.le_refl _) (by have := HBZ.out.size; simp; omega) h2); clear h1 h2)
            go_roundw
            case rel => exact ⟨k + 1, hlt, by go_num, by rw [HFT.out, HY.out]; exact H1.out, H2.out⟩
            case measure => simp [intOf]; omega
          · have hb1 : ((s.sh == x) = false) := by simpa using hq
            go_wp2_with fail
            refine region_aft (by kernel_rfl) (by kernel_rfl) ?_
            repeat (go_big_quiet_step (fail))
            refine wpQuiet_nil ?_
            rintro w2 ⟨z, rfl⟩
            go_wp2
            go_roundw
            case rel => exact ⟨rfl, j + 1, hjl, by go_num, any_take_n HXJ.out HN.out (fun e => hq e.symm), HO.out.later z.h, blThen HB.out z.h⟩
            case measure => simp [intOf]; omega
        · have hge : ¬ (j : Int) < (P.length : Int) := by omega
          have hdj : decide ((j : Int) < (P.length : Int)) = false := decide_eq_false hge
          have HY : Hid (onlyP P s = false) := by
            have h := HN.out
            rwa [List.take_of_length_le (by omega)] at h
          go_wp2
          go_roundw
          case rel => exact ⟨k + 1, hlt, by go_num, by rw [HFT.out, HY.out]; simpa using HO.out, HB.out⟩
          case measure => simp [intOf]; omega
    · have hge : ¬ (k : Int) < (l.length : Int) := by omega
      have hdk : decide ((k : Int) < (l.length : Int)) = false := decide_eq_false hge
      have HOF : Hid (OwnD wr w.heap.size (.slice av ((l.take k).filter (onlyP P)).length cv) (l.filter (onlyP P))) := by
        have h := HO.out
        rwa [show (l.take k).filter (onlyP P) = l.filter (onlyP P) by rw [List.take_of_length_le (by omega)]] at h ⊢
      have HLB := Lib.hid (HL.out.later HB.out)
      go_wp2
      go_ret
      obtain ⟨a2, c2, hv, h1, h2, h3⟩ := HOF.out.dl fun s hs => HLB.out.1 s (List.mem_filter.1 hs).1
      exact ⟨a2, c2, _, by rw [← hv]; rfl, toD_only l P, h3, h1, h2, HB.out⟩

end SD
end Go.Proofs.YtjlkgbejldcklaaGreat
