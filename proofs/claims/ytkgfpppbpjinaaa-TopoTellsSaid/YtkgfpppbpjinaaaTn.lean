/- The shard of a text, by the program and by the reference. Conditions: a topology that may be. -/
import Derived.Test.YtkgfpppbpjinaaaTm
set_option linter.unusedVariables false
namespace Go.Proofs.Ytkgfpppbpjinaaa
open Go.RowKit

theorem egF1 : ∀ args w, (callFunc 36 args).run Try.prog w = .ok (.enter 36 args) w := enters_of Try.func36 (by kernel_rfl) rfl
/-- Just the shard at place i has the text. -/
def At (l : List Sh) (k : ByteArray) (i : Nat) : Prop := i < l.length ∧ ∀ (j : Nat) (s : Sh), l[j]? = some s → inS s.sp k = decide (j = i)

set_option maxRecDepth 100000 in
set_option maxHeartbeats 2000000 in
theorem indexFunc_any (a : Option Addr) (c : Nat) (l : List Sh) (W : World) (Bk : Nat) (k : ByteArray) (i : Nat) (hlen : l.length ≤ 1000000) (ha : Hl W a l) (hBk : Box1 W Bk 9 (.string k)) (hf : ∀ s ∈ l, fullS s.sp = true) (hi : At l k i) :
    Calls Try.prog 35 #[.slice a l.length c, .func (.func 36) #[] #[.pointer (some ⟨Bk, 0, none⟩)]] W fun e w' => e = .returned (.int .i64 i) ∧ Below W.heap.size W w' := by
  have HA := Lib.hid ha
  have HBK := Lib.hid hBk
  have HF := Lib.hid hf
  have HI := Lib.hid hi.2
  have hil := hi.1
  clear ha hBk hf hi
  go_enter Try.func35, Try.ntmps35
  go_wp2
  go_loopw [8] (fun v wr => ∃ q : Nat, q ≤ i ∧ v = .int .i64 q ∧ Below W.heap.size W wr) (fun v _ => l.length - (intOf v).toNat)
  case atStart => exact ⟨0, Nat.zero_le _, rfl, Below.refl _ _⟩
  case round =>
    obtain ⟨q, hq, rfl, hb⟩ := hrel
    have hlt : q < l.length := by omega
    obtain ⟨s, hs⟩ := at_lt hlt
    obtain ⟨g, o, rfl, hg, d0, d1, d2⟩ := HA.out.at hs
    have c0 := cell_in hb hg d0
    have c1 := cell_in hb hg d1
    have c2 := cell_in hb hg d2
    have hgw := Nat.lt_of_lt_of_le hg hb.size
    have hk0 : (0 : Int) ≤ (q : Int) := by omega
    have hk1 : (q : Int) < (l.length : Int) := by omega
    have hdk : decide ((q : Int) < (l.length : Int)) = true := decide_eq_true hk1
    have HBX := Lib.hid (HBK.out.later hb HBK.out.lt)
    have HFS := Lib.hid (HF.out s (List.mem_of_getElem? hs))
    have HIS := Lib.hid (HI.out q s hs)
    have HB := Lib.hid hb
    clear hs hb d0 d1 d2
    by_cases hqi : q = i
    · have hdq : decide (q = i) = true := decide_eq_true hqi
      have HQI := Lib.hid hqi
      clear hqi
      go_wp2_with (go_at_call 36; refine (find1_any _ Bk k s HBX.out HFS.out).mono ?_; rintro r w1 ⟨rfl, hb1⟩; rw [HIS.out, hdq]; have HB1 := Lib.hid (HB.out.trans (hb1.mono HB.out.size)); clear hb1)
      go_ret
      exact ⟨ret_int (congrArg Int.ofNat HQI.out), HB1.out⟩
    · have hdq : decide (q = i) = false := decide_eq_false hqi
      have HQI : Hid (q + 1 ≤ i) := by show _ ≤ _; omega
      clear hqi
      go_wp2_with (go_at_call 36; refine (find1_any _ Bk k s HBX.out HFS.out).mono ?_; rintro r w1 ⟨rfl, hb1⟩; rw [HIS.out, hdq]; have HB1 := Lib.hid (HB.out.trans (hb1.mono HB.out.size)); clear hb1)
      go_roundw
      case rel => exact ⟨q + 1, HQI.out, by go_num, HB1.out⟩
      case measure => simp [intOf]; omega

set_option maxHeartbeats 1000000 in
theorem find_any (a : Option Addr) (c : Nat) (l : List Sh) (k : ByteArray) (i : Nat) (w : World) (hlen : l.length ≤ 1000000) (ha : Hl w a l) (hf : ∀ s ∈ l, fullS s.sp = true) (hi : At l k i) :
    Calls Try.prog 17 #[.slice a l.length c, .string k] w fun e w' => e = .returned (.int .i64 i) ∧ Below w.heap.size w w' := by
  have hbel := blAlloc (Below.refl w.heap.size w) (.cells #[.string k] 9)
  have HA := Lib.hid (ha.later hbel)
  have HBEL := Lib.hid hbel
  have HBX := Lib.hid (box1_new w 9 (.string k))
  clear ha hbel
  go_enter Try.func17, Try.ntmps17
  go_wp2_with fail
  refine (indexFunc_any _ _ l _ _ k i hlen HA.out HBX.out hf hi).mono ?_
  rintro e w1 ⟨rfl, hb⟩
  have HB := Lib.hid (blThen HBEL.out hb)
  clear hb
  go_wp2
  go_ret
  exact ⟨rfl, HB.out⟩

set_option maxRecDepth 100000 in
set_option maxHeartbeats 2000000 in
theorem reffind_any (a : Option Addr) (c : Nat) (l : List Sh) (k : ByteArray) (i : Nat) (W : World) (hlen : l.length ≤ 1000000) (ha : Hl W a l) (hi : At l k i) :
    Calls Try.prog 18 #[.slice a l.length c, .string k] W fun e w' => e = .returned (.int .i64 i) ∧ Below W.heap.size W w' := by
  have HA := Lib.hid ha
  have HI := Lib.hid hi.2
  have hil := hi.1
  clear ha hi
  go_enter Try.func18, Try.ntmps18
  go_wp2
  go_loopw [5] (fun v wr => ∃ q : Nat, q ≤ i ∧ v = .int .i64 q ∧ Below W.heap.size W wr) (fun v _ => l.length - (intOf v).toNat)
  case atStart => exact ⟨0, Nat.zero_le _, rfl, Below.refl _ _⟩
  case round =>
    obtain ⟨q, hq, rfl, hb⟩ := hrel
    have hlt : q < l.length := by omega
    obtain ⟨s, hs⟩ := at_lt hlt
    obtain ⟨g, o, rfl, hg, d0, d1, d2⟩ := HA.out.at hs
    have c0 := cell_in hb hg d0
    have c1 := cell_in hb hg d1
    have c2 := cell_in hb hg d2
    have hgw := Nat.lt_of_lt_of_le hg hb.size
    have hk0 : (0 : Int) ≤ (q : Int) := by omega
    have hk1 : (q : Int) < (l.length : Int) := by omega
    have hdk : decide ((q : Int) < (l.length : Int)) = true := decide_eq_true hk1
    have HIS : Hid (memL [s.sp] k = decide (q = i)) := by show _ = _; rw [memL_one]; exact HI.out q s hs
    have HB := Lib.hid hb
    clear hs hb d0 d1 d2
    by_cases hqi : q = i
    · have hdq : decide (q = i) = true := decide_eq_true hqi
      have HQI := Lib.hid hqi
      clear hqi
      go_wp2_with fail
      refine (refhas_any _ [s.sp] k _ (by simp) (sl_one _ s.sp _ rfl)).mono ?_
      rintro r w1 ⟨rfl, hb1⟩
      rw [HIS.out, hdq]
      have HB1 := Lib.hid ((blAlloc HB.out _).trans (hb1.mono (blAlloc HB.out _).size))
      clear hb1
      go_wp2
      go_ret
      exact ⟨ret_int (congrArg Int.ofNat HQI.out), HB1.out⟩
    · have hdq : decide (q = i) = false := decide_eq_false hqi
      have HQI : Hid (q + 1 ≤ i) := by show _ ≤ _; omega
      clear hqi
      go_wp2_with fail
      refine (refhas_any _ [s.sp] k _ (by simp) (sl_one _ s.sp _ rfl)).mono ?_
      rintro r w1 ⟨rfl, hb1⟩
      rw [HIS.out, hdq]
      have HB1 := Lib.hid ((blAlloc HB.out _).trans (hb1.mono (blAlloc HB.out _).size))
      clear hb1
      go_wp2
      go_roundw
      case rel => exact ⟨q + 1, HQI.out, by go_num, HB1.out⟩
      case measure => simp [intOf]; omega

end Go.Proofs.Ytkgfpppbpjinaaa
