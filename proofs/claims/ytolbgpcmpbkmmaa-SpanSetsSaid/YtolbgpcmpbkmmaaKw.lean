/- live, the closed check that every statement of this stage ends with, returns true. Conditions: none. -/
import Derived.Test.YtolbgpcmpbkmmaaKv
set_option linter.unusedVariables false
namespace Go.Proofs.Ytolbgpcmpbkmmaa
open Go.RowKit

/-- The slice of a row that has just been laid. -/
theorem sl_row {W : World} {b : Nat} {l : List Sp} {cs : Array Value} (h : W.heap[b]? = some (.cells cs 24 (0, 0))) (hc : cs = (cellsL l).toArray) (n c : Nat) (hn : n = l.length) : Sl W (.slice (some ⟨b, 0, none⟩) n c) l := by
  subst hn hc
  refine ⟨_, c, rfl, fun h => (by cases h), fun _ => ⟨b, 0, rfl, lt_of_block h, fun i s hi => ?_⟩⟩
  obtain ⟨c1, c2⟩ := cellsL_at l i s hi
  rw [Nat.zero_add, cell_of_row W b _ _ _ _ h, cell_of_row W b _ _ _ _ h]
  exact ⟨by simpa using c1, by simpa using c2⟩
theorem sl_new (W : World) (l : List Sp) (cs : Array Value) (hc : cs = (cellsL l).toArray) (b n c : Nat) (hb : W.heap.size = b) (hn : n = l.length) : Sl (W.alloc (.cells cs 24)) (.slice (some ⟨b, 0, none⟩) n c) l := by
  subst hb
  exact sl_row (heap_alloc_new W _) hc n c hn

def ta : ByteArray := ⟨#[97]⟩
def tb : ByteArray := ⟨#[98]⟩
def tb0 : ByteArray := ⟨#[98, 0]⟩
def tc : ByteArray := ⟨#[99]⟩
def td : ByteArray := ⟨#[100]⟩
def te : ByteArray := ⟨#[101]⟩
theorem live_u : uniL [(ta, tc), (tb, td), (td, te)] = [(ta, te)] := by decide +kernel
theorem live_l : setL 2 [(ta, te)] [(tb, tb ++ ⟨#[0]⟩)] = [(ta, tb), (tb0, te)] := by decide +kernel
theorem live_c : (setL 1 [(ta, te)] [(ta, tb), (tb0, te)]).isEmpty = false := by decide +kernel
theorem live_h : memL [(ta, te)] tb = true := by decide +kernel
theorem live_n : memL [(ta, tb), (tb0, te)] tb = false := by decide +kernel
theorem live_k : keyB ⟨#[]⟩ = false := by decide +kernel
theorem live_s : IsSet [(ta, te)] := by rw [← live_u]; exact uniL_set _
theorem live_p : IsSet [(tb, tb ++ ⟨#[0]⟩)] := isSet_cons.2 ⟨by decide +kernel, fun t h => (by cases h), isSet_nil⟩
theorem live_m : IsSet [(ta, tb), (tb0, te)] := by rw [← live_l]; exact setL_set _ _ _

set_option maxRecDepth 100000 in
set_option maxHeartbeats 2000000 in
theorem live_any (w : World) : Calls Try.prog 10 #[] w fun e w' => e = .returned (.bool true) ∧ Below w.heap.size w w' := by
  go_enter Try.func10, Try.ntmps10
  go_wp2_with fail
  refine (union_any _ [(ta, tc), (tb, td), (td, te)] _ (by decide) (sl_new w _ _ rfl _ 3 3 rfl rfl)).mono ?_
  rintro e w1 ⟨v1, rfl, ho, hb⟩
  rw [live_u] at ho
  obtain ⟨a1, c1, rfl⟩ := ho.form
  have HO1 := Lib.hid ho.sl
  have HB1 := Lib.hid (blThen (blAlloc (Below.refl w.heap.size w) _) hb)
  clear ho hb
  go_wp2_with fail
  refine (point_any _ _ (by decide)).mono ?_
  rintro e w2 ⟨rfl, hb⟩
  have HB2 := Lib.hid (blThen HB1.out hb)
  have HO2 := Lib.hid (HO1.out.later hb)
  clear hb
  go_wp2_with fail
  refine (less_any' _ _ [(ta, te)] [(tb, tb ++ ⟨#[0]⟩)] _ (by decide) (by decide) (HO2.out.later (blAlloc (Below.refl _ _) _)) (sl_new w2 _ _ rfl _ 1 1 rfl rfl) live_s live_p).mono ?_
  rintro e w3 ⟨v3, rfl, ho, hb⟩
  rw [live_l] at ho
  obtain ⟨a3, c3, rfl⟩ := ho.form
  have HM3 := Lib.hid ho.sl
  have HB3 := Lib.hid (blThen (blAlloc HB2.out _) hb)
  have HO3 := Lib.hid (HO2.out.later (blThen (blAlloc (Below.refl _ _) _) hb))
  clear ho hb
  go_wp2_with fail
  refine (same_any _ _ [(ta, te)] [(ta, te)] _ (by decide) (by decide) (HO3.out.later (blAlloc (Below.refl _ _) _)) (sl_new w3 _ _ rfl _ 1 1 rfl rfl)).mono ?_
  rintro e w4 ⟨rfl, hb⟩
  rw [show sameB [(ta, te)] [(ta, te)] = true by simp [sameB]]
  have HB4 := Lib.hid (blThen (blAlloc HB3.out _) hb)
  have HO4 := Lib.hid (HO3.out.later (blThen (blAlloc (Below.refl _ _) _) hb))
  have HM4 := Lib.hid (HM3.out.later (blThen (blAlloc (Below.refl _ _) _) hb))
  clear hb
  go_wp2_with fail
  refine (same_any _ _ [(ta, tb), (tb0, te)] [(ta, tb), (tb0, te)] _ (by decide) (by decide) (HM4.out.later (blAlloc (Below.refl _ _) _)) (sl_new w4 _ _ rfl _ 2 2 rfl rfl)).mono ?_
  rintro e w5 ⟨rfl, hb⟩
  rw [show sameB [(ta, tb), (tb0, te)] [(ta, tb), (tb0, te)] = true by simp [sameB]]
  have HB5 := Lib.hid (blThen (blAlloc HB4.out _) hb)
  have HO5 := Lib.hid (HO4.out.later (blThen (blAlloc (Below.refl _ _) _) hb))
  have HM5 := Lib.hid (HM4.out.later (blThen (blAlloc (Below.refl _ _) _) hb))
  clear hb
  go_wp2_with fail
  refine (has_any _ [(ta, te)] tb _ (by decide) HO5.out live_s).mono ?_
  rintro e w6 ⟨rfl, hb⟩
  rw [live_h]
  have HB6 := Lib.hid (blThen HB5.out hb)
  have HO6 := Lib.hid (HO5.out.later hb)
  have HM6 := Lib.hid (HM5.out.later hb)
  clear hb
  go_wp2_with fail
  refine (has_any _ [(ta, tb), (tb0, te)] tb _ (by decide) HM6.out live_m).mono ?_
  rintro e w7 ⟨rfl, hb⟩
  rw [live_n]
  have HB7 := Lib.hid (blThen HB6.out hb)
  have HO7 := Lib.hid (HO6.out.later hb)
  have HM7 := Lib.hid (HM6.out.later hb)
  clear hb
  go_wp2_with fail
  refine (key_any ⟨#[]⟩ _).mono ?_
  rintro e w' ⟨rfl, rfl⟩
  rw [live_k]
  go_wp2_with fail
  refine (num_any _ _).mono ?_
  rintro e w' ⟨rfl, rfl⟩
  go_wp2_with fail
  refine (meet_any' _ _ [(ta, te)] [(ta, tb), (tb0, te)] _ (by decide) (by decide) HO7.out HM7.out live_s live_m).mono ?_
  rintro e w8 ⟨rfl, hb⟩
  rw [live_c]
  have HB8 := Lib.hid (blThen HB7.out hb)
  clear hb
  go_wp2
  go_ret
  exact ⟨rfl, HB8.out⟩

/-- An operation whose guard says yes, as one that has no guard. -/
theorem wpList_unguard {P : Program} {ops : Array Oper} {Q : Exit → Act → World → Prop} {a : Act} {w : World} {rest : List Oper} {o : Oper} (hw : Region.wanted o (yielded ops a.tmps) = true)
    (h : wpList P ops Q ({ o with guard := none } :: rest) a w) : wpList P ops Q (o :: rest) a w := by
  unfold wpList at h ⊢
  rw [if_pos hw]
  rw [if_pos (by simp [Region.wanted])] at h
  exact h
theorem append_sp_g {w : World} {ops : Array Oper} {rest : List Oper} {o : Oper} {a : Act} {Q : Exit → Act → World → Prop} (hw : Region.wanted o (yielded ops a.tmps) = true) (s x : Operand)
    (ho : o.op = .call { callee := .builtin .append, args := #[s, x], argTypes := #[22, 22] })
    (base : Nat) (v : Value) (d : List Sp) (hs : a.eval s = v) (hown : OwnL w base v d) (xv : Value) (l : List Sp) (hx : a.eval x = xv) (hsl : Sl w xv l)
    (hlen : d.length + l.length ≤ 4000000) (hbase : base ≤ w.heap.size)
    (h : ∀ v' w', OwnL w' base v' (d ++ l) → w.grownBy w' v.ownBlock → wpList Try.prog ops Q rest (a.put o.dst v') w') : wpList Try.prog ops Q (o :: rest) a w :=
  wpList_unguard hw (append_sp rfl s x ho base v d hs hown xv l hx hsl hlen hbase h)

end Go.Proofs.Ytolbgpcmpbkmmaa
