/- The contracts of an eye's inner methods int, text, bool, stamp, stamps. Conditions: as each theorem states. -/
import Derived.Laws.IdiomStrings
import Derived.Lib.BufferRead
import Derived.Test.YtjlkgbejldcklaaGreatMg18
namespace Go.Proofs.YtjlkgbejldcklaaGreat
namespace S2
open Go.RowKit
theorem Bs.str {w : World} {g : Nat} {v : Value} {l : List UInt8} (h : Bs w g v l) : (convert 23 9 v).run Tryz.prog w = .ok (.string ⟨l.toArray⟩) w := by
  rcases h with ⟨rfl, rfl⟩ | ⟨o, cap, rfl, _, _, hc⟩
  · exact Lib.run_convert_nil_bytes w 23 9 5 0 Tryz.underlying23 Tryz.underlying5 Tryz.underlying9
  · refine run_convert_bytes_back w 23 9 5 ⟨g, o, none⟩ cap l Tryz.underlying23 Tryz.underlying5 Tryz.underlying9 fun j hj => ?_
    rw [add_plain]
    exact hc j _ (List.getElem?_eq_getElem hj)
def Blinded (w : World) (b g : Nat) (bl : Bool) (e : Ending) (w' : World) : Prop := e = .panicked blindCh ∧ (∃ l', EyeAt w' b g l' bl) ∧ Keeps (Only b) w w'
def Seen (w : World) (b g : Nat) (bl : Bool) (v : Value) (l' : List UInt8) (e : Ending) (w' : World) : Prop := e = .returned v ∧ EyeAt w' b g l' bl ∧ Keeps (Only b) w w'
def rd (l : List UInt8) : Int := wrap64 (leN (l.take 8))
theorem ret_bool {a b : Bool} (h : a = b) : Ending.returned (.bool a) = .returned (.bool b) := by rw [h]
set_option maxHeartbeats 1000000 in
theorem int_yes (w : World) (b g : Nat) (l : List UInt8) (bl : Bool) (he : EyeAt w b g l bl) (hn : 8 ≤ l.length) :
    Calls Tryz.prog 278 #[.pointer (some ⟨b, 0, none⟩)] w (Seen w b g bl (.int .i64 (rd l)) (l.drop 8)) := by
  have HE := Lib.hid he
  clear he
  go_enter Tryz.func278, Tryz.ntmps278
  go_wp2_with (go_at_call 333; refine (number_yes _ b g l bl 8 (Nat.le_refl _) HE.out hn).mono ?_; rintro e w1 ⟨rfl, he1, hk1⟩; have HE1 := Lib.hid he1; have HK1 := Lib.hid hk1; clear he1 hk1)
  go_ret
  exact ⟨rfl, HE1.out, HK1.out⟩
set_option maxHeartbeats 1000000 in
theorem int_no (w : World) (b g : Nat) (l : List UInt8) (bl : Bool) (he : EyeAt w b g l bl) (hn : l.length < 8) :
    Calls Tryz.prog 278 #[.pointer (some ⟨b, 0, none⟩)] w (Blinded w b g bl) := by
  have HE := Lib.hid he
  clear he
  go_enter Tryz.func278, Tryz.ntmps278
  go_wp2_with (go_at_call 333; refine (number_no _ b g l bl 8 HE.out hn).mono ?_; rintro e w1 ⟨rfl, rfl⟩)
  exact ⟨rfl, rfl, ⟨_, HE.out⟩, Keeps.refl _ _⟩
set_option maxHeartbeats 1000000 in
theorem text_yes (w : World) (b g : Nat) (l : List UInt8) (bl : Bool) (he : EyeAt w b g l bl) (hn : 4 ≤ l.length) (n : Nat) (hv : leN (l.take 4) = n) (h1 : n ≤ 1048576) (h2 : n ≤ (l.drop 4).length) :
    Calls Tryz.prog 310 #[.pointer (some ⟨b, 0, none⟩)] w (Seen w b g bl (.string ⟨((l.drop 4).take n).toArray⟩) (l.drop (4 + n))) := by
  have HE := Lib.hid he
  have HV := Lib.hid hv
  have H2 := Lib.hid h2
  have HD : Hid ((l.drop 4).drop n = l.drop (4 + n)) := List.drop_drop
  clear he hv h2
  go_enter Tryz.func310, Tryz.ntmps310
  go_wp2_with (first | (go_at_call 333; refine (number_yes _ b g l bl 4 (by decide) HE.out hn).mono ?_; rintro e w1 ⟨rfl, he1, hk1⟩; have HE1 := Lib.hid he1; have HK1 := Lib.hid hk1; clear he1 hk1; rw [HV.out]) | (go_at_call 345; refine (take_yes _ b g (l.drop 4) bl n HE1.out H2.out).mono ?_; rintro e w2 ⟨v, rfl, hb2, he2, hk2⟩; have hstr := hb2.str; have HE2 := Lib.hid he2; have HK2 := Lib.hid hk2; clear hb2 he2 hk2))
  go_ret
  exact ⟨rfl, by rw [← HD.out]; exact HE2.out, HK1.out.then HK2.out⟩
set_option maxHeartbeats 1000000 in
theorem text_no (w : World) (b g : Nat) (l : List UInt8) (bl : Bool) (he : EyeAt w b g l bl) (n : Nat) (hv : leN (l.take 4) = n) (h1 : l.length < 4 ∨ 1048576 < n ∨ (l.drop 4).length < n) :
    Calls Tryz.prog 310 #[.pointer (some ⟨b, 0, none⟩)] w (Blinded w b g bl) := by
  have HE := Lib.hid he
  have HV := Lib.hid hv
  clear he hv
  by_cases hn : l.length < 4
  · go_enter Tryz.func310, Tryz.ntmps310
    go_wp2_with (go_at_call 333; refine (number_no _ b g l bl 4 HE.out hn).mono ?_; rintro e w1 ⟨rfl, rfl⟩)
    exact ⟨rfl, rfl, ⟨_, HE.out⟩, Keeps.refl _ _⟩
  · by_cases hm : 1048576 < n
    · clear h1
      go_enter Tryz.func310, Tryz.ntmps310
      go_wp2_with (go_at_call 333; refine (number_yes _ b g l bl 4 (by decide) HE.out (by omega)).mono ?_; rintro e w1 ⟨rfl, he1, hk1⟩; have HE1 := Lib.hid he1; have HK1 := Lib.hid hk1; clear he1 hk1; rw [HV.out])
      exact ⟨rfl, rfl, ⟨_, HE1.out⟩, HK1.out⟩
    · have H2 : Hid ((l.drop 4).length < n) := by show _ < _; omega
      have hm' : n ≤ 1048576 := by omega
      clear h1 hm
      go_enter Tryz.func310, Tryz.ntmps310
      go_wp2_with (first | (go_at_call 333; refine (number_yes _ b g l bl 4 (by decide) HE.out (by omega)).mono ?_; rintro e w1 ⟨rfl, he1, hk1⟩; have HE1 := Lib.hid he1; have HK1 := Lib.hid hk1; clear he1 hk1; rw [HV.out]) | (go_at_call 345; refine (take_no _ b g (l.drop 4) bl n HE1.out H2.out).mono ?_; rintro e w2 ⟨rfl, rfl⟩))
      exact ⟨rfl, rfl, ⟨_, HE1.out⟩, HK1.out⟩
def rdS (l : List UInt8) : Int × Int := (rd l, rd (l.drop 8))
def cellsL (l : List (Int × Int)) : List Value := l.flatMap fun s => [.int .i64 s.1, .int .i64 s.2]
theorem cellsL_length (l : List (Int × Int)) : (cellsL l).length = l.length * 2 := by
  induction l with
  | nil => rfl
  | cons a r ih => simp [cellsL] at ih ⊢; omega
theorem cellsL_at (l : List (Int × Int)) : ∀ (i : Nat) (x y : Int), l[i]? = some (x, y) → (cellsL l)[i * 2]? = some (.int .i64 x) ∧ (cellsL l)[i * 2 + 1]? = some (.int .i64 y) := by
  induction l with
  | nil => intro i x y h; simp at h
  | cons a r ih =>
    intro i x y h
    cases i with
    | zero =>
      simp only [List.getElem?_cons_zero, Option.some.injEq] at h
      subst h
      exact ⟨rfl, rfl⟩
    | succ i =>
      obtain ⟨h1, h2⟩ := ih i x y (by simpa using h)
      have e : cellsL (a :: r) = Value.int .i64 a.1 :: Value.int .i64 a.2 :: cellsL r := rfl
      rw [e, show (i + 1) * 2 = i * 2 + 1 + 1 by omega]
      simpa using ⟨h1, h2⟩
def OwnL (w : World) (base : Nat) (v : Value) (l : List (Int × Int)) : Prop := w.ownsRow base 42 2 v l.length (cellsL l)
theorem OwnL.sl {w : World} {base : Nat} {v : Value} {l : List (Int × Int)} (h : OwnL w base v l) : ∃ a cap g, v = .slice a l.length cap ∧ SL w g a l ∧ base ≤ g := by
  obtain ⟨h1, h2 | ⟨g, cap, cur, hv, hg, hh, hn, hm, hs, hx⟩⟩ := h
  · obtain ⟨rfl, hl⟩ := h2
    obtain rfl := List.eq_nil_of_length_eq_zero hl
    exact ⟨none, 0, base, rfl, fun h => absurd rfl h, Nat.le_refl _⟩
  · refine ⟨_, cap, g, hv, fun _ => ⟨0, rfl, fun i x y hi => ?_⟩, hg⟩
    have hil := (List.getElem?_eq_some_iff.1 hi).1
    obtain ⟨c1, c2⟩ := cellsL_at l i x y hi
    rw [← hx] at c1 c2
    rw [List.getElem?_take_of_lt (by omega)] at c1 c2
    simp only [World.cell?, hh]
    exact ⟨by simpa using c1, by simpa using c2⟩
theorem OwnL.keep {S : Nat → Prop} {w w' : World} {base : Nat} {v : Value} {l : List (Int × Int)} (h : OwnL w base v l) (k : Keeps S w w') (hS : ∀ x, base ≤ x → ¬ S x) : OwnL w' base v l := by
  refine ⟨h.1, ?_⟩
  rcases h.2 with hn | ⟨g, cap, cur, rfl, hb, hh, r⟩
  · exact .inl hn
  · exact .inr ⟨g, cap, cur, rfl, hb, (k.block g (lt_of_block hh) (hS g hb)).trans hh, r⟩
def hasL (l : List UInt8) : Prop := 8 ≤ l.length ∧ 0 ≤ rd l ∧ 16 * (rd l).toNat ≤ l.length - 8
end S2
end Go.Proofs.YtjlkgbejldcklaaGreat
