/- The contract of an eye's Stamps. Conditions: as each theorem states. -/
import Derived.Test.YtjojjpfjennnoaaFh
namespace Go.Proofs.Ytjojjpfjennnoaa
open Go.RowKit

/-- What Stamps of an eye comes to. -/
def SeenSl (w : World) (b g : Nat) (bl : Bool) (s : List (Int × Int)) (l' : List UInt8) (e : Ending) (w' : World) : Prop :=
  ∃ a c h, e = .returned (.slice a s.length c) ∧ SL w' h a s ∧ w.heap.size ≤ h ∧ EyeAt w' b g l' bl ∧ Keeps (Only b) w w'

set_option maxHeartbeats 1000000 in
theorem eyeStamps_see (w : World) (b g : Nat) (l L : List UInt8) (V : List (Int × Int)) (he : EyeAt w b g l false)
    (hin : ∀ W, Keeps (fun _ => False) w W → Calls Try.prog 60 #[.pointer (some ⟨b, 0, none⟩)] W fun e w' => ∃ v, e = .returned v ∧ (OwnL w' W.heap.size v V ∧ EyeAt w' b g L false) ∧ Keeps (Only b) W w') :
    Calls Try.prog 33 #[.pointer (some ⟨b, 0, none⟩)] w (SeenSl w b g false V L) := by
  have HE := Lib.hid he
  have KEY := Lib.hid hin
  clear he hin
  go_enter Try.func33, Try.ntmps33
  go_wp2_with (go_at_call 59; refine (look59_yes _ b g l (fun W v w' => OwnL w' W.heap.size v V ∧ EyeAt w' b g L false) HE.out KEY.out).mono ?_; rintro e w1 ⟨W, v, rfl, hW, ⟨ho, he1⟩, hk1⟩; obtain ⟨a, c, x, rfl, hs, hx⟩ := ho.sl; have HS := Lib.hid hs; have HX := Lib.hid (Nat.le_trans hW.size hx); have HE1 := Lib.hid he1; have HK1 := Lib.hid hk1; clear ho he1 hk1 hW hs hx)
  go_ret
  exact ⟨a, c, x, rfl, HS.out, HX.out, HE1.out, HK1.out⟩
set_option maxHeartbeats 1000000 in
theorem eyeStamps_no (w : World) (b g : Nat) (l : List UInt8) (he : EyeAt w b g l false)
    (hin : ∀ W, Keeps (fun _ => False) w W → Calls Try.prog 60 #[.pointer (some ⟨b, 0, none⟩)] W (Blinded W b g false)) :
    Calls Try.prog 33 #[.pointer (some ⟨b, 0, none⟩)] w (SeenSl w b g true [] l) := by
  have HE := Lib.hid he
  have KEY := Lib.hid hin
  clear he hin
  go_enter Try.func33, Try.ntmps33
  go_wp2_with (go_at_call 59; refine (look59_no _ b g l HE.out KEY.out).mono ?_; rintro e w1 ⟨rfl, he1, hk1⟩; have HE1 := Lib.hid he1; have HK1 := Lib.hid hk1; clear he1 hk1)
  go_ret
  exact ⟨none, 0, w.heap.size, rfl, fun h => absurd rfl h, Nat.le_refl _, HE1.out, HK1.out⟩
set_option maxHeartbeats 1000000 in
theorem eyeStamps_blind (w : World) (b g : Nat) (l : List UInt8) (he : EyeAt w b g l true) : Calls Try.prog 33 #[.pointer (some ⟨b, 0, none⟩)] w (SeenSl w b g true [] l) := by
  have HE := Lib.hid he
  clear he
  go_enter Try.func33, Try.ntmps33
  go_wp2_with (go_at_call 59; refine (look59_blind _ b g l HE.out _).mono ?_; rintro e w1 ⟨rfl, hk1⟩; have HE1 := Lib.hid (HE.out.before hk1); have HK1 := Lib.hid hk1; clear hk1)
  go_ret
  exact ⟨none, 0, w.heap.size, rfl, fun h => absurd rfl h, Nat.le_refl _, HE1.out, HK1.out.mono fun _ _ h => h.elim⟩

theorem behind_yes (k : Nat) (l : List UInt8) : behind true k l = l.drop k := by simp [behind]
theorem behind_no (k : Nat) (l : List UInt8) : behind false k l = l := by simp [behind]
theorem eyeStamps_any (w : World) (b g : Nat) (l : List UInt8) (bl : Bool) (he : EyeAt w b g l bl) (hlen : l.length ≤ 1000000) :
    Calls Try.prog 33 #[.pointer (some ⟨b, 0, none⟩)] w (SeenSl w b g (!okL l bl) (valL l bl) (behind (okL l bl) (8 + 16 * (rd l).toNat) l)) := by
  cases bl
  · by_cases h : hasL l
    · have hok : okL l false = true := by simp [okL, h]
      have hv : valL l false = rdL l (rd l).toNat := by simp [valL, hok]
      rw [hok, hv, behind_yes]
      refine eyeStamps_see w b g l _ _ he fun W hW => ?_
      refine (stampsIn_any W b g l false (he.before hW) hlen).mono fun e w' hh => ?_
      rcases hh with ⟨_, v, h1, h2, h3, h4⟩ | ⟨hn, _⟩
      · exact ⟨v, h1, ⟨h2, h3⟩, h4⟩
      · exact absurd h hn
    · have hok : okL l false = false := by simp [okL, h]
      have hv : valL l false = [] := by simp [valL, hok]
      rw [hok, hv, behind_no]
      refine eyeStamps_no w b g l he fun W hW => ?_
      refine (stampsIn_any W b g l false (he.before hW) hlen).mono fun e w' hh => ?_
      rcases hh with ⟨hn, _⟩ | ⟨_, hn⟩
      · exact absurd hn h
      · exact hn
  · have hok : okL l true = false := by simp [okL]
    have hv : valL l true = [] := by simp [valL, hok]
    rw [hok, hv, behind_no]
    exact eyeStamps_blind w b g l he

end Go.Proofs.Ytjojjpfjennnoaa
