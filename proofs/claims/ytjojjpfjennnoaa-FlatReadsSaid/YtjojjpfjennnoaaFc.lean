/- The contracts of the pen's methods letters, Int, Text, Bool, Bytes, and of bytes.Clone. Conditions: at most 2^40 bytes are laid. -/
import Derived.Test.YtjojjpfjennnoaaFb
import Derived.WalkSpells
import Derived.WalkLawsBesides
import Derived.Lib.SliceRun
namespace Go.Proofs.Ytjojjpfjennnoaa
open Go.RowKit

set_option maxHeartbeats 1000000 in
theorem letters_any (w : World) (b : Nat) (r : Option Nat) (l : List UInt8) (s : ByteArray) (hp : PenAt w b r l) (hlen : l.length + s.data.toList.length ≤ 1099511627776) :
    Calls Try.prog 46 #[.pointer (some ⟨b, 0, none⟩), .string s] w (Laid w b r (l ++ s.data.toList)) := by
  obtain ⟨v, hv, hrow, hne⟩ := hp
  have c0 := cell_of_one hv
  have f0 := free_of_one hv
  have HR := Lib.hid hrow
  have HV := Lib.hid hv
  clear hrow hv
  go_enter Try.func46, Try.ntmps46
  go_wp2_with (at_builtin; refine wpList_app rfl (.tmp 10) (.tmp 11) 9 rfl rfl rfl HR.out (string_src _ s) hlen ?_; intro v' w' g' h1 h2 h3; obtain ⟨ao, an, ac, rfl⟩ := h1.form; obtain ⟨hv', HP1, HS1⟩ := pen_app HV.out hne (Keeps.refl _ _) h1 h2 h3; have c1 := cell_of_one hv'; have f1 := free_of_one hv'; have HP2 := Lib.hid HP1; have HS2 := Lib.hid HS1; clear h1 h2 h3 hv' HP1 HS1)
  go_end0
  exact ⟨rfl, _, HP2.out, HS2.out⟩

theorem number_nil (w : World) (n : Value) (k : Value) : Calls Try.prog 45 #[.pointer none, n, k] w fun e w' => e = .returned (.tuple #[]) ∧ w = w' := by
  go_enter Try.func45, Try.ntmps45
  go_wp2
  first | go_end0 | refine bodyPost_ret (results_none rfl _ _ _) rfl ?_
  exact ⟨rfl, rfl⟩
theorem letters_nil (w : World) (s : Value) : Calls Try.prog 46 #[.pointer none, s] w fun e w' => e = .returned (.tuple #[]) ∧ w = w' := by
  go_enter Try.func46, Try.ntmps46
  go_wp2
  first | go_end0 | refine bodyPost_ret (results_none rfl _ _ _) rfl ?_
  exact ⟨rfl, rfl⟩

/-- A row of bytes that a call has made. -/
def Made (w : World) (l : List UInt8) (e : Ending) (w' : World) : Prop := ∃ v g, e = .returned v ∧ Row w' g v l ∧ New w g ∧ Below w.heap.size w w'

theorem row_empty (w : World) : Row (w.alloc (.cells #[] 5)) (some w.heap.size) (.slice (some ⟨w.heap.size, 0, none⟩) 0 0) [] :=
  ⟨World.ownsRow_made w #[] 0 (Nat.zero_le _) (Nat.zero_le _) rfl, rfl⟩

set_option maxRecDepth 100000 in
set_option maxHeartbeats 1000000 in
theorem clone_any (w : World) (g : Nat) (v : Value) (l : List UInt8) (h : Bs w g v l) (hlen : l.length ≤ 1099511627776) : Calls Try.prog 48 #[v] w (Made w l) := by
  rcases h with ⟨rfl, rfl⟩ | ⟨o, cap, rfl, h1, h2, h3⟩
  · have hq := fun w : World => Lib.run_eql_slice_nil (P := Try.prog) w 27 5 none 0 0 0 0 Try.underlying27
    go_enter Try.func48, Try.ntmps48
    go_wp2
    go_ret
    exact ⟨_, none, rfl, Row.nil _, New.none _, Below.refl _ _⟩
  · have HB : Hid (Bs w g (.slice (some ⟨g, o, none⟩) l.length cap) l) := .inr ⟨o, cap, rfl, h1, h2, h3⟩
    clear h1 h2 h3
    have hq := fun w : World => Lib.run_eql_slice_nil (P := Try.prog) w 27 5 (some ⟨g, o, none⟩) l.length cap 0 0 Try.underlying27
    go_enter Try.func48, Try.ntmps48
    go_wp2_with (at_builtin; refine wpList_app rfl (.tmp 5) (.tmp 6) 27 rfl rfl rfl (row_empty _) (HB.out.keep (S := fun _ => False) (Keeps.alloc _ _ _) (fun _ h => h)).src (by simpa using hlen) ?_; intro v' w' g' h1 h2 h3; have H1 := Lib.hid h1; have H2 := Lib.hid h2; have H3 := Lib.hid h3; clear h1 h2 h3)
    go_ret
    refine ⟨_, g', rfl, by simpa using H1.out, ?_, ?_⟩
    · rcases H3.out with e | e
      · rw [e]; intro k hk; cases hk; exact Nat.le_refl _
      · exact e.later (Keeps.alloc (fun _ => False) _ _)
    · exact ((Below.refl _ _).alloc (Nat.le_refl _) _).grown H2.out (by simp) (fun k hk => by cases hk; exact Nat.le_refl _)

set_option maxHeartbeats 1000000 in
theorem bytes_any (w : World) (b : Nat) (r : Option Nat) (l : List UInt8) (hp : PenAt w b r l) (hlen : l.length ≤ 1099511627776) : Calls Try.prog 19 #[.pointer (some ⟨b, 0, none⟩)] w (Made w l) := by
  obtain ⟨v, hv, hrow, hne⟩ := hp
  have c0 := cell_of_one hv
  have HB := Lib.hid hrow.bs
  obtain ⟨ao, an, ac, rfl⟩ := hrow.form
  clear hrow hv
  go_enter Try.func19, Try.ntmps19
  go_wp2_with (go_at_call 48; refine (clone_any _ _ _ _ HB.out hlen).mono ?_; rintro e w1 ⟨v', g', rfl, h1, h2, h3⟩; have H1 := Lib.hid h1; have H2 := Lib.hid h2; have H3 := Lib.hid h3; clear h1 h2 h3)
  go_ret
  exact ⟨_, g', rfl, H1.out, H2.out, H3.out⟩
theorem bytes_nil (w : World) : Calls Try.prog 19 #[.pointer none] w fun e w' => e = .returned (.slice none 0 0) ∧ w = w' := by
  go_enter Try.func19, Try.ntmps19
  go_wp2
  go_ret
  exact ⟨rfl, rfl⟩

/-- Slices of numbers, of texts, in block g (an empty one anywhere). -/
def IL (w : World) (g : Nat) (a : Option Addr) (l : List Int) : Prop := l ≠ [] → ∃ o, a = some ⟨g, o, none⟩ ∧ ∀ j x, l[j]? = some x → w.cell? ⟨g, o + j, none⟩ = some (.int .i64 x)
theorem IL.keep {S : Nat → Prop} {w w' : World} {g : Nat} {a : Option Addr} {l : List Int} (h : IL w g a l) (k : Keeps S w w') (hg : ¬ S g) : IL w' g a l :=
  fun hne => let ⟨o, ha, hc⟩ := h hne; ⟨o, ha, fun j x hx => k.cell hg (hc j x hx)⟩
def TL (w : World) (g : Nat) (a : Option Addr) (l : List ByteArray) : Prop := l ≠ [] → ∃ o, a = some ⟨g, o, none⟩ ∧ ∀ j x, l[j]? = some x → w.cell? ⟨g, o + j, none⟩ = some (.string x)
theorem TL.keep {S : Nat → Prop} {w w' : World} {g : Nat} {a : Option Addr} {l : List ByteArray} (h : TL w g a l) (k : Keeps S w w') (hg : ¬ S g) : TL w' g a l :=
  fun hne => let ⟨o, ha, hc⟩ := h hne; ⟨o, ha, fun j x hx => k.cell hg (hc j x hx)⟩

/-- A number's eight bytes. -/
def i8 (x : Int) : List UInt8 := low (IntKind.u64.wrap x).toNat 8
theorem i8_length (x : Int) : (i8 x).length = 8 := low_length _ _
theorem wrap_u64_nonneg (x : Int) : 0 ≤ IntKind.u64.wrap x := by
  show 0 ≤ x % (2 ^ 64 : Int)
  exact Int.emod_nonneg _ (by decide)
theorem flat_length {α : Type} (f : α → List UInt8) (c : Nat) (h : ∀ x, (f x).length = c) : ∀ l : List α, (l.flatMap f).length = c * l.length
  | [] => by simp
  | x :: r => by rw [List.flatMap_cons, List.length_append, h, flat_length f c h r, List.length_cons, Nat.mul_succ]; omega
theorem take_flat {α : Type} (f : α → List UInt8) (l : List α) {j : Nat} {x : α} (h : l[j]? = some x) : (l.take (j + 1)).flatMap f = (l.take j).flatMap f ++ f x := by
  obtain ⟨hj, rfl⟩ := List.getElem?_eq_some_iff.1 h
  rw [List.take_succ_eq_append_getElem hj, List.flatMap_append]
  simp
theorem get_lt {α : Type} {l : List α} {j : Nat} (h : j < l.length) : ∃ x, l[j]? = some x := ⟨_, List.getElem?_eq_getElem h⟩
theorem not_nil {α : Type} {l : List α} {j : Nat} (h : j < l.length) : l ≠ [] := by rintro rfl; simp at h

set_option maxRecDepth 100000 in
set_option maxHeartbeats 1000000 in
theorem int_any (w : World) (b : Nat) (r : Option Nat) (l : List UInt8) (g : Nat) (a : Option Addr) (c : Nat) (xs : List Int) (hp : PenAt w b r l) (hx : IL w g a xs) (hg : ¬ PenS b r g) (hlen : l.length + 8 * xs.length ≤ 1099511627776) :
    Calls Try.prog 15 #[.pointer (some ⟨b, 0, none⟩), .slice a xs.length c] w (Laid w b r (l ++ xs.flatMap i8)) := by
  have HP := Lib.hid hp
  have HX := Lib.hid hx
  have HG := Lib.hid hg
  clear hp hx hg
  go_enter Try.func15, Try.ntmps15
  go_wp2
  go_loopw [8] (fun i wr => ∃ j : Nat, j ≤ xs.length ∧ i = .int .i64 j ∧ ∃ r', PenAt wr b r' (l ++ (xs.take j).flatMap i8) ∧ PenStep b r r' w wr) (fun i _ => xs.length - (intOf i).toNat)
  case atStart => exact ⟨0, Nat.zero_le _, rfl, r, by simpa using HP.out, PenStep.refl _ _ _⟩
  case round =>
    obtain ⟨j, hj, rfl, r', hpj, hst⟩ := hrel
    have HS := Lib.hid hst
    have HPJ := Lib.hid hpj
    clear hst hpj
    by_cases hlt : j < xs.length
    · obtain ⟨x, hx⟩ := get_lt hlt
      obtain ⟨o, rfl, hc⟩ := HX.out (not_nil hlt)
      have cx := HS.out.keeps.cell HG.out (hc j x hx)
      have HL : Hid (l ++ (xs.take j).flatMap i8 ++ low (IntKind.u64.wrap x).toNat 8 = l ++ (xs.take (j + 1)).flatMap i8) := by
        show _ = _
        rw [take_flat i8 xs hx, List.append_assoc]; rfl
      have HN : Hid ((l ++ (xs.take j).flatMap i8).length + 8 ≤ 1099511627776) := by
        show _ ≤ _
        rw [List.length_append, flat_length i8 8 i8_length, List.length_take]
        omega
      have hu := wrap_u64_nonneg x
      clear hc hx
      go_wp2_with (go_at_call 45; refine (number_any _ b r' _ (IntKind.u64.wrap x) 8 hu (Nat.le_refl _) HPJ.out HN.out).mono ?_; rintro e w1 ⟨rfl, r1, hp1, hs1⟩; have HP1 := Lib.hid hp1; have HS1 := Lib.hid hs1; clear hp1 hs1)
      go_roundw
      case rel => exact ⟨j + 1, hlt, by go_num, r1, by rw [← HL.out]; exact HP1.out, HS.out.trans HS1.out⟩
      case measure => simp [intOf]; omega
    · obtain rfl : j = xs.length := by omega
      go_wp2
      go_end0
      exact ⟨rfl, r', by simpa using HPJ.out, HS.out⟩

end Go.Proofs.Ytjojjpfjennnoaa
