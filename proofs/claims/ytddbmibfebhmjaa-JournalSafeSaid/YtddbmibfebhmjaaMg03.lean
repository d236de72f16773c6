/- The contracts of the pen's methods Text, Bool, Stamp, Stamps, and of all on a nil pen. Conditions: at most 2^40 bytes are laid; texts of at most MaxFlat bytes. -/
import Derived.WalkSpells
import Derived.WalkLawsBesides
import Derived.Lib.SliceRun
import Derived.Test.YtddbmibfebhmjaaMg02
set_option maxRecDepth 100000
set_option maxHeartbeats 16000000
namespace Go.Proofs.Ytddbmibfebhmjaa
namespace S2
open Go.RowKit
theorem letters_any (w : World) (b : Nat) (r : Option Nat) (l : List UInt8) (s : ByteArray) (hp : PenAt w b r l) (hlen : l.length + s.data.toList.length ≤ 1099511627776) :
  Calls Try.prog 85 #[.pointer (some ⟨b, 0, none⟩), .string s] w (Laid w b r (l ++ s.data.toList)) := by
 obtain ⟨v, T, hv, hrow, hne⟩ := hp
 have c0 := cell_of_one hv
 have f0 := free_of_one hv
 have HR := Lib.hid hrow
 have HV := Lib.hid hv
 clear hrow hv
 go_enter Try.func85, Try.ntmps85
 go_wp2_with (at_builtin; refine wpList_app rfl (.tmp 10) (.tmp 11) 9 rfl rfl rfl HR.out (string_src _ s) hlen ?_; intro v' w' g' h1 h2 h3; obtain ⟨ao, an, ac, rfl⟩ := h1.form; obtain ⟨hv', HP1, HS1⟩ := pen_app HV.out hne (Keeps.refl _ _) h1 h2 h3; have c1 := cell_of_one hv'; have f1 := free_of_one hv'; have HP2 := Lib.hid HP1; have HS2 := Lib.hid HS1; clear h1 h2 h3 hv' HP1 HS1)
 go_end0
 exact ⟨rfl, _, HP2.out, HS2.out⟩
def Made (w : World) (l : List UInt8) (e : Ending) (w' : World) : Prop := ∃ v g, e = .returned v ∧ Row w' g v l ∧ New w g ∧ Below w.heap.size w w'
theorem row_empty (w : World) : Row (w.alloc (.cells #[] 5)) (some w.heap.size) (.slice (some ⟨w.heap.size, 0, none⟩) 0 0) [] :=
 ⟨World.ownsRow_made w #[] 0 (Nat.zero_le _) (Nat.zero_le _) rfl, rfl⟩
theorem clone_any (w : World) (g : Nat) (v : Value) (l : List UInt8) (h : Bs w g v l) (hlen : l.length ≤ 1099511627776) : Calls Try.prog 64 #[v] w (Made w l) := by
 rcases h with ⟨rfl, rfl⟩ | ⟨o, cap, rfl, h1, h2, h3⟩
 ·have hq := fun w : World => Lib.run_eql_slice_nil (P := Try.prog) w 39 5 none 0 0 0 0 Try.underlying39
  go_enter Try.func64, Try.ntmps64
  go_wp2
  go_ret
  exact ⟨_, none, rfl, Row.nil _, New.none _, Below.refl _ _⟩
 ·have HB : Hid (Bs w g (.slice (some ⟨g, o, none⟩) l.length cap) l) := .inr ⟨o, cap, rfl, h1, h2, h3⟩
  clear h1 h2 h3
  have hq := fun w : World => Lib.run_eql_slice_nil (P := Try.prog) w 39 5 (some ⟨g, o, none⟩) l.length cap 0 0 Try.underlying39
  go_enter Try.func64, Try.ntmps64
  go_wp2_with (at_builtin; refine wpList_app rfl (.tmp 5) (.tmp 6) 39 rfl rfl rfl (row_empty _) (HB.out.keep (S := fun _ => False) (Keeps.alloc _ _ _) (fun _ h => h)).src (by simpa using hlen) ?_; intro v' w' g' h1 h2 h3; have H1 := Lib.hid h1; have H2 := Lib.hid h2; have H3 := Lib.hid h3; clear h1 h2 h3)
  go_ret
  refine ⟨_, g', rfl, by simpa using H1.out, ?_, ?_⟩
  ·rcases H3.out with e | e
   ·rw [e]; intro k hk; cases hk; exact Nat.le_refl _
   ·exact e.later (Keeps.alloc (fun _ => False) _ _)
  ·exact ((Below.refl _ _).alloc (Nat.le_refl _) _).grown H2.out (by simp) (fun k hk => by cases hk; exact Nat.le_refl _)
theorem bytes_any (w : World) (b : Nat) (r : Option Nat) (l : List UInt8) (hp : PenAt w b r l) (hlen : l.length ≤ 1099511627776) : Calls Try.prog 72 #[.pointer (some ⟨b, 0, none⟩)] w (Made w l) := by
 obtain ⟨v, T, hv, hrow, hne⟩ := hp
 have c0 := cell_of_one hv
 have HB := Lib.hid hrow.bs
 obtain ⟨ao, an, ac, rfl⟩ := hrow.form
 clear hrow hv
 go_enter Try.func72, Try.ntmps72
 go_wp2_with (go_at_call 64; refine (clone_any _ _ _ _ HB.out hlen).mono ?_; rintro e w1 ⟨v', g', rfl, h1, h2, h3⟩; have H1 := Lib.hid h1; have H2 := Lib.hid h2; have H3 := Lib.hid h3; clear h1 h2 h3)
 go_ret
 exact ⟨_, g', rfl, H1.out, H2.out, H3.out⟩
def IL (w : World) (g : Nat) (a : Option Addr) (l : List Int) : Prop := l ≠ [] → ∃ o, a = some ⟨g, o, none⟩ ∧ ∀ j x, l[j]? = some x → w.cell? ⟨g, o + j, none⟩ = some (.int .i64 x)
theorem IL.keep {S : Nat → Prop} {w w' : World} {g : Nat} {a : Option Addr} {l : List Int} (h : IL w g a l) (k : Keeps S w w') (hg : ¬ S g) : IL w' g a l :=
 fun hne => let ⟨o, ha, hc⟩ := h hne; ⟨o, ha, fun j x hx => k.cell hg (hc j x hx)⟩
def TL (w : World) (g : Nat) (a : Option Addr) (l : List ByteArray) : Prop := l ≠ [] → ∃ o, a = some ⟨g, o, none⟩ ∧ ∀ j x, l[j]? = some x → w.cell? ⟨g, o + j, none⟩ = some (.string x)
theorem TL.keep {S : Nat → Prop} {w w' : World} {g : Nat} {a : Option Addr} {l : List ByteArray} (h : TL w g a l) (k : Keeps S w w') (hg : ¬ S g) : TL w' g a l :=
 fun hne => let ⟨o, ha, hc⟩ := h hne; ⟨o, ha, fun j x hx => k.cell hg (hc j x hx)⟩
def i8 (x : Int) : List UInt8 := low (IntKind.u64.wrap x).toNat 8
theorem i8_length (x : Int) : (i8 x).length = 8 := low_length _ _
theorem wrap_u64_nonneg (x : Int) : 0 ≤ IntKind.u64.wrap x := by
 show 0 ≤ x % (2 ^ 64 : Int)
 exact Int.emod_nonneg _ (by decide)
theorem flat_length {α : Type} (f : α → List UInt8) (c : Nat) (h : ∀ x, (f x).length = c) : ∀ l : List α, (l.flatMap f).length = c * l.length
 | [] => by simp
 | x :: r => by rw [List.flatMap_cons, List.length_append, h, flat_length f c h r, List.length_cons, Nat.mul_succ]; omega
theorem take_flat {α : Type} (f : α → List UInt8) (l : List α) {j : Nat} {x : α} (h : l[j]? = some x) : (l.take (j + 1)).flatMap f = (l.take j).flatMap f ++ f x := by
 obtain ⟨hj, rfl⟩ := List.getElem?_eq_some_iff.1 h
 rw [List.take_succ_eq_append_getElem hj, List.flatMap_append]
 simp
theorem get_lt {α : Type} {l : List α} {j : Nat} (h : j < l.length) : ∃ x, l[j]? = some x := ⟨_, List.getElem?_eq_getElem h⟩
theorem not_nil {α : Type} {l : List α} {j : Nat} (h : j < l.length) : l ≠ [] := by rintro rfl; simp at h
theorem int_any (w : World) (b : Nat) (r : Option Nat) (l : List UInt8) (g : Nat) (a : Option Addr) (c : Nat) (xs : List Int) (hp : PenAt w b r l) (hx : IL w g a xs) (hg : ¬ PenS b r g) (hlen : l.length + 8 * xs.length ≤ 1099511627776) :
  Calls Try.prog 70 #[.pointer (some ⟨b, 0, none⟩), .slice a xs.length c] w (Laid w b r (l ++ xs.flatMap i8)) := by
 have HP := Lib.hid hp
 have HX := Lib.hid hx
 have HG := Lib.hid hg
 clear hp hx hg
 go_enter Try.func70, Try.ntmps70
 go_wp2
 go_loopw [8] (fun i wr => ∃ j : Nat, j ≤ xs.length ∧ i = .int .i64 j ∧ ∃ r', PenAt wr b r' (l ++ (xs.take j).flatMap i8) ∧ PenStep b r r' w wr) (fun i _ => xs.length - (RowKit.intOf i).toNat)
 case atStart => exact ⟨0, Nat.zero_le _, rfl, r, by simpa using HP.out, PenStep.refl _ _ _⟩
 case round =>
  obtain ⟨j, hj, rfl, r', hpj, hst⟩ := hrel
  have HS := Lib.hid hst
  have HPJ := Lib.hid hpj
  clear hst hpj
  by_cases hlt : j < xs.length
  ·obtain ⟨x, hx⟩ := get_lt hlt
   obtain ⟨o, rfl, hc⟩ := HX.out (not_nil hlt)
   have cx := HS.out.keeps.cell HG.out (hc j x hx)
   have HL : Hid (l ++ (xs.take j).flatMap i8 ++ low (IntKind.u64.wrap x).toNat 8 = l ++ (xs.take (j + 1)).flatMap i8) := by
    show _ = _
    rw [take_flat i8 xs hx, List.append_assoc]; rfl
   have HN : Hid ((l ++ (xs.take j).flatMap i8).length + 8 ≤ 1099511627776) := by
    show _ ≤ _
    rw [List.length_append, flat_length i8 8 i8_length, List.length_take]
    omega
   have hu := wrap_u64_nonneg x
   clear hc hx
   go_wp2_with (go_at_call 84; refine (number_any _ b r' _ (IntKind.u64.wrap x) 8 hu (Nat.le_refl _) HPJ.out HN.out).mono ?_; rintro e w1 ⟨rfl, r1, hp1, hs1⟩; have HP1 := Lib.hid hp1; have HS1 := Lib.hid hs1; clear hp1 hs1)
   go_roundw
   case rel => exact ⟨j + 1, hlt, by go_num, r1, by rw [← HL.out]; exact HP1.out, HS.out.trans HS1.out⟩
   case measure => simp [RowKit.intOf]; omega
  ·obtain rfl : j = xs.length := by omega
   go_wp2
   go_end0
   exact ⟨rfl, r', by simpa using HPJ.out, HS.out⟩

def tx (s : ByteArray) : List UInt8 := low s.size 4 ++ s.data.toList
theorem tx_length (s : ByteArray) : (tx s).length = 4 + s.size := by
 unfold tx
 rw [List.length_append, low_length, Array.length_toList]; rfl
def txSum : List ByteArray → Nat
 | [] => 0
 | s :: r => 4 + s.size + txSum r
theorem tx_sum (l : List ByteArray) : (l.flatMap tx).length = txSum l := by
 induction l with
 | nil => rfl
 | cons s r ih => rw [List.flatMap_cons, List.length_append, tx_length, ih]; rfl
theorem ba_len (s : ByteArray) : s.data.toList.length = s.size := by rw [Array.length_toList]; rfl
theorem txSum_take (l : List ByteArray) (j : Nat) (s : ByteArray) (h : l[j]? = some s) : txSum (l.take j) + (4 + s.size) ≤ txSum l := by
 induction l generalizing j with
 | nil => simp at h
 | cons x r ih =>
  cases j with
  | zero =>
   simp only [List.getElem?_cons_zero, Option.some.injEq] at h
   subst h
   simp [txSum]
  | succ j =>
   have := ih j (by simpa using h)
   simp only [List.take_succ_cons, txSum]
   omega
theorem text_any (w : World) (b : Nat) (r : Option Nat) (l : List UInt8) (g : Nat) (a : Option Addr) (c : Nat) (xs : List ByteArray) (hp : PenAt w b r l) (hx : TL w g a xs) (hg : ¬ PenS b r g) (hm : ∀ (j : Nat) (s : ByteArray), xs[j]? = some s → s.size ≤ 1048576) (hxl : xs.length ≤ 1000000) (hlen : l.length + txSum xs + 8 ≤ 1099511627776) :
  Calls Try.prog 69 #[.pointer (some ⟨b, 0, none⟩), .slice a xs.length c] w (Laid w b r (l ++ xs.flatMap tx)) := by
 have HP := Lib.hid hp
 have HX := Lib.hid hx
 have HG := Lib.hid hg
 have HM := Lib.hid hm
 clear hp hx hg hm
 go_enter Try.func69, Try.ntmps69
 go_wp2
 go_loopw [8] (fun i wr => ∃ j : Nat, j ≤ xs.length ∧ i = .int .i64 j ∧ ∃ r', PenAt wr b r' (l ++ (xs.take j).flatMap tx) ∧ PenStep b r r' w wr) (fun i _ => xs.length - (RowKit.intOf i).toNat)
 case atStart => exact ⟨0, Nat.zero_le _, rfl, r, by simpa using HP.out, PenStep.refl _ _ _⟩
 case round =>
  obtain ⟨j, hj, rfl, r', hpj, hst⟩ := hrel
  have HS := Lib.hid hst
  have HPJ := Lib.hid hpj
  clear hst hpj
  by_cases hlt : j < xs.length
  ·obtain ⟨s, hx⟩ := get_lt hlt
   obtain ⟨o, rfl, hc⟩ := HX.out (not_nil hlt)
   have cx := HS.out.keeps.cell HG.out (hc j s hx)
   have hs : s.size ≤ 1048576 := HM.out j s hx
   have hsum := txSum_take xs j s hx
   have hl0 : (l ++ (xs.take j).flatMap tx).length = l.length + txSum (xs.take j) := by rw [List.length_append, tx_sum]
   have HL : Hid (l ++ (xs.take j).flatMap tx ++ low (s.size : Int).toNat 4 ++ s.data.toList = l ++ (xs.take (j + 1)).flatMap tx) := by
    show _ = _
    rw [Int.toNat_natCast, take_flat tx xs hx, List.append_assoc, List.append_assoc]; rfl
   have HN : Hid ((l ++ (xs.take j).flatMap tx).length + 8 ≤ 1099511627776) := by
    show _ ≤ _
    omega
   have HN2 : Hid ((l ++ (xs.take j).flatMap tx ++ low (s.size : Int).toNat 4).length + s.data.toList.length ≤ 1099511627776) := by
    show _ ≤ _
    rw [List.length_append, low_length, hl0, ba_len]
    omega
   clear hc hx hl0 hsum
   have hn0 : (0 : Int) ≤ (s.size : Int) := Int.natCast_nonneg _
   go_wp2_with (first | (go_at_call 84; refine (number_any _ b r' _ (s.size : Int) 4 hn0 (by decide) HPJ.out HN.out).mono ?_; rintro e w1 ⟨rfl, r1, hp1, hs1⟩; have HP1 := Lib.hid hp1; have HS1 := Lib.hid hs1; clear hp1 hs1) | (go_at_call 85; refine (letters_any _ b r1 _ s HP1.out HN2.out).mono ?_; rintro e w2 ⟨rfl, r2, hp2, hs2⟩; have HP2 := Lib.hid hp2; have HS2 := Lib.hid hs2; clear hp2 hs2))
   go_roundw
   case rel => exact ⟨j + 1, hlt, by go_num, r2, by rw [← HL.out]; exact HP2.out, (HS.out.trans HS1.out).trans HS2.out⟩
   case measure => simp [RowKit.intOf]; omega
  ·obtain rfl : j = xs.length := by omega
   go_wp2
   go_end0
   exact ⟨rfl, r', by simpa using HPJ.out, HS.out⟩
def tb (t : Bool) : List UInt8 := low (if t then 1 else 0) 1
theorem bool_any (w : World) (b : Nat) (r : Option Nat) (l : List UInt8) (t : Bool) (hp : PenAt w b r l) (hlen : l.length + 8 ≤ 1099511627776) :
  Calls Try.prog 68 #[.pointer (some ⟨b, 0, none⟩), .bool t] w (Laid w b r (l ++ tb t)) := by
 have HP := Lib.hid hp
 clear hp
 cases t
 ·go_enter Try.func68, Try.ntmps68
  go_wp2_with (go_at_call 84; refine (number_any _ b r _ 0 1 (by decide) (by decide) HP.out hlen).mono ?_; rintro e w1 ⟨rfl, r1, hp1, hs1⟩; have HP1 := Lib.hid hp1; have HS1 := Lib.hid hs1; clear hp1 hs1)
  go_end0
  exact ⟨rfl, r1, HP1.out, HS1.out⟩
 ·go_enter Try.func68, Try.ntmps68
  go_wp2_with (go_at_call 84; refine (number_any _ b r _ 1 1 (by decide) (by decide) HP.out hlen).mono ?_; rintro e w1 ⟨rfl, r1, hp1, hs1⟩; have HP1 := Lib.hid hp1; have HS1 := Lib.hid hs1; clear hp1 hs1)
  go_end0
  exact ⟨rfl, r1, HP1.out, HS1.out⟩
def SL (w : World) (g : Nat) (a : Option Addr) (l : List (Int × Int)) : Prop :=
 l ≠ [] → ∃ o, a = some ⟨g, o, none⟩ ∧ ∀ j x y, l[j]? = some (x, y) → w.cell? ⟨g, o + j * 2, none⟩ = some (.int .i64 x) ∧ w.cell? ⟨g, o + j * 2 + 1, none⟩ = some (.int .i64 y)
theorem SL.keep {S : Nat → Prop} {w w' : World} {g : Nat} {a : Option Addr} {l : List (Int × Int)} (h : SL w g a l) (k : Keeps S w w') (hg : ¬ S g) : SL w' g a l :=
 fun hne => let ⟨o, ha, hc⟩ := h hne; ⟨o, ha, fun j x y hx => ⟨k.cell hg (hc j x y hx).1, k.cell hg (hc j x y hx).2⟩⟩
def st (s : Int × Int) : List UInt8 := i8 s.1 ++ i8 s.2
theorem one_new (w : World) (x : Int) (b : Nat) (hb : b = w.heap.size) (W : World) (hW : W.heap = (w.alloc (.cells #[.int .i64 x] 2)).heap) : IL W b (some ⟨b, 0, none⟩) [x] := by
 subst hb
 have h : W.heap[w.heap.size]? = some (.cells #[.int .i64 x] 2 (0, 0)) := by rw [hW]; exact heap_alloc_new w _
 intro _
 refine ⟨0, rfl, fun j z hz => ?_⟩
 rw [cell_of_row W _ _ _ _ _ h]
 match j, hz with
 | 0, hz => simp at hz; simp [hz]
theorem PenStep.before {b : Nat} {r r' : Option Nat} {w x y : World} (h : PenStep b r r' x y) (k : Keeps (fun _ => False) w x) : PenStep b r r' w y :=
 ⟨(k.mono fun _ _ h => h.elim).then h.keeps, h.row.imp id fun e => e.later k⟩
theorem PenAt.before {w x : World} {b : Nat} {r : Option Nat} {l : List UInt8} (h : PenAt w b r l) (k : Keeps (fun _ => False) w x) : PenAt x b r l := h.keep k (fun h => h) fun _ _ h => h
theorem PenStep.free {b g : Nat} {r r' : Option Nat} {w w' : World} (h : PenStep b r r' w w') (hg : ¬ PenS b r g) (hl : g < w.heap.size) : ¬ PenS b r' g := by
 rintro (e | e)
 ·exact hg (.inl e)
 ·rcases h.row with h | h
  ·exact hg (.inr (by rw [← h]; exact e))
  ·exact absurd (h g e) (by omega)
theorem PenAt.apart {w : World} {b g : Nat} {r : Option Nat} {l : List UInt8} (h : PenAt w b r l) (hg : w.heap.size ≤ g) : ¬ PenS b r g := by
 rintro (rfl | e)
 ·exact absurd h.lt (by omega)
 ·obtain ⟨v, _, _, hr, _⟩ := h
  exact absurd (hr.lt e) (by omega)
end S2
end Go.Proofs.Ytddbmibfebhmjaa
