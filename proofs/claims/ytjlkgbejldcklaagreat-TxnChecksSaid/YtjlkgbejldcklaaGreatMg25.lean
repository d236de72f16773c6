/- A law's things, opened; the reference's Stamps. Conditions: as each theorem states. -/
import Derived.Deep.RegionWith
import Derived.Test.YtjlkgbejldcklaaGreatMg24
/- The contracts of the reference's pen: low, Int, Text, Bool, Stamp, Stamps. Conditions: at most 2^40 bytes; texts of at most MaxFlat bytes. -/
namespace Go.Proofs.YtjlkgbejldcklaaGreat
namespace S2
open Go.RowKit

/-- What becomes of the world while bytes are laid behind a row: block g is written, all else that was there is as it was; g' is g, or new. -/
structure RowStep (g g' : Option Nat) (w w' : World) : Prop where
  keeps : Keeps (fun x => g = some x) w w'
  row : g' = g ∨ New w g'
theorem RowStep.refl (g : Option Nat) (w : World) : RowStep g g w w := ⟨Keeps.refl _ _, .inl rfl⟩
theorem RowStep.trans {g g' g'' : Option Nat} {u v w : World} (h : RowStep g g' u v) (k : RowStep g' g'' v w) : RowStep g g'' u w := by
  refine ⟨h.keeps.trans k.keeps fun x hx hs => ?_, ?_⟩
  · rcases h.row with e | e
    · rw [← e]; exact hs
    · exact absurd (e x hs) (by omega)
  · rcases k.row with e | e
    · rw [e]; exact h.row
    · exact .inr (e.later h.keeps)
theorem RowStep.below {B : Nat} {g g' : Option Nat} {x y : World} (h : RowStep g g' x y) (hB : B ≤ x.heap.size) (hr : ∀ k, g = some k → B ≤ k) : Below B x y :=
  h.keeps.below hB fun k hk e => by have := hr k e; omega
theorem RowStep.ofApp {g g' : Option Nat} {w W w' : World} (hk : Keeps (fun _ => False) w W) (h2 : W.grownBy w' g) (h3 : g' = g ∨ New W g') : RowStep g g' w w' :=
  ⟨kGrown (hk.mono fun _ _ h => h.elim) h2 fun _ e => .inl e, h3.imp id fun h => h.later hk⟩
theorem RowStep.before {g g' : Option Nat} {w x y : World} (h : RowStep g g' x y) (k : Keeps (fun _ => False) w x) : RowStep g g' w y :=
  ⟨(k.mono fun _ _ h => h.elim).then h.keeps, h.row.imp id fun e => e.later k⟩
theorem Row.before {w x : World} {g : Option Nat} {v : Value} {l : List UInt8} (h : Row w g v l) (k : Keeps (fun _ => False) w x) : Row x g v l := h.keep k fun _ _ h => h
/-- What a call of the reference's pen comes to. -/
def Rowed (w : World) (g : Option Nat) (l : List UInt8) (e : Ending) (w' : World) : Prop := ∃ v' g', e = .returned v' ∧ Row w' g' v' l ∧ RowStep g g' w w'

theorem shr_byte (n : Int) (h0 : 0 ≤ n) (j : Nat) : n / 2 ^ (8 * j) % 256 = ((UInt8.ofNat (n.toNat >>> (8 * j))).toNat : Int) := by
  obtain ⟨m, rfl⟩ := Int.eq_ofNat_of_zero_le h0
  rw [Int.toNat_natCast, Nat.shiftRight_eq_div_pow]
  have e : ((m : Int) / 2 ^ (8 * j)) = ((m / 2 ^ (8 * j) : Nat) : Int) := by simp
  rw [e]
  generalize m / 2 ^ (8 * j) = q
  simp

set_option maxRecDepth 100000 in
set_option maxHeartbeats 1000000 in
theorem rlow_any (w : World) (g : Option Nat) (v : Value) (l : List UInt8) (n : Int) (k : Nat) (h0 : 0 ≤ n) (hk : k ≤ 8) (hr : Row w g v l) (hlen : l.length + 8 ≤ 1099511627776) :
    Calls Tryz.prog 197 #[v, .int .u64 n, .int .i64 k] w (Rowed w g (l ++ low n.toNat k)) := by
  have HR := Lib.hid hr
  clear hr
  go_enter Tryz.func197, Tryz.ntmps197
  go_wp2
  go_loopw [0, 7] (fun v i wr => ∃ j : Nat, j ≤ k ∧ i = .int .i64 j ∧ ∃ g', Row wr g' v (l ++ low n.toNat j) ∧ RowStep g g' w wr) (fun _ i _ => k - (intOf i).toNat)
  case atStart => exact ⟨0, Nat.zero_le _, rfl, g, by rw [low_zero, List.append_nil]; exact HR.out, RowStep.refl _ _⟩
  case round =>
    obtain ⟨j, hj, rfl, g1, hrj, hst⟩ := hrel
    have HS := Lib.hid hst
    obtain ⟨a1, n1, c1, rfl⟩ := hrj.form
    have HRJ := Lib.hid hrj
    clear hst hrj
    by_cases hlt : j < k
    · have hx := shr_byte n h0 j
      have HL : Hid (l ++ low n.toNat j ++ [UInt8.ofNat (n.toNat >>> (8 * j))] = l ++ low n.toNat (j + 1)) := by show _ = _; rw [low_succ, List.append_assoc]
      have HLen : Hid ((l ++ low n.toNat j).length + [UInt8.ofNat (n.toNat >>> (8 * j))].length ≤ 1099511627776) := by
        show _ ≤ _
        rw [List.length_append, low_length]
        simp only [List.length_cons, List.length_nil]
        omega
      generalize UInt8.ofNat (n.toNat >>> (8 * j)) = y at hx HL HLen
      have HX := Lib.hid hx
      clear hx
      go_wp2_with (at_builtin; refine wpList_app rfl (.tmp 13) (.tmp 20) 23 rfl rfl rfl (HRJ.out.before (Keeps.alloc _ _ _)) (one_src wr y _ HX.out _ rfl _ rfl) HLen.out ?_; intro v' w' g' h1 h2 h3; have H1 := Lib.hid h1; have H2 := Lib.hid (RowStep.ofApp (Keeps.alloc _ _ _) h2 h3); clear h1 h2 h3)
      go_roundw
      case rel => exact ⟨j + 1, hlt, by go_num, g', by rw [← HL.out]; exact H1.out, HS.out.trans H2.out⟩
      case measure => simp [intOf]; omega
    · obtain rfl : j = k := by omega
      go_wp2
      go_ret
      exact ⟨_, g1, rfl, HRJ.out, HS.out⟩

set_option maxHeartbeats 1000000 in
theorem rint_any (w : World) (g : Option Nat) (v : Value) (l : List UInt8) (x : Int) (hr : Row w g v l) (hlen : l.length + 8 ≤ 1099511627776) :
    Calls Tryz.prog 107 #[v, .int .i64 x] w (Rowed w g (l ++ i8 x)) := by
  have HR := Lib.hid hr
  clear hr
  go_enter Tryz.func107, Tryz.ntmps107
  go_wp2_with (go_at_call 197; refine (rlow_any _ g _ l (IntKind.u64.wrap x) 8 (wrap_u64_nonneg x) (Nat.le_refl _) HR.out hlen).mono ?_; rintro e w1 ⟨v1, g1, rfl, h1, h2⟩; have H1 := Lib.hid h1; have H2 := Lib.hid h2; clear h1 h2)
  go_ret
  exact ⟨_, g1, rfl, H1.out, H2.out⟩

set_option maxHeartbeats 1000000 in
theorem rtext_any (w : World) (g : Option Nat) (v : Value) (l : List UInt8) (s : ByteArray) (hr : Row w g v l) (hs : s.size ≤ 1048576) (hlen : l.length + s.size + 8 ≤ 1099511627776) :
    Calls Tryz.prog 138 #[v, .string s] w (Rowed w g (l ++ tx s)) := by
  have HR := Lib.hid hr
  have hn0 : (0 : Int) ≤ (s.size : Int) := Int.natCast_nonneg _
  have HL : Hid (l ++ low (s.size : Int).toNat 4 ++ s.data.toList = l ++ tx s) := by show _ = _; rw [Int.toNat_natCast, List.append_assoc]; rfl
  have HN : Hid (l.length + 8 ≤ 1099511627776) := by show _ ≤ _; omega
  have HN2 : Hid ((l ++ low (s.size : Int).toNat 4).length + s.data.toList.length ≤ 1099511627776) := by show _ ≤ _; rw [List.length_append, low_length, ba_len]; omega
  clear hr
  go_enter Tryz.func138, Tryz.ntmps138
  go_wp2_with (first | (go_at_call 197; refine (rlow_any _ g _ l (s.size : Int) 4 hn0 (by decide) HR.out HN.out).mono ?_; rintro e w1 ⟨v1, g1, rfl, h1, h2⟩; have H1 := Lib.hid h1; have H2 := Lib.hid h2; clear h1 h2) | (at_builtin; refine wpList_app rfl (.tmp 14) (.tmp 15) 9 rfl rfl rfl H1.out (string_src _ s) HN2.out ?_; intro v' w' g' h1 h2 h3; have H3 := Lib.hid h1; have H4 := Lib.hid (RowStep.ofApp (Keeps.refl _ _) h2 h3); clear h1 h2 h3))
  go_ret
  exact ⟨_, g', rfl, by rw [← HL.out]; exact H3.out, H2.out.trans H4.out⟩

set_option maxHeartbeats 1000000 in
theorem rbool_any (w : World) (g : Option Nat) (v : Value) (l : List UInt8) (t : Bool) (hr : Row w g v l) (hlen : l.length + 8 ≤ 1099511627776) :
    Calls Tryz.prog 171 #[v, .bool t] w (Rowed w g (l ++ tb t)) := by
  have HR := Lib.hid hr
  have HN : Hid (∀ x : UInt8, l.length + [x].length ≤ 1099511627776) := fun x => by simp; omega
  clear hr
  cases t
  · have HT : Hid (l ++ [0] = l ++ tb false) := rfl
    go_enter Tryz.func171, Tryz.ntmps171
    go_wp2_with (at_builtin; refine wpList_app rfl (.tmp 9) (.tmp 10) 23 rfl rfl rfl (HR.out.before (Keeps.alloc _ _ _)) (one_src w 0 0 rfl _ rfl _ rfl) (HN.out 0) ?_; intro v' w' g' h1 h2 h3; have H1 := Lib.hid h1; have H2 := Lib.hid (RowStep.ofApp (Keeps.alloc _ _ _) h2 h3); clear h1 h2 h3)
    go_ret
    exact ⟨_, g', rfl, by rw [← HT.out]; exact H1.out, H2.out⟩
  · have HT : Hid (l ++ [1] = l ++ tb true) := rfl
    go_enter Tryz.func171, Tryz.ntmps171
    go_wp2_with (at_builtin; refine wpList_app rfl (.tmp 6) (.tmp 7) 23 rfl rfl rfl (HR.out.before (Keeps.alloc _ _ _)) (one_src w 1 1 rfl _ rfl _ rfl) (HN.out 1) ?_; intro v' w' g' h1 h2 h3; have H1 := Lib.hid h1; have H2 := Lib.hid (RowStep.ofApp (Keeps.alloc _ _ _) h2 h3); clear h1 h2 h3)
    go_ret
    exact ⟨_, g', rfl, by rw [← HT.out]; exact H1.out, H2.out⟩

set_option maxRecDepth 100000 in
set_option maxHeartbeats 1000000 in
theorem rstamp_any (w : World) (g : Option Nat) (v : Value) (l : List UInt8) (x y : Int) (hr : Row w g v l) (hlen : l.length + 16 ≤ 1099511627776) :
    Calls Tryz.prog 170 #[v, .agg #[.int .i64 x, .int .i64 y]] w (Rowed w g (l ++ st (x, y))) := by
  obtain ⟨a0, n0, c0, rfl⟩ := hr.form
  have HR := Lib.hid hr
  have HL : Hid (l ++ i8 x ++ i8 y = l ++ st (x, y)) := by show _ = _; rw [List.append_assoc]; rfl
  have HN : Hid (l.length + 8 ≤ 1099511627776) := by show _ ≤ _; omega
  have HN2 : Hid ((l ++ i8 x).length + 8 ≤ 1099511627776) := by show _ ≤ _; rw [List.length_append, i8_length]; omega
  clear hr
  go_enter Tryz.func170, Tryz.ntmps170
  go_wp2_with fail
  have hB : (w.alloc (Obj.cells #[Value.int IntKind.i64 x, Value.int IntKind.i64 y] 42)).heap[w.heap.size]? = some (.cells #[.int .i64 x, .int .i64 y] 42 (0, 0)) := heap_alloc_new w _
  have HR1 := Lib.hid (HR.out.before (Keeps.alloc _ w (Obj.cells #[Value.int IntKind.i64 x, Value.int IntKind.i64 y] 42)))
  have HK1 : Hid (Keeps (fun _ => False) w (w.alloc (Obj.cells #[Value.int IntKind.i64 x, Value.int IntKind.i64 y] 42))) := Keeps.alloc _ _ _
  have HG : Hid (g ≠ some w.heap.size) := fun h => by have := HR.out.lt h; omega
  generalize w.alloc (Obj.cells #[Value.int IntKind.i64 x, Value.int IntKind.i64 y] 42) = W at *
  have bx : W.cell? ⟨w.heap.size, 0, none⟩ = some (.int .i64 x) := by rw [cell_of_row _ _ _ _ _ _ hB]; rfl
  have by' : W.cell? ⟨w.heap.size, 1, none⟩ = some (.int .i64 y) := by rw [cell_of_row _ _ _ _ _ _ hB]; rfl
  have hBX := Lib.hid hB
  clear hB
  have tok1 : True := trivial
  go_region_with (first | (go_at_call 107; have _t := tok1; clear _t tok1; refine (rint_any _ g _ l x (HR1.out.before (Keeps.drew _ _)) HN.out).mono ?_; rintro e w1 ⟨v1, g1, rfl, h1, h2⟩; obtain ⟨a1, n1, c1, rfl⟩ := h1.form; have cy := (h2.before (w := W) (Keeps.drew _ _)).keeps.cell HG.out by'; have H1 := Lib.hid h1; have H2 := Lib.hid (h2.before (w := W) (Keeps.drew _ _)); clear h1 h2) | (go_at_call 107; refine (rint_any _ g1 _ (l ++ i8 x) y H1.out HN2.out).mono ?_; rintro e w2 ⟨v2, g2, rfl, h1, h2⟩; obtain ⟨a2, n2, c2, rfl⟩ := h1.form; have H3 := Lib.hid h1; have H4 := Lib.hid h2; clear h1 h2))
  all_goals
    go_wp2
    go_ret
    exact ⟨_, g2, rfl, by rw [← HL.out]; exact H3.out, (H2.out.trans H4.out).before HK1.out⟩

end S2
end Go.Proofs.YtjlkgbejldcklaaGreat

/- A law's things, opened; the reference's Stamps. Conditions: as each theorem states. -/
namespace Go.Proofs.YtjlkgbejldcklaaGreat
namespace S2
open Go.ChangeShapes Go.WideShapes Go.ChangeAt Go.RowKit Go.Joins Go.Deep

set_option maxRecDepth 100000 in
set_option maxHeartbeats 1000000 in
theorem rstamps_any (w : World) (g : Option Nat) (v : Value) (l : List UInt8) (g2 : Nat) (a : Option Addr) (c : Nat) (xs : List (Int × Int)) (hr : Row w g v l) (hx : SL w g2 a xs) (hg : g ≠ some g2) (hlen : l.length + 16 * xs.length + 32 ≤ 1099511627776) :
    Calls Tryz.prog 108 #[v, .slice a xs.length c] w (Rowed w g (l ++ sts xs)) := by
  have HR := Lib.hid hr
  have HX := Lib.hid hx
  have HN : Hid (l.length + 8 ≤ 1099511627776) := by show _ ≤ _; omega
  clear hr hx
  go_enter Tryz.func108, Tryz.ntmps108
  go_wp2_with fail
  refine (rint_any _ g _ l (xs.length : Int) HR.out HN.out).mono ?_
  rintro e w1 ⟨v1, g1, rfl, h1, h2⟩
  obtain ⟨a1, n1, c1, rfl⟩ := h1.form
  have H1 := Lib.hid h1
  have H2 := Lib.hid h2
  have HX1 := Lib.hid (HX.out.keep h2.keeps hg)
  clear h1 h2
  go_wp2_with fail
  go_loopw [0, 5] (fun v i wr => ∃ j : Nat, j ≤ xs.length ∧ i = .int .i64 j ∧ ∃ g', Row wr g' v (l ++ i8 xs.length ++ (xs.take j).flatMap st) ∧ RowStep g g' w wr) (fun _ i _ => xs.length - (intOf i).toNat)
  case atStart => exact ⟨0, Nat.zero_le _, rfl, g1, by simpa using H1.out, H2.out⟩
  case round =>
    obtain ⟨j, hj, rfl, g', hrj, hst⟩ := hrel
    have HS := Lib.hid hst
    obtain ⟨aj, nj, cj, rfl⟩ := hrj.form
    have HRJ := Lib.hid hrj
    clear hst hrj
    by_cases hlt : j < xs.length
    · obtain ⟨⟨x, y⟩, hx⟩ := get_lt hlt
      obtain ⟨o, rfl, hc⟩ := HX.out (not_nil hlt)
      have cx := HS.out.keeps.cell hg (hc j x y hx).1
      have cy := HS.out.keeps.cell hg (hc j x y hx).2
      have HL : Hid (l ++ i8 xs.length ++ (xs.take j).flatMap st ++ st (x, y) = l ++ i8 xs.length ++ (xs.take (j + 1)).flatMap st) := by
        show _ = _
        rw [take_flat st xs hx]; simp
      have HNJ : Hid ((l ++ i8 xs.length ++ (xs.take j).flatMap st).length + 16 ≤ 1099511627776) := by
        show _ ≤ _
        rw [List.length_append, List.length_append, i8_length, flat_length st 16 st_length, List.length_take]
        omega
      clear hc hx
      go_wp2_with (go_at_call 170; refine (rstamp_any _ g' _ _ x y HRJ.out HNJ.out).mono ?_; rintro e w2 ⟨v2, g2', rfl, h1, h2⟩; have H3 := Lib.hid h1; have H4 := Lib.hid h2; clear h1 h2)
      go_roundw
      case rel => exact ⟨j + 1, hlt, by go_num, g2', by rw [← HL.out]; exact H3.out, HS.out.trans H4.out⟩
      case measure => simp [intOf]; omega
    · obtain rfl : j = xs.length := by omega
      have HT : Hid (l ++ i8 xs.length ++ (xs.take xs.length).flatMap st = l ++ sts xs) := by show _ = _; rw [List.take_length, List.append_assoc]; rfl
      rw [HT.out] at HRJ
      go_wp2
      go_ret
      exact ⟨_, g', rfl, HRJ.out, HS.out⟩

/-- A thing that is laid, or read. -/
structure Th where
  k : Int
  n : Int
  s : ByteArray
  b : Bool
  t : Int × Int
  l : List (Int × Int)
  a : Option Addr
  c : Nat
  g : Nat
/-- A thing's numbers are such as Go has; its text and list within the form's reach. -/
structure Th.ok (x : Th) : Prop where
  n : (Lit.int .i64 x.n).wf = true
  t1 : (Lit.int .i64 x.t.1).wf = true
  t2 : (Lit.int .i64 x.t.2).wf = true
  l : ∀ s ∈ x.l, (Lit.int .i64 s.1).wf = true ∧ (Lit.int .i64 s.2).wf = true
  s : x.s.size ≤ 140737488355328
  len : 16 * x.l.length ≤ 140737488355328
/-- From offset o on, block g holds the thing x. -/
structure ThAt (w : World) (g o : Nat) (x : Th) : Prop where
  k : w.cell? ⟨g, o, none⟩ = some (.int .i64 x.k)
  n : w.cell? ⟨g, o + 1, none⟩ = some (.int .i64 x.n)
  s : w.cell? ⟨g, o + 2, none⟩ = some (.string x.s)
  b : w.cell? ⟨g, o + 3, none⟩ = some (.bool x.b)
  t1 : w.cell? ⟨g, o + 4, none⟩ = some (.int .i64 x.t.1)
  t2 : w.cell? ⟨g, o + 5, none⟩ = some (.int .i64 x.t.2)
  l : w.cell? ⟨g, o + 6, none⟩ = some (.slice x.a x.l.length x.c)
section
variable {H : Type} {enc : TypeId × Value → H}
end

end S2
end Go.Proofs.YtjlkgbejldcklaaGreat
