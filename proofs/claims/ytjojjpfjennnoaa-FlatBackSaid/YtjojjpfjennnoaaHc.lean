/- FlatBack: what was laid is read back as it was, and cut anywhere it is not: whatever things and wherever it is cut, the law returns true and leaves its arguments as they were. Conditions: none. -/
import Derived.Test.YtjojjpfjennnoaaHb
namespace Go.Proofs.Ytjojjpfjennnoaa
open Go.ChangeShapes Go.WideShapes Go.ChangeAt Go.RowKit Go.Joins Go.Deep

theorem Ths.later {w x : World} {g : Nat} {a : Option Addr} {l : List Th} (h : Ths w g a l) (hb : Below w.heap.size w x) : Ths x g a l := by
  intro hne
  obtain ⟨hg, o, ha, hall⟩ := h hne
  exact ⟨Nat.lt_of_lt_of_le hg hb.size, o, ha, fun j y hy => let ⟨h1, h2, h3, h4⟩ := hall j y hy; ⟨h1.later hb hg, h2, h3.later h4 hb, fun hn => Nat.lt_of_lt_of_le (h4 hn) hb.size⟩⟩
theorem drop_flat {α β : Type} (f : α → List β) (l : List α) {j : Nat} {x : α} (h : l[j]? = some x) : (l.drop j).flatMap f = f x ++ (l.drop (j + 1)).flatMap f := by
  obtain ⟨hj, rfl⟩ := List.getElem?_eq_some_iff.1 h
  rw [← List.getElem_cons_drop (h := hj), List.flatMap_cons]
theorem drop_len {α β : Type} (f : α → List β) (l : List α) (j : Nat) : ((l.drop j).flatMap f).length ≤ (l.flatMap f).length := by
  have h : (l.take j).flatMap f ++ (l.drop j).flatMap f = l.flatMap f := by rw [← List.flatMap_append, List.take_append_drop]
  rw [← h, List.length_append]
  omega
theorem SL.keep' {w w' : World} {g b : Nat} {a : Option Addr} {l : List (Int × Int)} (h : SL w g a l) (k : Keeps (Only b) w w') (hg : l ≠ [] → g < b) : SL w' g a l :=
  fun hne => h.keep k (fun e => by have e : g = b := e; have := hg hne; omega) hne
theorem SL.lt {w : World} {g : Nat} {a : Option Addr} {l : List (Int × Int)} (h : SL w g a l) (hne : l ≠ []) : g < w.heap.size := by
  obtain ⟨o, _, hc⟩ := h hne
  match l, hne, hc with
  | (x, y) :: r, _, hc => exact World.block_lt_of_cell? _ _ (hc 0 x y rfl).1

set_option maxRecDepth 100000 in
set_option maxHeartbeats 8000000 in
theorem flatBack_walk (g0 : Nat) (a0 : Option Addr) (c0 : Nat) (l : List Th) (cut : Int) (w : World) (hm0 : l.length ≤ maxLen) (hl : Ths w g0 a0 l) :
    Calls Try.prog 5 #[.slice a0 l.length c0, .int .i64 cut] w fun e w' => e = .returned (.bool true) ∧ Below w.heap.size w w' := by
  have HL := Lib.hid hl
  clear hl
  have hm0' := hm0
  unfold maxLen at hm0'
  cases hs : smallT l
  · have HSM := Lib.hid hs
    clear hs
    go_enter Try.func5, Try.ntmps5
    go_wp2_with (first | (go_at_call 12; refine (small_any _ g0 _ c0 l hm0 HL.out).mono ?_; rintro e w1 ⟨rfl, hb1⟩; rw [HSM.out]; have HB1 := Lib.hid hb1; clear hb1) | (go_at_call 13; refine (live_any _).mono ?_; rintro e w9 ⟨rfl, hb1⟩; have HB9 := Lib.hid hb1; clear hb1))
    go_ret
    exact ⟨rfl, bThen' HB1.out HB9.out⟩
  · have HSM := Lib.hid hs
    have hsd : l.length ≤ 60 ∧ wsum l ≤ 20000 := by unfold smallT at hs; simpa using hs
    obtain ⟨hl60, hl20⟩ := hsd
    have hLL : (l.flatMap layB).length ≤ 30000 := by have := lay_len l; omega
    clear hs
    go_enter Try.func5, Try.ntmps5
    go_wp2_with (first | (go_at_call 12; refine (small_any _ g0 _ c0 l hm0 HL.out).mono ?_; rintro e w1 ⟨rfl, hb1⟩; rw [HSM.out]; have HB1 := Lib.hid hb1; clear hb1) | (go_at_call 13; refine (live_any _).mono ?_; rintro e w9 ⟨rfl, hb1⟩; have HB9 := Lib.hid hb1; clear hb1))
    refine (lay_any w1 g0 a0 c0 l hl60 hl20 (HL.out.later HB1.out)).mono ?_
    rintro e w2 ⟨va, ga, vb, gb, rfl, hra, hrb, _, _, hb2⟩
    obtain ⟨aa, ca, rfl⟩ := hra.len_form _ rfl
    obtain ⟨ab, nb, cb, rfl⟩ := hrb.form
    have HB2 : Hid (Below w.heap.size w w2) := bThen' HB1.out hb2
    have HBS := Lib.hid hra.bs
    clear hra hrb hb2
    have HAL : Hid (∀ j, ((l.drop j).flatMap layB).length ≤ 30000) := fun j => Nat.le_trans (drop_len layB l j) hLL
    generalize hLe : l.flatMap layB = LL at HBS hLL ⊢
    have HLE := Lib.hid hLe
    clear hLe
    go_wp2_with fail
    refine (open_any w2 (ga.getD 0) _ LL HBS.out (by omega)).mono ?_
    rintro e w3 ⟨b, g, rfl, he, hbb, hgg, hbel⟩
    have HE3 := Lib.hid he
    have HB3 : Hid (Below w.heap.size w w3) := HB2.out.trans (hbel.mono HB2.out.size)
    have HBS3 := Lib.hid (HBS.out.keep (ofB (S := fun _ => False) hbel) (fun _ h => h))
    have HBb : Hid (w.heap.size ≤ b) := Nat.le_trans HB2.out.size hbb
    have HNB : Hid (LL ≠ [] → ¬ Only b (ga.getD 0)) := fun hne h => by have e : ga.getD 0 = b := h; have := HBS.out.lt hne; omega
    clear he hbb hgg hbel
    go_wp2_with fail
    go_loopw [8] (fun i wr => ∃ j : Nat, j ≤ l.length ∧ i = .int .i64 j ∧ EyeAt wr b g ((l.drop j).flatMap layB) false ∧ Keeps (Only b) w3 wr) (fun i _ => l.length - (intOf i).toNat)
    case atStart => exact ⟨0, Nat.zero_le _, rfl, by rw [List.drop_zero, HLE.out]; exact HE3.out, Keeps.refl _ _⟩
    case round =>
      obtain ⟨j, hj, rfl, hej, hkj⟩ := hrel
      have HB : Hid (Below w.heap.size w wr) := HB3.out.trans (onlyB hkj HB3.out.size HBb.out)
      have HEJ := Lib.hid hej
      have HKJ := Lib.hid hkj
      clear hej hkj
      by_cases hlt : j < l.length
      · obtain ⟨x, hx⟩ := get_lt hlt
        obtain ⟨hg, o, rfl, hall⟩ := HL.out (not_nil hlt)
        obtain ⟨hat, hok, hsl, hsg⟩ := hall j x hx
        have hat' := hat.later HB.out hg
        have q0 := hat'.k
        have q1 := hat'.n
        have q2 := hat'.s
        have q3 := hat'.b
        have q4 := hat'.t1
        have q5 := hat'.t2
        have q6 := hat'.l
        have hwx := wsum_mem l hx
        unfold wt at hwx
        have hs1 : x.s.size ≤ 20000 := by omega
        have hl1 : x.l.length ≤ 1250 := by omega
        rw [drop_flat layB l hx] at HEJ
        have HRL : Hid (((l.drop (j + 1)).flatMap layB).length ≤ 30000) := HAL.out _
        have HSL := Lib.hid (hsl.later hsg HB.out)
        have HSG : Hid (x.l ≠ [] → x.g < wr.heap.size) := fun h => Nat.lt_of_lt_of_le (hsg h) HB.out.size
        have HSB : Hid (x.l ≠ [] → x.g < b) := fun h => Nat.lt_of_lt_of_le (hsg h) HBb.out
        have HOK := Lib.hid hok
        generalize hR : (l.drop (j + 1)).flatMap layB = R at HEJ HRL
        have HRE := Lib.hid hR
        clear hall hat hat' hok hx hsl hsg hwx hR
        obtain ⟨k, n, s, t, ⟨t1, t2⟩, xl, xa, xc, xg⟩ := x
        simp only at q0 q1 q2 q3 q4 q5 q6 hs1 hl1
        have HX : Hid ((wr.alloc (Obj.cells #[Value.int IntKind.i64 k, Value.int IntKind.i64 n, Value.string s, Value.bool t, Value.int IntKind.i64 t1, Value.int IntKind.i64 t2, Value.slice xa xl.length xc] 62)).heap[wr.heap.size]? = some (.cells #[Value.int IntKind.i64 k, Value.int IntKind.i64 n, Value.string s, Value.bool t, Value.int IntKind.i64 t1, Value.int IntKind.i64 t2, Value.slice xa xl.length xc] 62 (0, 0))) := heap_alloc_new wr _
        have HK1 : Hid (Keeps (Only b) w3 (wr.alloc (Obj.cells #[Value.int IntKind.i64 k, Value.int IntKind.i64 n, Value.string s, Value.bool t, Value.int IntKind.i64 t1, Value.int IntKind.i64 t2, Value.slice xa xl.length xc] 62))) := HKJ.out.then (Keeps.alloc _ _ _)
        have HE1 := Lib.hid (HEJ.out.before (Keeps.alloc _ wr (Obj.cells #[Value.int IntKind.i64 k, Value.int IntKind.i64 n, Value.string s, Value.bool t, Value.int IntKind.i64 t1, Value.int IntKind.i64 t2, Value.slice xa xl.length xc] 62)))
        have HNX : Hid (¬ Only b wr.heap.size) := fun h => by have e : wr.heap.size = b := h; have := HEJ.out.lt; omega
        have HS1 := Lib.hid (HSL.out.later HSG.out ((Below.refl _ _).alloc (Nat.le_refl _) (Obj.cells #[Value.int IntKind.i64 k, Value.int IntKind.i64 n, Value.string s, Value.bool t, Value.int IntKind.i64 t1, Value.int IntKind.i64 t2, Value.slice xa xl.length xc] 62)))
        have HSZ : Hid ((wr.alloc (Obj.cells #[Value.int IntKind.i64 k, Value.int IntKind.i64 n, Value.string s, Value.bool t, Value.int IntKind.i64 t1, Value.int IntKind.i64 t2, Value.slice xa xl.length xc] 62)).heap.size = wr.heap.size + 1) := by show _ = _; simp
        by_cases k0 : k = 0
        · subst k0
          have HTL : Hid (layB ⟨0, n, s, t, (t1, t2), xl, xa, xc, xg⟩ = i8 n) := by show _ = _; simp [layB]
          rw [HTL.out] at HEJ HE1
          go_wp2_with fail
          generalize wr.alloc (Obj.cells #[Value.int IntKind.i64 0, Value.int IntKind.i64 n, Value.string s, Value.bool t, Value.int IntKind.i64 t1, Value.int IntKind.i64 t2, Value.slice xa xl.length xc] 62) = W1 at *
          have x1 : W1.cell? ⟨wr.heap.size, 1, none⟩ = some (.int .i64 n) := by rw [cell_of_row _ _ _ _ _ _ HX.out]; rfl
          go_region_with (go_at_call 24; refine (frontI _ b g n R (HE1.out.before (Keeps.drew _ _)) HOK.out.n).mono ?_; rintro e w4 ⟨rfl, he4, hk4⟩; have y1 := ((Keeps.drew _ _).then hk4).cell HNX.out x1; have HE4 := Lib.hid he4; have HK4 := Lib.hid ((HK1.out.then (Keeps.drew _ _)).then hk4); clear he4 hk4)
          all_goals
            go_wp2
            go_roundw
            case rel => exact ⟨j + 1, hlt, by go_num, by rw [HRE.out]; exact HE4.out, HK4.out⟩
            case measure => simp [intOf]; omega
        · skip
          by_cases k1 : k = 1
          · subst k1
            have HTL : Hid (layB ⟨1, n, s, t, (t1, t2), xl, xa, xc, xg⟩ = tx s) := by show _ = _; simp [layB]
            rw [HTL.out] at HEJ HE1
            go_wp2_with fail
            generalize wr.alloc (Obj.cells #[Value.int IntKind.i64 1, Value.int IntKind.i64 n, Value.string s, Value.bool t, Value.int IntKind.i64 t1, Value.int IntKind.i64 t2, Value.slice xa xl.length xc] 62) = W1 at *
            have x2 : W1.cell? ⟨wr.heap.size, 2, none⟩ = some (.string s) := by rw [cell_of_row _ _ _ _ _ _ HX.out]; rfl
            go_region_with (go_at_call 26; refine (frontT _ b g s R (HE1.out.before (Keeps.drew _ _)) (by omega)).mono ?_; rintro e w4 ⟨rfl, he4, hk4⟩; have y2 := ((Keeps.drew _ _).then hk4).cell HNX.out x2; have HE4 := Lib.hid he4; have HK4 := Lib.hid ((HK1.out.then (Keeps.drew _ _)).then hk4); clear he4 hk4)
            all_goals
              go_wp2
              go_roundw
              case rel => exact ⟨j + 1, hlt, by go_num, by rw [HRE.out]; exact HE4.out, HK4.out⟩
              case measure => simp [intOf]; omega
          · skip
            by_cases k2 : k = 2
            · subst k2
              have HTL : Hid (layB ⟨2, n, s, t, (t1, t2), xl, xa, xc, xg⟩ = tb t) := by show _ = _; simp [layB]
              rw [HTL.out] at HEJ HE1
              go_wp2_with fail
              generalize wr.alloc (Obj.cells #[Value.int IntKind.i64 2, Value.int IntKind.i64 n, Value.string s, Value.bool t, Value.int IntKind.i64 t1, Value.int IntKind.i64 t2, Value.slice xa xl.length xc] 62) = W1 at *
              have x3 : W1.cell? ⟨wr.heap.size, 3, none⟩ = some (.bool t) := by rw [cell_of_row _ _ _ _ _ _ HX.out]; rfl
              go_region_with (go_at_call 28; refine (frontB _ b g t R (HE1.out.before (Keeps.drew _ _))).mono ?_; rintro e w4 ⟨rfl, he4, hk4⟩; have y3 := ((Keeps.drew _ _).then hk4).cell HNX.out x3; have HE4 := Lib.hid he4; have HK4 := Lib.hid ((HK1.out.then (Keeps.drew _ _)).then hk4); clear he4 hk4)
              all_goals
                go_wp2
                go_roundw
                case rel => exact ⟨j + 1, hlt, by go_num, by rw [HRE.out]; exact HE4.out, HK4.out⟩
                case measure => simp [intOf]; omega
            · skip
              by_cases k3 : k = 3
              · subst k3
                have HTL : Hid (layB ⟨3, n, s, t, (t1, t2), xl, xa, xc, xg⟩ = st (t1, t2)) := by show _ = _; simp [layB]
                rw [HTL.out] at HEJ HE1
                go_wp2_with fail
                generalize wr.alloc (Obj.cells #[Value.int IntKind.i64 3, Value.int IntKind.i64 n, Value.string s, Value.bool t, Value.int IntKind.i64 t1, Value.int IntKind.i64 t2, Value.slice xa xl.length xc] 62) = W1 at *
                have x4 : W1.cell? ⟨wr.heap.size, 4, none⟩ = some (.int .i64 t1) := by rw [cell_of_row _ _ _ _ _ _ HX.out]; rfl
                have x5 : W1.cell? ⟨wr.heap.size, 5, none⟩ = some (.int .i64 t2) := by rw [cell_of_row _ _ _ _ _ _ HX.out]; rfl
                go_region_with (go_at_call 30; refine (frontS _ b g t1 t2 R (HE1.out.before (Keeps.drew _ _)) HOK.out.t1 HOK.out.t2).mono ?_; rintro e w4 ⟨rfl, he4, hk4⟩; have y4 := ((Keeps.drew _ _).then hk4).cell HNX.out x4; have y5 := ((Keeps.drew _ _).then hk4).cell HNX.out x5; have HE4 := Lib.hid he4; have HK4 := Lib.hid ((HK1.out.then (Keeps.drew _ _)).then hk4); clear he4 hk4)
                all_goals
                  go_wp2
                  go_roundw
                  case rel => exact ⟨j + 1, hlt, by go_num, by rw [HRE.out]; exact HE4.out, HK4.out⟩
                  case measure => simp [intOf]; omega
              · skip
                by_cases k4 : k = 4
                · subst k4
                  have HTL : Hid (layB ⟨4, n, s, t, (t1, t2), xl, xa, xc, xg⟩ = sts xl) := by show _ = _; simp [layB]
                  rw [HTL.out] at HEJ HE1
                  go_wp2_with fail
                  generalize wr.alloc (Obj.cells #[Value.int IntKind.i64 4, Value.int IntKind.i64 n, Value.string s, Value.bool t, Value.int IntKind.i64 t1, Value.int IntKind.i64 t2, Value.slice xa xl.length xc] 62) = W1 at *
                  have x6 : W1.cell? ⟨wr.heap.size, 6, none⟩ = some (.slice xa xl.length xc) := by rw [cell_of_row _ _ _ _ _ _ HX.out]; rfl
                  have HLL : Hid ((sts xl ++ R).length ≤ 1000000) := by have := HRL.out; have := sts_len xl; show _ ≤ _; rw [List.length_append]; omega
                  go_region_with (first | (go_at_call 33; refine (frontL _ b g xl R (HE1.out.before (Keeps.drew _ _)) hl1 HOK.out.l HLL.out).mono ?_; rintro e w4 ⟨a4, c4, h4, rfl, hs4, hz4, he4, hk4⟩; have y6 := ((Keeps.drew _ _).then hk4).cell HNX.out x6; have HS4 := Lib.hid hs4; have HE4 := Lib.hid he4; have HK4 := Lib.hid ((HK1.out.then (Keeps.drew _ _)).then hk4); have HS5 := Lib.hid (HS1.out.keep' ((Keeps.drew _ _).then hk4) HSB.out); have HG5 := Lib.hid (fun h : xl ≠ [] => HS5.out.lt h); clear hs4 hz4 he4 hk4) | (go_at_call 32; refine (same_any h4 xg _ _ _ _ xl _ (by omega) HS4.out HS5.out (fun h => HS4.out.lt h) HG5.out).mono ?_; rintro e w5 ⟨rfl, hb5⟩; have HE5 := Lib.hid (HE4.out.before (ofB hb5)); have HK5 := Lib.hid (HK4.out.then (ofB hb5)); clear hb5))
                  all_goals
                    go_wp2
                    go_roundw
                    case rel => exact ⟨j + 1, hlt, by go_num, by rw [HRE.out]; exact HE5.out, HK5.out⟩
                    case measure => simp [intOf]; omega
                · skip
                  have HTL : Hid (layB ⟨k, n, s, t, (t1, t2), xl, xa, xc, xg⟩ = []) := by show _ = _; simp [layB, k0, k1, k2, k3, k4]
                  rw [HTL.out, List.nil_append] at HE1
                  have y0 : (k == 0) = false := by simpa using k0
                  have y1 : (k == 1) = false := by simpa using k1
                  have y2 : (k == 2) = false := by simpa using k2
                  have y3 : (k == 3) = false := by simpa using k3
                  have y4 : (k == 4) = false := by simpa using k4
                  go_wp2_with fail
                  go_roundw
                  case rel => exact ⟨j + 1, hlt, by go_num, by rw [HRE.out]; exact HE1.out, HK1.out⟩
                  case measure => simp [intOf]; omega
      · obtain rfl : j = l.length := by omega
        rw [List.drop_length, List.flatMap_nil] at HEJ
        have hd0 : doneN [] false = 0 := rfl
        have hl0 : ((([] : List UInt8).length : Nat) : Int) = 0 := rfl
        have HBSJ := Lib.hid (HBS3.out.keep HKJ.out HNB.out)
        have DL : True := trivial
        by_cases hneg : cut < 0
        · go_wp2_with (first | (go_at_call 37; refine (done_any _ b g [] false HEJ.out).mono ?_; rintro e w ⟨rfl, rfl⟩; rw [hd0]) | (go_at_call 35; refine (left_any _ b g [] false HEJ.out).mono ?_; rintro e w ⟨rfl, rfl⟩; rw [hl0]) | (go_at_call 36; refine (num_any _ _).mono ?_; rintro e w' ⟨rfl, rfl⟩) | (go_at_call 13; refine (live_any _).mono ?_; rintro e w9 ⟨rfl, hb1⟩; have HB9 := Lib.hid hb1; clear hb1))
          go_ret
          exact ⟨rfl, bThen' HB.out HB9.out⟩
        · obtain ⟨p, rfl⟩ := Int.eq_ofNat_of_zero_le (Int.not_lt.1 hneg)
          by_cases hge : LL.length ≤ p
          · go_wp2_with (first | (go_at_call 37; refine (done_any _ b g [] false HEJ.out).mono ?_; rintro e w ⟨rfl, rfl⟩; rw [hd0]) | (go_at_call 35; refine (left_any _ b g [] false HEJ.out).mono ?_; rintro e w ⟨rfl, rfl⟩; rw [hl0]) | (go_at_call 36; refine (num_any _ _).mono ?_; rintro e w' ⟨rfl, rfl⟩) | (go_at_call 13; refine (live_any _).mono ?_; rintro e w9 ⟨rfl, hb1⟩; have HB9 := Lib.hid hb1; clear hb1))
            go_ret
            exact ⟨rfl, bThen' HB.out HB9.out⟩
          · have hp : p < LL.length := by omega
            have hform : ∃ oo, aa = some ⟨ga.getD 0, oo, none⟩ ∧ LL.length ≤ ca ∧ ca ≤ 9223372036854775807 ∧ Bs wr (ga.getD 0) (.slice aa p ca) (LL.take p) := by
              rcases HBSJ.out with ⟨h1, h2⟩ | ⟨o, cap, h0, h1, h2, h3⟩
              · subst h2; simp at hp
              · simp only [Value.slice.injEq, true_and] at h0
                obtain ⟨rfl, rfl⟩ := h0
                exact ⟨o, rfl, h1, h2, bs_take h1 h2 h3 (Nat.le_of_lt hp)⟩
            obtain ⟨oo, rfl, hcap1, hcap2, hbt⟩ := hform
            have HBT := Lib.hid hbt
            clear hbt
            go_wp2_with (first | (go_at_call 37; refine (done_any _ b g [] false HEJ.out).mono ?_; rintro e w ⟨rfl, rfl⟩; rw [hd0]) | (go_at_call 35; refine (left_any _ b g [] false HEJ.out).mono ?_; rintro e w ⟨rfl, rfl⟩; rw [hl0]) | (go_at_call 36; refine (num_any _ _).mono ?_; rintro e w' ⟨rfl, rfl⟩))
            refine (open_any wr (ga.getD 0) _ (LL.take p) HBT.out (by rw [List.length_take]; omega)).mono ?_
            rintro e w5 ⟨b2, g2, rfl, he5, hbb5, _, hbel5⟩
            have HE5 := Lib.hid he5
            have HB5 : Hid (Below w.heap.size w w5) := HB.out.trans (hbel5.mono HB.out.size)
            have HBb2 : Hid (w.heap.size ≤ b2) := Nat.le_trans HB.out.size hbb5
            have HCUT : Hid (Cut (LL.take p) false LL) := .inr ⟨LL.drop p, (fun h => by have := List.drop_eq_nil_iff.1 h; omega), List.take_append_drop _ _⟩
            clear he5 hbb5 hbel5
            go_wp2_with fail
            go_loopw [12] (fun i wr => ∃ j : Nat, j ≤ l.length ∧ i = .int .i64 j ∧ ∃ r bl, EyeAt wr b2 g2 r bl ∧ r.length ≤ 30000 ∧ Cut r bl ((l.drop j).flatMap layB) ∧ Keeps (Only b2) w5 wr) (fun i _ => l.length - (intOf i).toNat)
            case atStart => exact ⟨0, Nat.zero_le _, rfl, LL.take p, false, HE5.out, by rw [List.length_take]; omega, by rw [List.drop_zero, HLE.out]; exact HCUT.out, Keeps.refl _ _⟩
            case round =>
              clear HB HEJ HKJ HBSJ HBT
              obtain ⟨j, hj, rfl, r, bl, hej, hrl, hct, hkj⟩ := hrel
              have HB : Hid (Below w.heap.size w wr) := HB5.out.trans (onlyB hkj HB5.out.size HBb2.out)
              have HEJ := Lib.hid hej
              have HKJ := Lib.hid hkj
              clear hej hkj
              by_cases hlt : j < l.length
              · obtain ⟨x, hx⟩ := get_lt hlt
                obtain ⟨hg, o, rfl, hall⟩ := HL.out (not_nil hlt)
                obtain ⟨hat, hok, hsl, hsg⟩ := hall j x hx
                have q0 := (hat.later HB.out hg).k
                have hwx := wsum_mem l hx
                unfold wt at hwx
                have hs1 : x.s.size ≤ 20000 := by omega
                have hl1 : x.l.length ≤ 1250 := by omega
                rw [drop_flat layB l hx] at hct
                have HCT := Lib.hid hct
                clear hall hat hok hx hsl hsg hwx hct
                obtain ⟨k, n, s, t, ⟨t1, t2⟩, xl, xa, xc, xg⟩ := x
                simp only at q0 hs1 hl1
                by_cases k0 : k = 0
                · subst k0
                  have HTL : Hid (layB ⟨0, n, s, t, (t1, t2), xl, xa, xc, xg⟩ = i8 n) := by show _ = _; simp [layB]
                  rw [HTL.out] at HCT
                  go_wp2_with (go_at_call 24; refine (cutI _ b2 g2 r bl n _ _ HEJ.out hrl HCT.out).mono ?_; rintro e w6 ⟨v6, rfl, r6, bl6, he6, hr6, hc6, hk6⟩; have HE6 := Lib.hid he6; have HC6 := Lib.hid hc6; have HK6 := Lib.hid (HKJ.out.then hk6); clear he6 hc6 hk6)
                  go_roundw
                  case rel => exact ⟨j + 1, hlt, by go_num, r6, bl6, HE6.out, hr6, HC6.out, HK6.out⟩
                  case measure => simp [intOf]; omega
                · skip
                  by_cases k1 : k = 1
                  · subst k1
                    have HTL : Hid (layB ⟨1, n, s, t, (t1, t2), xl, xa, xc, xg⟩ = tx s) := by show _ = _; simp [layB]
                    rw [HTL.out] at HCT
                    go_wp2_with (go_at_call 26; refine (cutT _ b2 g2 r bl s (by omega) _ _ HEJ.out hrl HCT.out).mono ?_; rintro e w6 ⟨v6, rfl, r6, bl6, he6, hr6, hc6, hk6⟩; have HE6 := Lib.hid he6; have HC6 := Lib.hid hc6; have HK6 := Lib.hid (HKJ.out.then hk6); clear he6 hc6 hk6)
                    go_roundw
                    case rel => exact ⟨j + 1, hlt, by go_num, r6, bl6, HE6.out, hr6, HC6.out, HK6.out⟩
                    case measure => simp [intOf]; omega
                  · skip
                    by_cases k2 : k = 2
                    · subst k2
                      have HTL : Hid (layB ⟨2, n, s, t, (t1, t2), xl, xa, xc, xg⟩ = tb t) := by show _ = _; simp [layB]
                      rw [HTL.out] at HCT
                      go_wp2_with (go_at_call 28; refine (cutB _ b2 g2 r bl t _ _ HEJ.out hrl HCT.out).mono ?_; rintro e w6 ⟨v6, rfl, r6, bl6, he6, hr6, hc6, hk6⟩; have HE6 := Lib.hid he6; have HC6 := Lib.hid hc6; have HK6 := Lib.hid (HKJ.out.then hk6); clear he6 hc6 hk6)
                      go_roundw
                      case rel => exact ⟨j + 1, hlt, by go_num, r6, bl6, HE6.out, hr6, HC6.out, HK6.out⟩
                      case measure => simp [intOf]; omega
                    · skip
                      by_cases k3 : k = 3
                      · subst k3
                        have HTL : Hid (layB ⟨3, n, s, t, (t1, t2), xl, xa, xc, xg⟩ = st (t1, t2)) := by show _ = _; simp [layB]
                        rw [HTL.out] at HCT
                        go_wp2_with (go_at_call 30; refine (cutS _ b2 g2 r bl (t1, t2) _ _ HEJ.out hrl HCT.out).mono ?_; rintro e w6 ⟨v6, rfl, r6, bl6, he6, hr6, hc6, hk6⟩; have HE6 := Lib.hid he6; have HC6 := Lib.hid hc6; have HK6 := Lib.hid (HKJ.out.then hk6); clear he6 hc6 hk6)
                        go_roundw
                        case rel => exact ⟨j + 1, hlt, by go_num, r6, bl6, HE6.out, hr6, HC6.out, HK6.out⟩
                        case measure => simp [intOf]; omega
                      · skip
                        by_cases k4 : k = 4
                        · subst k4
                          have HTL : Hid (layB ⟨4, n, s, t, (t1, t2), xl, xa, xc, xg⟩ = sts xl) := by show _ = _; simp [layB]
                          rw [HTL.out] at HCT
                          go_wp2_with (go_at_call 33; refine (cutL _ b2 g2 r bl xl hl1 _ _ HEJ.out hrl (by omega) HCT.out).mono ?_; rintro e w6 ⟨v6, rfl, r6, bl6, he6, hr6, hc6, hk6⟩; have HE6 := Lib.hid he6; have HC6 := Lib.hid hc6; have HK6 := Lib.hid (HKJ.out.then hk6); clear he6 hc6 hk6)
                          go_roundw
                          case rel => exact ⟨j + 1, hlt, by go_num, r6, bl6, HE6.out, hr6, HC6.out, HK6.out⟩
                          case measure => simp [intOf]; omega
                        · skip
                          have HTL : Hid (layB ⟨k, n, s, t, (t1, t2), xl, xa, xc, xg⟩ = []) := by show _ = _; simp [layB, k0, k1, k2, k3, k4]
                          rw [HTL.out, List.nil_append] at HCT
                          have y0 : (k == 0) = false := by simpa using k0
                          have y1 : (k == 1) = false := by simpa using k1
                          have y2 : (k == 2) = false := by simpa using k2
                          have y3 : (k == 3) = false := by simpa using k3
                          have y4 : (k == 4) = false := by simpa using k4
                          go_wp2_with fail
                          go_roundw
                          case rel => exact ⟨j + 1, hlt, by go_num, r, bl, HEJ.out, hrl, HCT.out, HKJ.out⟩
                          case measure => simp [intOf]; omega
              · obtain rfl : j = l.length := by omega
                rw [List.drop_length, List.flatMap_nil] at hct
                obtain rfl := cut_end hct
                have HDN : Hid (doneN r true = 20) := rfl
                go_wp2_with (first | (go_at_call 37; refine (done_any _ b2 g2 r true HEJ.out).mono ?_; rintro e w ⟨rfl, rfl⟩; rw [HDN.out]) | (go_at_call 36; refine (num_any _ _).mono ?_; rintro e w' ⟨rfl, rfl⟩) | (go_at_call 13; refine (live_any _).mono ?_; rintro e w9 ⟨rfl, hb1⟩; have HB9 := Lib.hid hb1; clear hb1))
                go_ret
                exact ⟨rfl, bThen' HB.out HB9.out⟩

end Go.Proofs.Ytjojjpfjennnoaa
