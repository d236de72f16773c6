/- DepsChecks: whatever the dependencies and the bytes, the law returns true: whether they may be, their bytes, and every bytes as dependencies, are what the document says. Conditions: none. -/
import Derived.Deep.RegionHeld3
import Derived.Test.YtjlkgbejldcklaaGreatMg51
import Derived.Test.YtjlkgbejldcklaaGreatMg52
import Derived.Test.YtjlkgbejldcklaaGreatMg42
/- DepsChecks: whatever the dependencies and the bytes, the law returns true: whether they may be, their bytes, and every bytes as dependencies, are what the document says. Conditions: none. -/
set_option linter.unusedVariables false
set_option linter.unusedSimpArgs false
namespace Go.Proofs.YtjlkgbejldcklaaGreat
open S1 SP
namespace SD
open Go.ChangeShapes Go.WideShapes Go.ChangeAt Go.RowKit Go.Joins Go.Deep

theorem few_chk {l : List Dp} (h : checkD (toD l) = 0) : FewD l ∧ idsN (toD l) ≤ 1000000 ∧ l.length ≤ 1000 := by
  have hw := check_wf h
  obtain ⟨h1, h2, h3⟩ := checkD_ok.1 h
  have hl : (toD l).length = l.length := by simp [toD]
  have hlen : l.length ≤ 8 := by omega
  have hs : ∀ s ∈ l, s.ids.length ≤ 1250 := by
    intro s hs
    exact (hw (s.sh, s.ids) (List.mem_map.2 ⟨s, hs, rfl⟩)).2.2
  refine ⟨⟨by omega, fun s h => Nat.le_trans (hs s h) (by decide)⟩, ?_, by omega⟩
  refine Nat.le_trans (idsN_le8 (m := 1250) fun x hx => (hw x hx).2.2) ?_
  rw [hl]
  omega

theorem few_parse {l : List Dp} {B : List UInt8} (h : toD l = (parseD B).getD []) : FewD l ∧ idsN (toD l) ≤ 1000000 ∧ l.length ≤ 1000 := by
  cases hp : parseD B with
  | none =>
    rw [hp] at h
    have hl : l = [] := by simpa [toD] using h
    subst hl
    exact ⟨⟨by simp, fun s hs => (by cases hs)⟩, by simp [toD, idsN], by simp⟩
  | some d =>
    rw [hp] at h
    have h2 : toD l = d := h
    exact few_chk (by rw [h2]; exact (parse_some hp).2)
theorem below_app8 {w x y : World} {g : Option Nat} (h : Below w.heap.size w x) (k : x.grownBy y g) (hg : ∀ b, g = some b → w.heap.size ≤ b) : Below w.heap.size w y := h.grown k h.size hg
theorem lay_len8 {d : Dd} (h : checkD d = 0) : (layD d).length ≤ 100000 := by
  obtain ⟨h1, h2, _⟩ := checkD_ok.1 h
  unfold layD
  rw [List.length_append, S2.i8_length, layF_len]
  omega

set_option maxRecDepth 100000 in
set_option maxHeartbeats 16000000 in
theorem checks_walk (a : Option Addr) (c : Nat) (l : List Dp) (g0 : Nat) (ab : Option Addr) (nb cb : Nat) (B : List UInt8) (w : World)
    (hm : l.length ≤ 9223372036854775807) (hr : ∀ s ∈ l, s.ids.length ≤ 140737488355328) (hl : Dl w a l) (hb : S2.Bw w g0 (.slice ab nb cb) B) :
    Calls Tryz.prog 3 #[.slice a l.length c, .slice ab nb cb] w fun e w' => e = .returned (.bool true) ∧ Below w.heap.size w w' := by
  have hn : nb = B.length := by obtain ⟨_, _, hv, _⟩ := hb; cases hv; rfl
  subst hn
  have hbm : B.length ≤ 9223372036854775807 := by obtain ⟨_, _, _, _, h, _⟩ := hb; exact h
  have HL := Lib.hid hl
  have HR := Lib.hid hr
  have HBW := Lib.hid hb
  clear hl hr hb
  go_enter Tryz.func3, Tryz.ntmps3
  go_wp2
  go_loopw [5, 6] (fun v i wr => ∃ k : Nat, k ≤ l.length ∧ k ≤ 21 ∧ v = .int .i64 (idsN ((toD l).take k) : Nat) ∧ i = .int .i64 k ∧ w = wr) (fun _ i _ => l.length - (intOf i).toNat)
  case atStart => exact ⟨0, Nat.zero_le _, by omega, rfl, rfl, rfl⟩
  case round =>
    obtain ⟨k, hk, hk21, rfl, rfl, rfl⟩ := hrel
    have hbig := idsN_take_big HR.out k
    by_cases hlt : k < l.length
    · have hk1 : (k : Int) < (l.length : Int) := by omega
      have hk0 : (0 : Int) ≤ (k : Int) := by omega
      have hdk : decide ((k : Int) < (l.length : Int)) = true := decide_eq_true hk1
      by_cases h20 : k ≤ 20
      · obtain ⟨s, hs⟩ := at_ltD hlt
        obtain ⟨b, o, rfl, hbg, hx, hy, hi⟩ := HL.out.at hs
        have hd20 : decide ((k : Int) ≤ 20) = true := decide_eq_true (by omega)
        have HFT := Lib.hid (idsN_take (toD_at hs))
        have hsl : s.ids.length ≤ 140737488355328 := HR.out s (List.mem_of_getElem? hs)
        unfold ilD at hy
        clear hs hi
        generalize hG : idsN ((toD l).take k) = G at *
        clear hG
        go_wp2
        go_roundw
        case rel => exact ⟨k + 1, hlt, by omega, by rw [HFT.out]; go_num, by go_num, by first | rfl | trivial⟩
        case measure => simp [intOf]; omega
      · have hd20 : decide ((k : Int) ≤ 20) = false := decide_eq_false (by omega)
        have hdl : decide ((20 : Int) < (l.length : Int)) = true := decide_eq_true (by omega)
        go_wp2_with (go_at_call 14; refine (dlive_any _).mono ?_; rintro e w9 ⟨rfl, h5⟩; have HB9 := Lib.hid h5; clear h5)
        go_ret
        exact ⟨rfl, HB9.out⟩
    · have hge : ¬ (k : Int) < (l.length : Int) := by omega
      have hdk : decide ((k : Int) < (l.length : Int)) = false := decide_eq_false hge
      have HTK : Hid (idsN ((toD l).take k) = idsN (toD l)) := by
        show _ = _
        rw [List.take_of_length_le (by rw [toD_length]; omega)]
      rw [HTK.out]
      rw [HTK.out] at hbig
      clear HTK
      by_cases h20 : 20 < l.length
      · have hdl : decide ((20 : Int) < (l.length : Int)) = true := decide_eq_true (by omega)
        go_wp2_with (go_at_call 14; refine (dlive_any _).mono ?_; rintro e w9 ⟨rfl, h5⟩; have HB9 := Lib.hid h5; clear h5)
        go_ret
        exact ⟨rfl, HB9.out⟩
      · have hdl : decide ((20 : Int) < (l.length : Int)) = false := decide_eq_false (by omega)
        by_cases hg : 1024 < idsN (toD l)
        · have hdg : decide ((1024 : Int) < ((idsN (toD l) : Nat) : Int)) = true := decide_eq_true (by omega)
          go_wp2_with (go_at_call 14; refine (dlive_any _).mono ?_; rintro e w9 ⟨rfl, h5⟩; have HB9 := Lib.hid h5; clear h5)
          go_ret
          exact ⟨rfl, HB9.out⟩
        · have hdg : decide ((1024 : Int) < ((idsN (toD l) : Nat) : Int)) = false := decide_eq_false (by omega)
          by_cases hb2 : 20000 < B.length
          · have hdb : decide ((20000 : Int) < (B.length : Int)) = true := decide_eq_true (by omega)
            go_wp2_with (go_at_call 14; refine (dlive_any _).mono ?_; rintro e w9 ⟨rfl, h5⟩; have HB9 := Lib.hid h5; clear h5)
            go_ret
            exact ⟨rfl, HB9.out⟩
          · have hdb : decide ((20000 : Int) < (B.length : Int)) = false := decide_eq_false (by omega)
            have HLN : Hid (FewD l ∧ idsN (toD l) ≤ 1000000) := by
              refine ⟨⟨by omega, fun s hs => ?_⟩, by omega⟩
              have := idsN_mem (d := toD l) (x := s.d) (List.mem_map.2 ⟨s, hs, rfl⟩)
              have e : s.d.2.length = s.ids.length := rfl
              omega
            have HL1 : Hid (([] : List UInt8).length + B.length ≤ 1099511627776) := by show _ ≤ _; simp; omega
            have HBL : Hid (B.length ≤ 20000) := by show _ ≤ _; omega
            clear hbig
            go_wp2_with (at_builtin; go_must (refine S2.wpList_app rfl (.tmp 46) (.tmp 47) 23 rfl rfl rfl (S2.row_empty _) (bw_keep HBW.out (blAlloc (Below.refl _ _) _)).src HL1.out ?_; intro v3 w1 g3 h1 h2 h3; obtain ⟨p3, n3, q3, rfl⟩ := h1.form; have HR3 := Lib.hid h1.bs.bw; have HB_w1 : Hid (Below w.heap.size w w1) := below_app8 (blAlloc (Below.refl _ _) _) h2 (fun k e => by cases e; exact Nat.le_refl _); clear h1 h2 h3))
            rw [List.nil_append] at HR3
            have HL := Lib.hid (HL.out.later HB_w1.out)
            have HBW := Lib.hid (bw_keep HBW.out HB_w1.out)
            obtain ⟨pe, HPE⟩ : ∃ pe : Int, Hid ((if (parseD B).isSome = true then (0 : Int) else 60) = pe) := ⟨_, rfl⟩
            go_wp2_with fail
            refine (parse_any _ _ _ _ B _ HR3.out (Nat.le_trans HBL.out (by decide))).mono ?_
            rintro e w2 ⟨ax, cx, lx, rfl, h1, h2, h3, h4, h5⟩
            rw [HPE.out]
            have HX : Hid (Below w1.heap.size w1 w2) := blThen (by repeat (first | with_reducible exact Below.refl _ _ | with_reducible refine blAlloc ?_ _ | with_reducible refine Below.drew ?_)) h5
            have HB_w2 := Lib.hid (blThen HB_w1.out HX.out)
            have HL := Lib.hid (HL.out.later HX.out)
            have HBW := Lib.hid (bw_keep HBW.out HX.out)
            have HDX := Lib.hid h2
            have HTX := Lib.hid h1
            clear h5 HX h1 h2 h3 h4
            go_wp2_with fail
            refine (rparse_any g0 _ _ _ B _ HBW.out HBL.out).mono ?_
            rintro e w3 ⟨ay, cy, ly, rfl, h1, h2, h3, h4, h5⟩
            rw [HPE.out]
            have HX : Hid (Below w2.heap.size w2 w3) := blThen (by repeat (first | with_reducible exact Below.refl _ _ | with_reducible refine blAlloc ?_ _ | with_reducible refine Below.drew ?_)) h5
            have HB_w3 := Lib.hid (blThen HB_w2.out HX.out)
            have HL := Lib.hid (HL.out.later HX.out)
            have HDX := Lib.hid (HDX.out.later HX.out)
            have HDY := Lib.hid h2
            have HFX := Lib.hid (few_parse HTX.out)
            have HQ : Hid (decide (toD lx = toD ly) = true) := decide_eq_true (by rw [HTX.out, h1])
            clear HBW
            clear h5 HX h1 h2 h3 h4
            go_wp2_with fail
            refine (pcheck_any a c l _ HLN.out.1 HLN.out.2 (HL.out.later (by repeat (first | with_reducible exact Below.refl _ _ | with_reducible refine blAlloc ?_ _ | with_reducible refine Below.drew ?_)))).mono ?_
            rintro e w4 ⟨rfl, h5⟩
            have HX : Hid (Below w3.heap.size w3 w4) := blThen (by repeat (first | with_reducible exact Below.refl _ _ | with_reducible refine blAlloc ?_ _ | with_reducible refine Below.drew ?_)) h5
            have HB_w4 := Lib.hid (blThen HB_w3.out HX.out)
            have HL := Lib.hid (HL.out.later HX.out)
            have HDX := Lib.hid (HDX.out.later HX.out)
            have HDY := Lib.hid (HDY.out.later HX.out)
            clear h5 HX
            go_wp2_with fail
            refine (num6_any _ _).mono ?_
            rintro e wq ⟨rfl, rfl⟩
            go_wp2_with fail
            refine (refcheck_any a c l _ HLN.out.1 HLN.out.2 (HL.out.later (by repeat (first | with_reducible exact Below.refl _ _ | with_reducible refine blAlloc ?_ _ | with_reducible refine Below.drew ?_)))).mono ?_
            rintro e w5 ⟨rfl, h5⟩
            have HX : Hid (Below w4.heap.size w4 w5) := blThen (by repeat (first | with_reducible exact Below.refl _ _ | with_reducible refine blAlloc ?_ _ | with_reducible refine Below.drew ?_)) h5
            have HB_w5 := Lib.hid (blThen HB_w4.out HX.out)
            have HL := Lib.hid (HL.out.later HX.out)
            have HDX := Lib.hid (HDX.out.later HX.out)
            have HDY := Lib.hid (HDY.out.later HX.out)
            clear h5 HX
            go_wp2_with fail
            refine (refsame6_any _ _ _ _ lx ly _ HFX.out.1 (HDX.out.later (by repeat (first | with_reducible exact Below.refl _ _ | with_reducible refine blAlloc ?_ _ | with_reducible refine Below.drew ?_))) (HDY.out.later (by repeat (first | with_reducible exact Below.refl _ _ | with_reducible refine blAlloc ?_ _ | with_reducible refine Below.drew ?_)))).mono ?_
            rintro e w6 ⟨rfl, h5⟩
            rw [HQ.out]
            have HX : Hid (Below w5.heap.size w5 w6) := blThen (by repeat (first | with_reducible exact Below.refl _ _ | with_reducible refine blAlloc ?_ _ | with_reducible refine Below.drew ?_)) h5
            have HB_w6 := Lib.hid (blThen HB_w5.out HX.out)
            have HL := Lib.hid (HL.out.later HX.out)
            have HDX := Lib.hid (HDX.out.later HX.out)
            have HDY := Lib.hid (HDY.out.later HX.out)
            clear h5 HX
            go_wp2_with fail
            refine (num6_any _ _).mono ?_
            rintro e wq ⟨rfl, rfl⟩
            go_wp2_with fail
            refine (refcheck_any a c l _ HLN.out.1 HLN.out.2 (HL.out.later (by repeat (first | with_reducible exact Below.refl _ _ | with_reducible refine blAlloc ?_ _ | with_reducible refine Below.drew ?_)))).mono ?_
            rintro e w7 ⟨rfl, h5⟩
            have HX : Hid (Below w6.heap.size w6 w7) := blThen (by repeat (first | with_reducible exact Below.refl _ _ | with_reducible refine blAlloc ?_ _ | with_reducible refine Below.drew ?_)) h5
            have HB_w7 := Lib.hid (blThen HB_w6.out HX.out)
            have HL := Lib.hid (HL.out.later HX.out)
            clear h5 HX
            by_cases hck : checkD (toD l) = 0
            · rw [hck]
              have HCK := Lib.hid hck
              clear hck
              go_wp2_with fail
              refine (put_any _ _ l _ HLN.out.1 HLN.out.2 (HL.out.later (by repeat (first | with_reducible exact Below.refl _ _ | with_reducible refine blAlloc ?_ _ | with_reducible refine Below.drew ?_)))).mono ?_
              rintro e w50 ⟨vp, gp, rfl, h1, h2, h3⟩
              obtain ⟨pp, np, qp, rfl⟩ := h1.form
              have HX : Hid (Below w7.heap.size w7 w50) := blThen (by repeat (first | with_reducible exact Below.refl _ _ | with_reducible refine blAlloc ?_ _ | with_reducible refine Below.drew ?_)) h3
              have HB_w50 := Lib.hid (blThen HB_w7.out HX.out)
              have HL := Lib.hid (HL.out.later HX.out)
              have HPB := Lib.hid h1.bs.bw
              have HLEN := Lib.hid (lay_len8 HCK.out)
              have HPP : Hid (parseD (layD (toD l)) = some (toD l)) := by have h := parse_front HCK.out []; rw [List.append_nil, if_pos rfl] at h; exact h
              clear h1 h2 h3 HX
              go_wp2_with fail
              refine (parse_any _ _ _ _ (layD (toD l)) _ HPB.out HLEN.out).mono ?_
              rintro e w51 ⟨az, cz, lz, rfl, h1, h2, h3, h4, h5⟩
              rw [HPP.out] at h1 ⊢
              have HX : Hid (Below w50.heap.size w50 w51) := blThen (by repeat (first | with_reducible exact Below.refl _ _ | with_reducible refine blAlloc ?_ _ | with_reducible refine Below.drew ?_)) h5
              have HB_w51 := Lib.hid (blThen HB_w50.out HX.out)
              have HL := Lib.hid (HL.out.later HX.out)
              have HPB := Lib.hid (bw_keep HPB.out HX.out)
              have HDZ := Lib.hid h2
              have HTZ : Hid (toD lz = toD l) := h1
              have HFZ := Lib.hid (few_chk (l := lz) (by rw [HTZ.out]; exact HCK.out))
              have HQZ : Hid (decide (toD lz = toD l) = true) := decide_eq_true HTZ.out
              clear h5 HX h1 h2 h3 h4
              have HK := Lib.hid (fun (Y : World) (h : Below w51.heap.size w51 Y) => bw_str (bw_keep HPB.out h))
              simp only [Option.isSome_some, if_true]
              go_wp2_with fail
              refine wp_region_held_drew (S := (fun Y => (convert 23 9 (.slice pp np qp)).run Tryz.prog Y = .ok (.string ⟨(layD (toD l)).toArray⟩) Y)) (by kernel_rfl) (HK.out _ (Below.refl w51.heap.size w51).drew) (fun hHeld => ?_)
              refine wpAnyH_take (i := 0) (oi := { dst := some 86, op := Op.move (Operand.tmp 11), type := 23, pos := "law.go:55", after := #[], guard := none }) (v := ?_) rfl (by kernel_rfl) (by kernel_rfl) (by kernel_rfl) (fun _ _ _ h => h) (Or.inl ⟨by rfl, ?_⟩) (by assumption) ?_
              rotate_left
              · intro w hSw
                try dsimp only at hSw
                go_simp
                try with_reducible rfl
              try simp only [Act.put, List.setIfInBounds_toArray, List.set_cons_zero, List.set_cons_succ]
              refine wpAnyH_take (i := 1) (oi := { dst := some 87, op := Op.convert 23 9 (Operand.tmp 86), type := 9, pos := "law.go:55", after := #[{ on := 0, ground := Ground.data }], guard := none }) (v := ?_) rfl (by kernel_rfl) (by kernel_rfl) (by kernel_rfl) (fun _ _ _ h => h) (Or.inl ⟨by rfl, ?_⟩) (by assumption) ?_
              rotate_left
              · intro w hSw
                try dsimp only at hSw
                go_simp
                try with_reducible rfl
              try simp only [Act.put, List.setIfInBounds_toArray, List.set_cons_zero, List.set_cons_succ]
              refine wpAnyH_take (i := 2) (oi := { dst := some 88, op := Op.move (Operand.tmp 0), type := 22, pos := "law.go:55", after := #[], guard := none }) (v := ?_) rfl (by kernel_rfl) (by kernel_rfl) (by kernel_rfl) (fun _ _ _ h => h) (Or.inl ⟨by rfl, ?_⟩) (by assumption) ?_
              rotate_left
              · intro w hSw
                try dsimp only at hSw
                go_simp
                try with_reducible rfl
              try simp only [Act.put, List.setIfInBounds_toArray, List.set_cons_zero, List.set_cons_succ]
              refine wpAnyH_ready (rs := [3]) (by kernel_rfl) (by simp) ?_
              refine AllReadyH.cons (o := { dst := some 89, op := Op.call { callee := Callee.value (Operand.func 22), args := #[Operand.const (Value.slice none 0 0), Operand.tmp 88], argTypes := #[23, 22] }, type := 23, pos := "law.go:55", after := #[{ on := 2, ground := Ground.data }], guard := none }) rfl (fun K hK => ?_) ?_
              rotate_left
              · exact AllReadyH.nil
              go_simp
              go_at_call 22
              refine (reflay_any w51 _ none (.slice none 0 0) [] _ _ l HLN.out.1 HLN.out.2 (S2.Row.nil _) HL.out (by repeat (first | with_reducible exact Below.refl _ _ | with_reducible refine blAlloc ?_ _ | with_reducible refine Below.drew ?_)) (fun k h => by cases h) (by simp)).mono ?_
              rintro e x1 ⟨v5, g5, rfl, h1, h2⟩
              rw [List.nil_append] at h1
              obtain ⟨p5, n5, q5, rfl⟩ := h1.form
              have hs5 := bw_str h1.bs.bw
              have HBx1 : Hid (Below w51.heap.size w51 x1) := blThen (by repeat (first | with_reducible exact Below.refl _ _ | with_reducible refine blAlloc ?_ _ | with_reducible refine Below.drew ?_)) (S2.RowStep.below h2 (Nat.le_refl _) (fun k e => by cases e))
              clear h1 h2
              refine hK.out _ _ (HK.out _ HBx1.out) (fun hHeld => ?_)
              clear hK K
              try simp only [Act.put, List.setIfInBounds_toArray, List.set_cons_zero, List.set_cons_succ]
              refine wpAnyH_ready (rs := [4]) (by kernel_rfl) (by simp) ?_
              refine AllReadyH.cons (o := { dst := some 90, op := Op.convert 23 9 (Operand.tmp 89), type := 9, pos := "law.go:55", after := #[{ on := 3, ground := Ground.data }], guard := none }) rfl (fun K hK => ?_) ?_
              rotate_left
              · exact AllReadyH.nil
              go_simp
              refine hK.out _ _ (HK.out _ HBx1.out) (fun hHeld => ?_)
              clear hK K
              try simp only [Act.put, List.setIfInBounds_toArray, List.set_cons_zero, List.set_cons_succ]
              refine wpAnyH_take (i := 5) (oi := { dst := some 91, op := Op.binOp BinOp.eql 9 (Operand.tmp 87) (Operand.tmp 90) 9, type := 4, pos := "law.go:55", after := #[{ on := 1, ground := Ground.data }, { on := 4, ground := Ground.data }], guard := none }) (v := ?_) rfl (by kernel_rfl) (by kernel_rfl) (by kernel_rfl) (fun _ _ _ h => h) (Or.inl ⟨by rfl, ?_⟩) (by assumption) ?_
              rotate_left
              · intro w hSw
                try dsimp only at hSw
                go_simp
                try with_reducible rfl
              try simp only [Act.put, List.setIfInBounds_toArray, List.set_cons_zero, List.set_cons_succ]
              refine wpAnyH_take (i := 6) (oi := { dst := some 92, op := Op.move (Operand.tmp 91), type := 4, pos := "law.go:55", after := #[{ on := 5, ground := Ground.data }, { on := 3, ground := Ground.chain }], guard := none }) (v := ?_) rfl (by kernel_rfl) (by kernel_rfl) (by kernel_rfl) (fun _ _ _ h => h) (Or.inl ⟨by rfl, ?_⟩) (by assumption) ?_
              rotate_left
              · intro w hSw
                try dsimp only at hSw
                go_simp
                try with_reducible rfl
              try simp only [Act.put, List.setIfInBounds_toArray, List.set_cons_zero, List.set_cons_succ]
              refine wpAnyH_take (i := 7) (oi := { dst := some 93, op := Op.move (Operand.tmp 13), type := 28, pos := "law.go:55", after := #[{ on := 6, ground := Ground.guard }], guard := some (6, true) }) (v := ?_) rfl (by kernel_rfl) (by kernel_rfl) (by kernel_rfl) (fun _ _ _ h => h) (Or.inl ⟨by rfl, ?_⟩) (by assumption) ?_
              rotate_left
              · intro w hSw
                try dsimp only at hSw
                go_simp
                try with_reducible rfl
              try simp only [Act.put, List.setIfInBounds_toArray, List.set_cons_zero, List.set_cons_succ]
              refine wpAnyH_ready (rs := [8]) (by kernel_rfl) (by simp) ?_
              refine AllReadyH.cons (o := { dst := some 94, op := Op.call { callee := Callee.value (Operand.func 17), args := #[Operand.tmp 93], argTypes := #[28] }, type := 3, pos := "law.go:55", after := #[{ on := 7, ground := Ground.data }, { on := 6, ground := Ground.chain }, { on := 6, ground := Ground.guard }], guard := some (6, true) }) rfl (fun K hK => ?_) ?_
              rotate_left
              · exact AllReadyH.nil
              go_simp
              go_at_call 17
              refine (num6_any _ _).mono ?_
              rintro e x2 ⟨rfl, rfl⟩
              refine hK.out _ _ (HK.out _ HBx1.out) (fun hHeld => ?_)
              clear hK K
              try simp only [Act.put, List.setIfInBounds_toArray, List.set_cons_zero, List.set_cons_succ]
              refine wpAnyH_take (i := 9) (oi := { dst := some 95, op := Op.binOp BinOp.eql 3 (Operand.tmp 94) (Operand.const (Value.int IntKind.i64 0)) 3, type := 4, pos := "law.go:55", after := #[{ on := 8, ground := Ground.data }, { on := 6, ground := Ground.guard }], guard := some (6, true) }) (v := ?_) rfl (by kernel_rfl) (by kernel_rfl) (by kernel_rfl) (fun _ _ _ h => h) (Or.inl ⟨by rfl, ?_⟩) (by assumption) ?_
              rotate_left
              · intro w hSw
                try dsimp only at hSw
                go_simp
                try with_reducible rfl
              try simp only [Act.put, List.setIfInBounds_toArray, List.set_cons_zero, List.set_cons_succ]
              refine wpAnyH_take (i := 10) (oi := { dst := some 96, op := Op.pick (Operand.tmp 92) (Operand.tmp 95) (Operand.const (Value.bool false)), type := 4, pos := "law.go:55", after := #[{ on := 6, ground := Ground.data }, { on := 9, ground := Ground.data }], guard := none }) (v := ?_) rfl (by kernel_rfl) (by kernel_rfl) (by kernel_rfl) (fun _ _ _ h => h) (Or.inl ⟨by rfl, ?_⟩) (by assumption) ?_
              rotate_left
              · intro w hSw
                try dsimp only at hSw
                go_simp
                try with_reducible rfl
              try simp only [Act.put, List.setIfInBounds_toArray, List.set_cons_zero, List.set_cons_succ]
              refine wpAnyH_take (i := 11) (oi := { dst := some 97, op := Op.move (Operand.tmp 96), type := 4, pos := "law.go:55", after := #[{ on := 10, ground := Ground.data }, { on := 8, ground := Ground.chain }], guard := none }) (v := ?_) rfl (by kernel_rfl) (by kernel_rfl) (by kernel_rfl) (fun _ _ _ h => h) (Or.inl ⟨by rfl, ?_⟩) (by assumption) ?_
              rotate_left
              · intro w hSw
                try dsimp only at hSw
                go_simp
                try with_reducible rfl
              try simp only [Act.put, List.setIfInBounds_toArray, List.set_cons_zero, List.set_cons_succ]
              refine wpAnyH_take (i := 12) (oi := { dst := some 98, op := Op.move (Operand.tmp 12), type := 22, pos := "law.go:55", after := #[{ on := 11, ground := Ground.guard }], guard := some (11, true) }) (v := ?_) rfl (by kernel_rfl) (by kernel_rfl) (by kernel_rfl) (fun _ _ _ h => h) (Or.inl ⟨by rfl, ?_⟩) (by assumption) ?_
              rotate_left
              · intro w hSw
                try dsimp only at hSw
                go_simp
                try with_reducible rfl
              try simp only [Act.put, List.setIfInBounds_toArray, List.set_cons_zero, List.set_cons_succ]
              refine wpAnyH_take (i := 13) (oi := { dst := some 99, op := Op.move (Operand.tmp 0), type := 22, pos := "law.go:55", after := #[{ on := 11, ground := Ground.guard }], guard := some (11, true) }) (v := ?_) rfl (by kernel_rfl) (by kernel_rfl) (by kernel_rfl) (fun _ _ _ h => h) (Or.inl ⟨by rfl, ?_⟩) (by assumption) ?_
              rotate_left
              · intro w hSw
                try dsimp only at hSw
                go_simp
                try with_reducible rfl
              try simp only [Act.put, List.setIfInBounds_toArray, List.set_cons_zero, List.set_cons_succ]
              refine wpAnyH_ready (rs := [14]) (by kernel_rfl) (by simp) ?_
              refine AllReadyH.cons (o := { dst := some 100, op := Op.call { callee := Callee.value (Operand.func 20), args := #[Operand.tmp 98, Operand.tmp 99], argTypes := #[22, 22] }, type := 4, pos := "law.go:55", after := #[{ on := 12, ground := Ground.data }, { on := 13, ground := Ground.data }, { on := 11, ground := Ground.chain }, { on := 11, ground := Ground.guard }], guard := some (11, true) }) rfl (fun K hK => ?_) ?_
              rotate_left
              · exact AllReadyH.nil
              go_simp
              go_at_call 20
              refine (refsame6_any _ _ _ _ lz l _ HFZ.out.1 (HDZ.out.later (by repeat (first | with_reducible exact HBx1.out | with_reducible exact Below.refl _ _ | with_reducible refine blAlloc ?_ _ | with_reducible refine Below.drew ?_))) (HL.out.later (by repeat (first | with_reducible exact HBx1.out | with_reducible exact Below.refl _ _ | with_reducible refine blAlloc ?_ _ | with_reducible refine Below.drew ?_)))).mono ?_
              rintro e x3 ⟨rfl, h5⟩
              rw [HQZ.out]
              have HBx3 : Hid (Below w51.heap.size w51 x3) := blThen (by repeat (first | with_reducible exact HBx1.out | with_reducible exact Below.refl _ _ | with_reducible refine blAlloc ?_ _ | with_reducible refine Below.drew ?_)) h5
              clear h5
              refine hK.out _ _ (HK.out _ HBx3.out) (fun hHeld => ?_)
              clear hK K
              try simp only [Act.put, List.setIfInBounds_toArray, List.set_cons_zero, List.set_cons_succ]
              refine wpAnyH_take (i := 15) (oi := { dst := some 101, op := Op.pick (Operand.tmp 97) (Operand.tmp 100) (Operand.const (Value.bool false)), type := 4, pos := "law.go:55", after := #[{ on := 11, ground := Ground.data }, { on := 14, ground := Ground.data }], guard := none }) (v := ?_) rfl (by kernel_rfl) (by kernel_rfl) (by kernel_rfl) (fun _ _ _ h => h) (Or.inl ⟨by rfl, ?_⟩) (by assumption) ?_
              rotate_left
              · intro w hSw
                try dsimp only at hSw
                go_simp
                try with_reducible rfl
              try simp only [Act.put, List.setIfInBounds_toArray, List.set_cons_zero, List.set_cons_succ]
              refine wpAnyH_take (i := 16) (oi := { dst := some 102, op := Op.move (Operand.tmp 101), type := 4, pos := "law.go:55", after := #[{ on := 15, ground := Ground.data }, { on := 14, ground := Ground.chain }], guard := none }) (v := ?_) rfl (by kernel_rfl) (by kernel_rfl) (by kernel_rfl) (fun _ _ _ h => h) (Or.inl ⟨by rfl, ?_⟩) (by assumption) ?_
              rotate_left
              · intro w hSw
                try dsimp only at hSw
                go_simp
                try with_reducible rfl
              try simp only [Act.put, List.setIfInBounds_toArray, List.set_cons_zero, List.set_cons_succ]
              refine wpAnyH_ready (rs := [17]) (by kernel_rfl) (by simp) ?_
              refine AllReadyH.cons (o := { dst := some 103, op := Op.call { callee := Callee.value (Operand.func 14), args := #[], argTypes := #[] }, type := 4, pos := "law.go:55", after := #[{ on := 16, ground := Ground.chain }, { on := 16, ground := Ground.guard }], guard := some (16, true) }) rfl (fun K hK => ?_) ?_
              rotate_left
              · exact AllReadyH.nil
              go_simp
              go_at_call 14
              refine (dlive_any _).mono ?_
              rintro e x4 ⟨rfl, h5⟩
              have HBx4 : Hid (Below w51.heap.size w51 x4) := blThen (by repeat (first | with_reducible exact HBx3.out | with_reducible exact HBx1.out | with_reducible exact Below.refl _ _ | with_reducible refine blAlloc ?_ _ | with_reducible refine Below.drew ?_)) h5
              clear h5
              refine hK.out _ _ (HK.out _ HBx4.out) (fun hHeld => ?_)
              clear hK K
              try simp only [Act.put, List.setIfInBounds_toArray, List.set_cons_zero, List.set_cons_succ]
              refine wpAnyH_take (i := 18) (oi := { dst := some 104, op := Op.pick (Operand.tmp 102) (Operand.tmp 103) (Operand.const (Value.bool false)), type := 4, pos := "law.go:55", after := #[{ on := 16, ground := Ground.data }, { on := 17, ground := Ground.data }], guard := none }) (v := ?_) rfl (by kernel_rfl) (by kernel_rfl) (by kernel_rfl) (fun _ _ _ h => h) (Or.inl ⟨by rfl, ?_⟩) (by assumption) ?_
              rotate_left
              · intro w hSw
                try dsimp only at hSw
                go_simp
                try with_reducible rfl
              try simp only [Act.put, List.setIfInBounds_toArray, List.set_cons_zero, List.set_cons_succ]
              refine wpAnyH_take (i := 19) (oi := { dst := some 4, op := Op.assign (Operand.tmp 104), type := 4, pos := "law.go:55", after := #[{ on := 18, ground := Ground.data }, { on := 17, ground := Ground.chain }, { on := 0, ground := Ground.phase }, { on := 1, ground := Ground.phase }, { on := 2, ground := Ground.phase }, { on := 3, ground := Ground.phase }, { on := 4, ground := Ground.phase }, { on := 5, ground := Ground.phase }, { on := 6, ground := Ground.phase }, { on := 7, ground := Ground.phase }, { on := 8, ground := Ground.phase }, { on := 9, ground := Ground.phase }, { on := 10, ground := Ground.phase }, { on := 11, ground := Ground.phase }, { on := 12, ground := Ground.phase }, { on := 13, ground := Ground.phase }, { on := 14, ground := Ground.phase }, { on := 15, ground := Ground.phase }, { on := 16, ground := Ground.phase }, { on := 17, ground := Ground.phase }, { on := 18, ground := Ground.phase }], guard := none }) (v := ?_) rfl (by kernel_rfl) (by kernel_rfl) (by kernel_rfl) (fun _ _ _ h => h) (Or.inl ⟨by rfl, ?_⟩) (by assumption) ?_
              rotate_left
              · intro w hSw
                try dsimp only at hSw
                go_simp
                try with_reducible rfl
              try simp only [Act.put, List.setIfInBounds_toArray, List.set_cons_zero, List.set_cons_succ]
              refine wpAnyH_done (by kernel_rfl) ?_ _
              go_wp2
              go_ret
              exact ⟨rfl, blThen HB_w51.out HBx4.out⟩
            · have hck1 : (checkD (toD l) != 0) = true := by simpa using hck
              go_wp2_with fail
              refine (dlive_any _).mono ?_
              rintro e w8 ⟨rfl, h5⟩
              have HX : Hid (Below w7.heap.size w7 w8) := blThen (by repeat (first | with_reducible exact Below.refl _ _ | with_reducible refine blAlloc ?_ _ | with_reducible refine Below.drew ?_)) h5
              have HB_w8 := Lib.hid (blThen HB_w7.out HX.out)
              clear h5 HX
              go_wp2
              go_ret
              exact ⟨rfl, HB_w8.out⟩

set_option maxRecDepth 100000 in
theorem depsChecks_lifted (os : Os) (started : os.Started) (H : Type) (enc : TypeId × Value → H) :
    ReturnsInHanded {} Tryz.checked os 3 .any (Rows.depsChecksSpec.pre6 enc Tryz.prog Tryz.f3 Rows.depsChecksRow.domain false) (Rows.depsChecksSpec.post enc Tryz.prog Tryz.f3 false true false false) := by
  refine law_lift_sized (C := Tryz.checked) own6 started (by kernel_rfl) Tryz.func3 laid6 rfl (by kernel_rfl) (fun _ _ _ _ => trodAll_mk1 (shut_bool Tryz.underlying4 true)) (fun ds h => match ds, h with | [_, _], _ => ⟨rfl, rfl, rfl⟩)
    (ChangeSpec.witness6 (enc := enc) (C := Tryz.checked) false ⟨#[], #[.slice none 0 0, .slice none 0 0], []⟩ 8 (by kernel_rfl) (by kernel_rfl) (by kernel_rfl) (by kernel_rfl)) ?_
  intro W base args ds before hval0 hA0 hlt hsz
  have hval : ∀ (j : Nat) t v, Tryz.f3.params[j]? = some t → args[j]? = some v → Value.okWide Tryz.prog W .any base t v := hval0
  have hA : DataW.TrodAll enc Tryz.prog W 0 (fun _ => true) true Tryz.f3.params.toList args.toList ds before := hA0
  rw [Tryz.params3] at hA hval
  obtain ⟨v0, v1, d0, d1, p0, p1, rfl, rfl, rfl, h0, h1⟩ := trodAll_two hA
  obtain ⟨a, l, c, rfl, hl, hm, _, _, _, hr⟩ := open_deps (hval 0 22 v0 rfl rfl) h0
  have hv1 := hval 1 23 v1 rfl rfl
  obtain ⟨g, B, hb⟩ := S2.open_bytesv hv1 h1
  obtain ⟨ab, cb, hv, _⟩ := id hb
  subst hv
  exact checks_walk a c l g ab B.length cb B W hm (hr _ _ 0 hsz (by kernel_rfl) rfl) hl hb

theorem depsChecks_f_inPlace : (Rows.depsChecksRow.inPlace == Tryz.prog.inPlace 3) = true := by kernel_rfl
theorem depsChecks_f_unfollowed : (Rows.depsChecksRow.unfollowed == Tryz.prog.unfollowed 3) = true := by kernel_rfl
theorem depsChecks_f_recurses : (Rows.depsChecksRow.recurses == Tryz.prog.recurses 3) = true := by kernel_rfl
theorem depsChecks_f_named : (Rows.depsChecksRow.named == Tryz.prog.varsNamed 3) = true := by kernel_rfl
theorem depsChecks_laid : laidOutB Tryz.prog = true := by kernel_rfl
theorem depsChecks_rowed : mapsRowed Tryz.prog = true := by kernel_rfl
theorem depsChecks_closed : joinedFacts Tryz.prog 3 Tryz.f3 Rows.depsChecksSpec Rows.depsChecksRow = true := by
  unfold joinedFacts
  rw [depsChecks_laid, depsChecks_rowed, depsChecks_f_inPlace, depsChecks_f_unfollowed, depsChecks_f_recurses, depsChecks_f_named]
  kernel_rfl

theorem depsChecks_holds : Rows.DepsChecksSaid :=
  OpenClaim.holds_of_wide 3 Tryz.f3 rfl rfl rfl rfl rfl rfl rfl ⟨rfl, rfl, rfl, rfl, rfl⟩ rfl rfl rfl rfl rfl (by kernel_rfl) Tryz.func3 depsChecks_closed
    (of_decide_eq_true (by kernel_rfl)) (by unfold Func.isWrapper; rw [if_neg (of_decide_eq_false (by kernel_rfl))]; exact ⟨rfl, rfl⟩)
    (fun os started H enc _ => depsChecks_lifted os started H enc)

#print axioms depsChecks_holds

end SD
end Go.Proofs.YtjlkgbejldcklaaGreat
