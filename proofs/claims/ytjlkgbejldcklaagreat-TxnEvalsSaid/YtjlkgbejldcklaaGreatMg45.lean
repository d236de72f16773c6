/- TxnEvals. Conditions: none. -/
import Derived.Deep.RegionHeld3
import Derived.Deep.CutBlock
import Derived.WalkSpells
import Derived.Lib.SmallJoins
import Derived.Test.YtjlkgbejldcklaaGreatMg44
import Derived.Test.YtjlkgbejldcklaaGreatMg41
import Derived.Test.YtjlkgbejldcklaaGreatMg25
import Derived.Test.YtjlkgbejldcklaaGreatMg37
import Derived.Test.YtjlkgbejldcklaaGreatMg43
import Derived.Test.YtjlkgbejldcklaaGreatMg15
import Derived.Test.YtjlkgbejldcklaaGreatMg42
import Derived.Test.YtjlkgbejldcklaaGreatMg35
import Derived.Test.YtjlkgbejldcklaaGreatMg10
import Derived.Test.YtjlkgbejldcklaaGreatMg12
set_option linter.unusedVariables false
set_option linter.unusedSimpArgs false
namespace Go.Proofs.YtjlkgbejldcklaaGreat
open S3 SN
namespace SP
open Go.ChangeShapes Go.WideShapes Go.ChangeAt Go.RowKit Go.Joins Go.Deep
def Nums (d : Al Nat) : Prop := ∀ p ∈ d, p.2 < 18446744073709551616
theorem nums_do {d : Al Nat} {x : Wrt} (h : Nums d) (hx : x.2.1 < 18446744073709551616) : Nums (doW d x) := by
  intro p hp
  unfold doW at hp
  split at hp
  · exact h p (List.mem_filter.1 hp).1
  · rcases putA_mem d x.1 x.2.1 p hp with rfl | hp
    · exact hx
    · exact h p hp
theorem nums_apply : ∀ (l : List Wrt) {d : Al Nat}, Nums d → (∀ x ∈ l, x.2.1 < 18446744073709551616) → Nums (applyP d l)
  | [], _, h, _ => h
  | x :: l, _, h, hl => nums_apply l (nums_do h (hl x (by simp))) fun y hy => hl y (by simp [hy])
theorem nums_val {d : Al Nat} (hr : RisA d) (h : Nums d) (k : ByteArray) : valP d k < 18446744073709551616 := by
  unfold valP
  cases hg : getA d k with
  | none => decide
  | some v => exact h (k, v) ((getA_mem hr).1 hg)
theorem nums_opW {d : Al Nat} {o : Opr} (ho : o.2.2.2 < 18446744073709551616) : ∀ x ∈ opW d o, x.2.1 < 18446744073709551616 := by
  intro x hx
  unfold opW at hx
  split at hx
  · simp only [List.mem_singleton] at hx; subst hx; exact ho
  split at hx
  · simp only [List.mem_singleton] at hx; subst hx; exact adN_lt _ _
  split at hx
  · simp only [List.mem_singleton] at hx; subst hx; show (0 : Nat) < _; decide
  split at hx
  · split at hx
    · simp only [List.mem_cons, List.not_mem_nil, or_false] at hx
      rcases hx with rfl | rfl
      · exact adN_lt _ _
      · exact adN_lt _ _
    · cases hx
  · cases hx
theorem nums_eval {d : Al Nat} {l : List Opr} (h : Nums d) (hl : ∀ o ∈ l, o.2.2.2 < 18446744073709551616) : ∀ k, Nums (evalD d (l.take k)) := by
  intro k
  induction k with
  | zero => simpa [evalD] using h
  | succ k ih =>
    cases hx : l[k]? with
    | none => rw [List.take_add_one, hx]; simpa using ih
    | some o => rw [evalD_take hx]; exact nums_apply _ ih (nums_opW (hl o (List.mem_of_getElem? hx)))
theorem lastL_le (l : List Wrt) : (lastL l).length ≤ l.length := by
  induction l using snoc_ind with
  | nil => exact Nat.le_refl _
  | snoc l x ih =>
    rw [lastL_snoc, List.length_append, List.length_singleton]
    exact Nat.le_trans (putA_len _ _ _) (by omega)
def DatAt (w0 wr : World) (v : Value) (D : Al Nat) : Prop := SlG eP w0 v D ∨ OwnPr wr w0.heap.size v D
theorem DatAt.later {w0 x y : World} {v : Value} {D : Al Nat} (h : DatAt w0 x v D) (hb : Below x.heap.size x y) : DatAt w0 y v D := h.imp id fun h => h.later hb
theorem DatAt.sl {w0 x : World} {v : Value} {D : Al Nat} (h : DatAt w0 x v D) (hb : Below w0.heap.size w0 x) : SlG eP x v D := h.elim (fun h => h.later hb) fun h => OwnG.sl h
theorem DatAt.kept {w0 x y : World} {v u : Value} {D : Al Nat} {B : Nat} {m : List AnR} (h : DatAt w0 x v D) (hg : x.grownBy y u.ownBlock) (ho : OwnG eA 96 x B u m) : DatAt w0 y v D :=
  h.imp id fun h => OwnG.kept h hg (rows_ne h ho (by decide))
theorem dat_ap {w0 x : World} {ad a : Option Addr} {cd c B : Nat} {D : Al Nat} {l : List Wrt} (h : DatAt w0 x (.slice ad D.length cd) D) (hv : (l = [] ∧ a = ad ∧ c = cd) ∨ OwnPr x B (.slice a (applyP D l).length c) (applyP D l)) (hB : w0.heap.size ≤ B) : DatAt w0 x (.slice a (applyP D l).length c) (applyP D l) := by
  rcases hv with ⟨rfl, rfl, rfl⟩ | hv
  · exact h
  · exact .inr (OwnG.mono hv hB)
def RetAp (w : World) (ad : Option Addr) (cd : Nat) (D : Al Nat) (l : List Wrt) (e : Ending) (w' : World) : Prop :=
  ∃ a c, e = .returned (.slice a (applyP D l).length c) ∧ (applyP D l).length ≤ c ∧ SlG eP w' (.slice a (applyP D l).length c) (applyP D l) ∧ ((l = [] ∧ a = ad ∧ c = cd) ∨ OwnPr w' w.heap.size (.slice a (applyP D l).length c) (applyP D l)) ∧ Below w.heap.size w w'
set_option maxRecDepth 100000 in
set_option maxHeartbeats 4000000 in
theorem rapplyO_any (a : Option Addr) (cap : Nat) (d : Al Nat) (vs : Value) (l : List Wrt) (w : World) (hlen : d.length ≤ 10000) (hl : l.length ≤ 1000) (hcap : d.length ≤ cap) (hr : RisA d) (ha : SlG eP w (.slice a d.length cap) d) (hs : SlG eW w vs l) : Calls Tryz.prog 60 #[.slice a d.length cap, vs] w (RetAp w a cap d l) := by
  obtain ⟨aS, cS, rfl⟩ := hs.form
  have HL := Lib.hid hs
  have HA := Lib.hid ha
  have HR := Lib.hid hr
  clear ha hs hr
  go_enter Tryz.func60, Tryz.ntmps60
  go_wp2_with fail
  go_loopw [0, 5] (fun v i wr => ∃ k : Nat, ∃ av cv, k ≤ l.length ∧ i = .int .i64 k ∧ v = .slice av (applyP d (l.take k)).length cv ∧ (applyP d (l.take k)).length ≤ cv ∧ SlG eP wr (.slice av (applyP d (l.take k)).length cv) (applyP d (l.take k)) ∧ ((k = 0 ∧ av = a ∧ cv = cap) ∨ OwnPr wr w.heap.size (.slice av (applyP d (l.take k)).length cv) (applyP d (l.take k))) ∧ Below w.heap.size w wr) (fun _ i _ => l.length - (intOf i).toNat)
  case atStart => exact ⟨0, a, cap, Nat.zero_le _, rfl, rfl, hcap, HA.out, .inl ⟨rfl, rfl, rfl⟩, Below.refl _ _⟩
  case round =>
    obtain ⟨k, av, cv, hk, rfl, rfl, hcv, ho, hown, hb⟩ := hrel
    have HOWN := Lib.hid hown
    have HB := Lib.hid hb
    have HO := Lib.hid ho
    have HRK := Lib.hid (ris_apply (l.take k) HR.out)
    have HLL : Hid ((applyP d (l.take k)).length ≤ 20000) := by
      have h1 := apply_len (l.take k) d
      rw [List.length_take] at h1
      show _ ≤ _
      omega
    clear hb ho hown
    generalize hD : applyP d (l.take k) = D at *
    have HD := Lib.hid hD
    clear hD
    by_cases hlt : k < l.length
    · obtain ⟨⟨xk, xn, xg⟩, hx⟩ := at_lt hlt
      obtain ⟨g, o, hA, hg, d0, d1, d2⟩ := wrs_at HL.out hx
      simp only at d0 d1 d2
      have c0 := cell_in HB.out hg d0
      have c1 := cell_in HB.out hg d1
      have c2 := cell_in HB.out hg d2
      have hk1 : (k : Int) < (l.length : Int) := by omega
      have hk0 : (0 : Int) ≤ (k : Int) := by omega
      have hdk : decide ((k : Int) < (l.length : Int)) = true := decide_eq_true hk1
      have hdn : decide (k < l.length) = true := decide_eq_true hlt
      have HT : Hid (applyP d (l.take (k + 1)) = doW D (xk, xn, xg)) := by
        show _ = _
        rw [List.take_add_one, hx, apply_append, HD.out]
        rfl
      have HDO := Lib.hid (rdo_any av cv D (xk, xn, xg) wr (by have := HLL.out; omega) hcv HRK.out HO.out)
      clear hx d0 d1 d2
      subst hA
      generalize hN : D.length = N at *
      have HN := Lib.hid hN
      clear hN
      go_wp2_with (go_at_call 151; go_must (refine HDO.out.mono ?_; rintro e w2 ⟨v2, rfl, h1, h2⟩; have HB2 : Hid (Below w.heap.size w w2) := blThen HB.out h2; obtain ⟨a2, c2, rfl, h3⟩ := h1.cp; have HO2 := Lib.hid h1.sl; have HW2 := Lib.hid (OwnG.mono h1 HB.out.size); have HC2 := Lib.hid h3; clear h1 h2 h3))
      go_roundw
      case rel => exact ⟨k + 1, _, _, hlt, by go_num, by rw [HT.out], by rw [HT.out]; exact HC2.out, by rw [HT.out]; exact HO2.out, .inr (by rw [HT.out]; exact HW2.out), HB2.out⟩
      case measure => simp [intOf]; omega
    · have hge : ¬ (k : Int) < (l.length : Int) := by omega
      have hdk : decide ((k : Int) < (l.length : Int)) = false := decide_eq_false hge
      have hdn : decide (k < l.length) = false := decide_eq_false hlt
      have HE : Hid (D = applyP d l) := by
        show _ = _
        rw [← HD.out, List.take_of_length_le (by omega)]
      go_wp2
      go_ret
      exact ⟨av, cv, by rw [← HE.out]; rfl, by rw [← HE.out]; exact hcv, by rw [← HE.out]; exact HO.out, by rw [← HE.out]; exact HOWN.out.imp (fun h => ⟨List.eq_nil_of_length_eq_zero (by omega), h.2.1, h.2.2⟩) id, HB.out⟩
theorem set_grown (w : World) (k i : Nat) (u : Value) : w.grownBy (w.setCell ⟨k, i, none⟩ u) (some k) := by
  refine ⟨rfl, rfl, rfl, by simp [World.setCell], fun j hj hne => ?_⟩
  have e : j ≠ k := fun e => hne (by rw [e])
  rw [Go.Deep.blk_setCell_other _ _ _ _ e]
theorem set_ans0 {w : World} {x y z : Value} {k : Nat} {T : TypeId} (h : w.heap[k]? = some (.cells #[x, y, z] T (0, 0))) (u : Value) : (w.setCell ⟨k, 1, none⟩ u).heap[k]? = some (.cells #[x, u, z] T (0, 0)) ∧ (w.setCell ⟨k, 2, none⟩ u).heap[k]? = some (.cells #[x, y, u] T (0, 0)) := by
  constructor
  · simp only [World.setCell]
    rw [Array.getElem?_modify, if_pos rfl, h]
    rfl
  · simp only [World.setCell]
    rw [Array.getElem?_modify, if_pos rfl, h]
    rfl
theorem new_block (w : World) (c : Array Value) (T : TypeId) : (w.alloc (.cells c T)).heap[w.heap.size]? = some (.cells c T (0, 0)) := by
  show (w.heap.push _)[w.heap.size]? = _
  rw [Array.getElem?_push_size]
theorem old_block {w : World} {k : Nat} {o : Obj} (h : w.heap[k]? = some o) (ob : Obj) : (w.alloc ob).heap[k]? = some o := by
  have hk := lt_of_block h
  show (w.heap.push _)[k]? = _
  rw [Array.getElem?_push_lt hk, ← h, Array.getElem?_eq_getElem hk]
theorem in_one (s : Sp) (d : Al Nat) : inA (memL [s]) d = inA (inS s) d := by
  have : memL [s] = inS s := by funext x; exact memL_one s x
  rw [this]
def Swt (B : Nat) (w2 : World) (D : Al Nat) (o : Opr) (nv : Value) (wx : World) : Prop :=
  ∃ r : AnR, SlG eW wx nv (opW D o) ∧ r.ans = opA D o ∧ wx.heap[w2.heap.size]? = some (.cells #[.bool r.yes, .int .u64 (r.num : Int), .slice r.at_ r.prs.length r.cap] 96 (0, 0)) ∧ OwnPr wx B (.slice r.at_ r.prs.length r.cap) r.prs ∧ Below w2.heap.size w2 wx
set_option maxRecDepth 100000 in
set_option maxHeartbeats 16000000 in
theorem reval_any (a : Option Addr) (cap : Nat) (va : Value) (l : List Opr) (d : Al Nat) (w : World) (hd : Dat 60 d) (hnd : Nums d) (ho : Okl l) (hnm : ∀ o ∈ l, o.2.2.2 < 18446744073709551616) (hcap : d.length ≤ cap) (ha : SlG eO w va l) (hs : SlG eP w (.slice a d.length cap) d) :
    Calls Tryz.prog 55 #[va, .slice a d.length cap] w (RetE w d l) := by
  obtain ⟨aS, cS, rfl⟩ := ha.form
  have HA := Lib.hid ha
  have HS := Lib.hid hs
  have HD := Lib.hid hd
  have HOK := Lib.hid ho
  have HNM := Lib.hid hnm
  have HND := Lib.hid hnd
  have hl8 := ho.1
  clear ha hs hd ho hnm hnd
  go_enter Tryz.func55, Tryz.ntmps55
  go_wp2_with fail
  go_loopw [1, 6, 7, 8] (fun dv ws asv i wr => ∃ (k : Nat) (ad : Option Addr) (cd : Nat) (aw : Option Addr) (cw : Nat) (rs : List AnR), k ≤ l.length ∧ i = .int .i64 k ∧ dv = .slice ad (evalD d (l.take k)).length cd ∧ (evalD d (l.take k)).length ≤ cd ∧ DatAt w wr (.slice ad (evalD d (l.take k)).length cd) (evalD d (l.take k)) ∧ ws = .slice aw (lastL (evalL d (l.take k))).length cw ∧ (lastL (evalL d (l.take k))).length ≤ cw ∧ OwnWr wr w.heap.size (.slice aw (lastL (evalL d (l.take k))).length cw) (lastL (evalL d (l.take k))) ∧ OwnG eA 96 wr w.heap.size asv rs ∧ rs.map AnR.ans = evalA d (l.take k) ∧ (∀ r ∈ rs, OwnPr wr w.heap.size (.slice r.at_ r.prs.length r.cap) r.prs) ∧ Below w.heap.size w wr) (fun _ _ _ i _ => l.length - (intOf i).toNat)
  case atStart => exact ⟨0, a, cap, none, 0, [], Nat.zero_le _, rfl, rfl, hcap, .inl HS.out, rfl, Nat.zero_le _, OwnG.nil _ _, OwnG.nil _ _, rfl, fun r hr => (by cases hr), Below.refl _ _⟩
  case round =>
    obtain ⟨k, ad, cd, aw, cw, rs, hk, rfl, rfl, hcd, hsd, rfl, hcw, hsw, hoa, hra, hrp, hb⟩ := hrel
    have HDK := Lib.hid (ris_evalD HD.out.1 (l.take k))
    have HNK := Lib.hid (nums_eval HND.out HNM.out k)
    have HDL : Hid ((evalD d (l.take k)).length ≤ 100) := by
      show _ ≤ _
      rw [evalD_eq]
      have h1 := apply_len (evalL d (l.take k)) d
      have h2 := evalL_len (l.take k) d
      rw [List.length_take] at h2
      have h3 := HD.out.2.2
      omega
    have HWQ : Hid (∀ m : List Wrt, (lastL (evalL d (l.take k) ++ m)).length ≤ 16 + m.length) := by
      intro m
      have h1 := lastL_le (evalL d (l.take k) ++ m)
      have h2 := evalL_len (l.take k) d
      rw [List.length_take] at h2
      rw [List.length_append] at h1
      omega
    have HRSL : Hid (rs.length ≤ 8) := by
      show _ ≤ _
      have := congrArg List.length hra
      rw [List.length_map, evalA_length, List.length_take] at this
      omega
    have HDA := Lib.hid hsd
    have HOW := Lib.hid hsw
    have HOA := Lib.hid hoa
    have HRA := Lib.hid hra
    have HRP := Lib.hid hrp
    have HB := Lib.hid hb
    have hsz := hb.size
    clear hsd hsw hoa hra hrp hb
    by_cases hlt : k < l.length
    · obtain ⟨⟨kd, key, to_, nm⟩, hx⟩ := at_lt hlt
      have hk1 : (k : Int) < (l.length : Int) := by omega
      have hk0 : (0 : Int) ≤ (k : Int) := by omega
      have hdk : decide ((k : Int) < (l.length : Int)) = true := decide_eq_true hk1
      have HET := Lib.hid (evalD_take (d := d) hx)
      have HEL := Lib.hid (evalL_take (d := d) hx)
      have HEA := Lib.hid (evalA_take (d := d) hx)
      have HOX : Hid (okB (kd, key, to_, nm) = true) := HOK.out.2 _ (List.mem_of_getElem? hx)
      have hnm : nm < 18446744073709551616 := HNM.out _ (List.mem_of_getElem? hx)
      have HN4 := Lib.hid hnm
      obtain ⟨gb, o, hA, hgb, d0, d1, d2, d3⟩ := ops_at HA.out hx
      simp only at d0 d1 d2 d3
      have c0 := cell_in HB.out hgb d0
      have c1 := cell_in HB.out hgb d1
      have c2 := cell_in HB.out hgb d2
      have c3 := cell_in HB.out hgb d3
      have hkd : kd = 1 ∨ kd = 2 ∨ kd = 3 ∨ kd = 4 ∨ kd = 5 ∨ kd = 6 := by
        have h := (ok_kd HOX.out).1
        unfold Kd at h
        simp only at h
        omega
      generalize evalD d (l.take k) = D at *
      generalize evalL d (l.take k) = EL at *
      generalize evalA d (l.take k) = EA at *
      have HVL : Hid (valP D key < 18446744073709551616 ∧ valP D to_ < 18446744073709551616) := ⟨nums_val HDK.out HNK.out _, nums_val HDK.out HNK.out _⟩
      clear hx d0 d1 d2 d3 hnm
      subst hA
      have HSD := Lib.hid (HDA.out.sl HB.out)
      generalize hDN : D.length = DN at *
      have HDN := Lib.hid hDN
      generalize hLN : (lastL EL).length = LN at *
      have HLN := Lib.hid hLN
      clear hDN hLN
      go_upto_block 2 with (go_at_call 143; go_must (refine (rvalue_any (.slice ad DN cd) D key _ (by have := HDL.out; have := HDN.out; omega) HDK.out ((HDA.out.sl HB.out).later (blAlloc (Below.refl _ _) _))).mono ?_; rintro e w2 ⟨rfl, h5⟩; have HW2 : Hid (Below wr.heap.size wr w2) := blThen (blAlloc (Below.refl _ _) _) h5; have HOB := Lib.hid ((h5.block wr.heap.size (by simp)).trans (new_block wr _ 94)); obtain ⟨p0, p1, p2, p3⟩ := cells_four HOB.out; have hpk := lt_of_block HOB.out; clear h5))
      have HSD2 := Lib.hid (HSD.out.later HW2.out)
      go_cut [13, 14, 15] from 38 to 118 (fun s13 s14 s15 wx => Swt w.heap.size w2 D (kd, key, to_, nm) s13 wx)
      case first =>
        rcases hkd with rfl | rfl | rfl | rfl | rfl | rfl
        · go_wp2_with fail
          go_meet
          exact ⟨⟨hasP D key, valP D key, none, 0, []⟩, SlG.nil _, rfl, new_block _ _ _, OwnG.nil _ _, blAlloc (Below.refl _ _) _⟩
        · have HSP : Hid (Sl ((w2.alloc (.cells #[.bool true, .int .u64 0, .slice none 0 0] 96)).alloc (.cells #[.string key, .string to_] 195)) (.slice (some ⟨w2.heap.size + 1, 0, none⟩) 1 1) [(key, to_)]) := by
            have h1 := one_sl (box2_new (w2.alloc (.cells #[.bool true, .int .u64 0, .slice none 0 0] 96)) (key, to_)) 1
            have e : (w2.alloc (.cells #[.bool true, .int .u64 0, .slice none 0 0] 96)).heap.size = w2.heap.size + 1 := by simp
            rw [e] at h1
            exact h1
          go_wp2_with (go_at_call 62; go_must (refine (rpick_any (.slice ad DN cd) _ D [(key, to_)] _ (by have := HDL.out; have := HDN.out; omega) (by simp) (HSD2.out.later (blAlloc (blAlloc (Below.refl _ _) _) _)) HSP.out).mono ?_; rintro e w5 ⟨v5, rfl, h1, h5⟩; rw [in_one] at h1; obtain ⟨g5, c5, rfl⟩ := h1.form; have HO5 := Lib.hid (OwnG.mono h1 (show w.heap.size ≤ _ from Nat.le_trans hsz (Nat.le_trans HW2.out.size (by simp; omega)))); have HAB5 := Lib.hid ((h5.block w2.heap.size (by simp; omega)).trans (old_block (new_block w2 #[.bool true, .int .u64 0, .slice none 0 0] 96) _)); have HB5 : Hid (Below w2.heap.size w2 w5) := Lib.hid (blThen (blAlloc (blAlloc (Below.refl _ _) _) _) h5); obtain ⟨z0, z1, z2⟩ := cells_three HAB5.out; obtain ⟨f0, f1, f2⟩ := frozen_three HAB5.out; have hrs5 := lt_of_block HAB5.out; clear h1 h5))
          go_meet
          exact ⟨⟨true, 0, g5, c5, inA (inS (key, to_)) D⟩, SlG.nil _, rfl, (set_ans0 HAB5.out _).2, HO5.out.kept (set_grown _ _ _ _) (.inl (ownG_ne HO5.out HAB5.out (by decide))), HB5.out.grown (set_grown _ _ _ _) HB5.out.size (fun j hj => by cases hj; exact Nat.le_refl _)⟩
        · go_wp2_with fail
          go_meet
          exact ⟨⟨true, 0, none, 0, []⟩, one_G eW _ _ (key, nm, false) _ _ rfl (by simp), rfl, old_block (new_block _ _ _) _, OwnG.nil _ _, blAlloc (blAlloc (Below.refl _ _) _) _⟩
        · go_wp2_with (go_at_call 144; go_must (refine (SN.radd_any (valP D key) nm HVL.out.1 HN4.out _).mono ?_; rintro e w5 ⟨rfl, h5⟩; have HAB5 := Lib.hid ((h5.block w2.heap.size (by simp)).trans (new_block w2 #[.bool (hasP D key), .int .u64 0, .slice none 0 0] 96)); have HOB5 := Lib.hid ((h5.block wr.heap.size (by simp; omega)).trans (old_block HOB.out _)); have HB5 : Hid (Below w2.heap.size w2 w5) := Lib.hid (blThen (blAlloc (Below.refl _ _) _) h5); obtain ⟨z0, z1, z2⟩ := cells_three HAB5.out; obtain ⟨f0, f1, f2⟩ := frozen_three HAB5.out; obtain ⟨y0, y1, y2, y3⟩ := cells_four HOB5.out; have hrs5 := lt_of_block HAB5.out; clear h5))
          go_meet
          exact ⟨⟨hasP D key, adN (valP D key) nm, none, 0, []⟩, one_G eW _ _ (key, adN (valP D key) nm, false) _ _ rfl (by simp [World.setCell]), rfl, old_block (set_ans0 HAB5.out _).1 _, OwnG.nil _ _, blAlloc (HB5.out.grown (set_grown _ _ _ _) HB5.out.size (fun j hj => by cases hj; exact Nat.le_refl _)) _⟩
        · go_wp2_with fail
          go_meet
          exact ⟨⟨hasP D key, 0, none, 0, []⟩, one_G eW _ _ (key, 0, true) _ _ rfl (by simp), rfl, old_block (new_block _ _ _) _, OwnG.nil _ _, blAlloc (blAlloc (Below.refl _ _) _) _⟩
        · cases hm1 : coN (valP D key) nm
          · have hm2 : coN nm 0 = coN nm 0 := rfl
            have e1 : opW D (6, key, to_, nm) = [] := by simp [opW, movB, hm1]
            have e2 : opA D (6, key, to_, nm) = (false, 0, []) := by simp [opA, movB, hm1]
            go_wp2_with (first
                    | (go_at_call 145; with_reducible refine (SN.rcovers_any (valP D key) nm HVL.out.1 HN4.out _).mono ?_; rw [hm1]; rintro e w' ⟨rfl, rfl⟩)
                    | (go_at_call 145; go_must (refine (SN.rcovers_any nm 0 HN4.out (by decide) _).mono ?_; rw [hm2]; rintro e w' ⟨rfl, rfl⟩)))
            go_meet
            exact ⟨⟨false, 0, none, 0, []⟩, by rw [e1]; exact SlG.nil _, by rw [e2]; rfl, new_block _ _ _, OwnG.nil _ _, blAlloc (Below.refl _ _) _⟩
          · cases hm2 : coN nm 0
            · have e1 : opW D (6, key, to_, nm) = [] := by simp [opW, movB, hm1, hm2]
              have e2 : opA D (6, key, to_, nm) = (false, 0, []) := by simp [opA, movB, hm1, hm2]
              go_wp2_with (first
                    | (go_at_call 145; with_reducible refine (SN.rcovers_any (valP D key) nm HVL.out.1 HN4.out _).mono ?_; rw [hm1]; rintro e w' ⟨rfl, rfl⟩)
                    | (go_at_call 145; go_must (refine (SN.rcovers_any nm 0 HN4.out (by decide) _).mono ?_; rw [hm2]; rintro e w' ⟨rfl, rfl⟩)))
              go_meet
              exact ⟨⟨false, 0, none, 0, []⟩, by rw [e1]; exact SlG.nil _, by rw [e2]; rfl, new_block _ _ _, OwnG.nil _ _, blAlloc (Below.refl _ _) _⟩
            · have e1 : opW D (6, key, to_, nm) = [(key, adN (valP D key) (ngN nm), false), (to_, adN (valP D to_) nm, false)] := by simp [opW, movB, hm1, hm2]
              have e2 : opA D (6, key, to_, nm) = (true, 0, []) := by simp [opA, movB, hm1, hm2]
              obtain ⟨NG, HNG⟩ : ∃ NG : Nat, Hid (ngN nm = NG) := ⟨_, rfl⟩
              obtain ⟨SA, HSA⟩ : ∃ SA : Nat, Hid (adN (valP D key) NG = SA) := ⟨_, rfl⟩
              obtain ⟨SB, HSB⟩ : ∃ SB : Nat, Hid (adN (valP D to_) nm = SB) := ⟨_, rfl⟩
              have HE1 : Hid (opW D (6, key, to_, nm) = [(key, SA, false), (to_, SB, false)]) := Lib.hid (by rw [e1, HNG.out, HSA.out, HSB.out])
              have HE2 := Lib.hid e2
              have RN : Hid (∀ W : World, Calls Tryz.prog 146 #[.int .u64 (nm : Int)] W fun e w' => e = .returned (.int .u64 (NG : Int)) ∧ W = w') := fun W => by rw [← HNG.out]; exact SN.rneg_any nm HN4.out W
              have RA : Hid (∀ W : World, Calls Tryz.prog 144 #[.int .u64 ((valP D key : Nat) : Int), .int .u64 (NG : Int)] W fun e w' => e = .returned (.int .u64 (SA : Int)) ∧ Below W.heap.size W w') := fun W => by rw [← HSA.out]; exact SN.radd_any (valP D key) NG HVL.out.1 (by rw [← HNG.out]; exact SN.ngN_lt nm HN4.out) W
              have RB : Hid (∀ W : World, Calls Tryz.prog 144 #[.int .u64 ((valP D to_ : Nat) : Int), .int .u64 (nm : Int)] W fun e w' => e = .returned (.int .u64 (SB : Int)) ∧ Below W.heap.size W w') := fun W => by rw [← HSB.out]; exact SN.radd_any (valP D to_) nm HVL.out.2 HN4.out W
              have RV : Hid (∀ (W : World), SlG eP W (.slice ad DN cd) D → Calls Tryz.prog 143 #[.slice ad DN cd, .string to_] W fun e w' => e = .returned (.tuple #[.int .u64 ((valP D to_ : Nat) : Int), .bool (hasP D to_)]) ∧ Below W.heap.size W w') := fun W h => rvalue_any (.slice ad DN cd) D to_ W (by have := HDL.out; have := HDN.out; omega) HDK.out h
              have RC : Hid (∀ W : World, Calls Tryz.prog 145 #[.int .u64 ((valP D key : Nat) : Int), .int .u64 (nm : Int)] W fun e w' => e = .returned (.bool true) ∧ W = w') := fun W => by rw [← hm1]; exact SN.rcovers_any (valP D key) nm HVL.out.1 HN4.out W
              have RD : Hid (∀ W : World, Calls Tryz.prog 145 #[.int .u64 (nm : Int), .int .u64 0] W fun e w' => e = .returned (.bool true) ∧ W = w') := fun W => by rw [← hm2]; exact SN.rcovers_any nm 0 HN4.out (by decide) W
              clear e1 e2 hm1 hm2 HVL
              generalize valP D key = VK at *
              generalize valP D to_ = VT at *
              generalize hasP D to_ = HT2 at *
              clear HSA HSB HNG
              go_wp2_with (first
                | (go_at_call 145; with_reducible refine (RC.out _).mono ?_; rintro e w' ⟨rfl, rfl⟩)
                | (go_at_call 145; go_must (refine (RD.out _).mono ?_; rintro e w' ⟨rfl, rfl⟩))
                | (go_at_call 143; go_must (refine (RV.out _ (HSD2.out.later (blAlloc (Below.refl _ _) _))).mono ?_; rintro e w5 ⟨rfl, h5⟩; have HAB5 := Lib.hid ((h5.block w2.heap.size (by simp)).trans (new_block w2 #[.bool true, .int .u64 0, .slice none 0 0] 96)); have HOB5 := Lib.hid ((h5.block wr.heap.size (by simp; omega)).trans (old_block HOB.out _)); have HB5 : Hid (Below w2.heap.size w2 w5) := Lib.hid (blThen (blAlloc (Below.refl _ _) _) h5); obtain ⟨y0, y1, y2, y3⟩ := cells_four HOB5.out; have hk5 := lt_of_block HOB5.out; have HCL := Lib.hid (fun (Y : World) (h : Below w5.heap.size w5 Y) => (⟨cell_in h hk5 y1, cell_in h hk5 y2, cell_in h hk5 y3⟩ : Y.cell? ⟨wr.heap.size, 1, none⟩ = some (.string key) ∧ Y.cell? ⟨wr.heap.size, 2, none⟩ = some (.string to_) ∧ Y.cell? ⟨wr.heap.size, 3, none⟩ = some (.int .u64 (nm : Int)))); have HBC := Lib.hid (Below.refl w5.heap.size w5); clear h5)))
              clear p0 p1 p2 p3
              go_region_held3 (fun Y => Y.cell? ⟨wr.heap.size, 1, none⟩ = some (.string key) ∧ Y.cell? ⟨wr.heap.size, 2, none⟩ = some (.string to_) ∧ Y.cell? ⟨wr.heap.size, 3, none⟩ = some (.int .u64 (nm : Int)))
                (first | exact HCL.out _ HBC.out | exact HCL.out _ HBC.out.drew | exact HCL.out _ (blAlloc HBC.out _))
                (first
                  | (go_at_call 146; go_must (refine (RN.out _).mono ?_; rintro e w' ⟨rfl, rfl⟩))
                  | (go_at_call 144; with_reducible refine (RA.out _).mono ?_; rintro e w7 ⟨rfl, h5⟩; have HBC := Lib.hid (show Below w5.heap.size w5 _ from blThen (by first | exact HBC.out | exact HBC.out.drew) h5); clear h5)
                  | (go_at_call 144; go_must (refine (RB.out _).mono ?_; rintro e w7 ⟨rfl, h5⟩; have HBC := Lib.hid (show Below w5.heap.size w5 _ from blThen (by first | exact HBC.out | exact HBC.out.drew) h5); clear h5)))
              all_goals
                go_wp2
                go_meet
                refine ⟨⟨true, 0, none, 0, []⟩, ?_, by rw [HE2.out]; rfl, old_block ((HBC.out.block w2.heap.size (lt_of_block HAB5.out)).trans HAB5.out) _, OwnG.nil _ _, blAlloc (blThen HB5.out HBC.out) _⟩
                rw [HE1.out]
                exact list_G eW _ _ _ _ 2 _ rfl rfl rfl
      case rest =>
        obtain ⟨r, hnw, hra2, hab, hpr, hbx⟩ := hcut
        obtain ⟨an, cn, rfl⟩ := hnw.form
        have hn2 := opW_len D (kd, key, to_, nm)
        have HBC : Hid (Below wr.heap.size wr wc) := Lib.hid (blThen HW2.out hbx)
        have HBW : Hid (Below w.heap.size w wc) := Lib.hid (blThen HB.out HBC.out)
        have HDA := Lib.hid (HDA.out.later HBC.out)
        have HSD := Lib.hid (HSD2.out.later hbx)
        have HOW := Lib.hid (HOW.out.later HBC.out)
        have HOA := Lib.hid (HOA.out.later HBC.out)
        have HRP : Hid (∀ r ∈ rs, OwnPr wc w.heap.size (.slice r.at_ r.prs.length r.cap) r.prs) := Lib.hid (fun r hr => (HRP.out r hr).later HBC.out)
        have HNW := Lib.hid hnw
        have HAB := Lib.hid hab
        have HPR := Lib.hid hpr
        have HR2 := Lib.hid hra2
        have hszc := HBW.out.size
        obtain ⟨ao, co, rfl⟩ := HOA.out.form
        clear hnw hab hpr hbx hra2 HW2 HOB HB HSD2 p0 p1 p2 p3 c0 c1 c2 c3 hgb hpk
        generalize opW D (kd, key, to_, nm) = NW at *
        generalize opA D (kd, key, to_, nm) = OA at *
        go_wp2_with fail
        go_loopw [6, 16] (fun ws j wi => ∃ (q : Nat) (aw' : Option Addr) (cw' : Nat), q ≤ NW.length ∧ j = .int .i64 q ∧ ws = .slice aw' (lastL (EL ++ NW.take q)).length cw' ∧ (lastL (EL ++ NW.take q)).length ≤ cw' ∧ OwnWr wi w.heap.size (.slice aw' (lastL (EL ++ NW.take q)).length cw') (lastL (EL ++ NW.take q)) ∧ Below wc.heap.size wc wi) (fun _ j _ => NW.length - (intOf j).toNat)
        case atStart => exact ⟨0, aw, cw, Nat.zero_le _, rfl, by rw [List.take_zero, List.append_nil, HLN.out], by rw [List.take_zero, List.append_nil, HLN.out]; exact hcw, by rw [List.take_zero, List.append_nil, HLN.out]; exact HOW.out, Below.refl _ _⟩
        case round =>
          clear HOW
          obtain ⟨q, aw', cw', hq, rfl, rfl, hcw', how', hb'⟩ := hrel
          have HOW := Lib.hid how'
          have HBI := Lib.hid hb'
          have HQL : Hid ((lastL (EL ++ NW.take q)).length ≤ 1000) := Lib.hid (by have h1 := HWQ.out (NW.take q); rw [List.length_take] at h1; omega)
          have HLQS := Lib.hid (fun (x : Wrt) (hx : NW[q]? = some x) => (show lastL (EL ++ NW.take (q + 1)) = putA (lastL (EL ++ NW.take q)) x.1 x.2 by rw [List.take_add_one, hx, Option.toList_some, ← List.append_assoc, lastL_snoc]))
          have HLQE := Lib.hid (fun (h : ¬ q < NW.length) => (show lastL (EL ++ NW.take q) = lastL (EL ++ NW) by rw [List.take_of_length_le (by omega)]))
          generalize lastL (EL ++ NW.take q) = LQ at *
          clear how' hb'
          by_cases hlt2 : q < NW.length
          · obtain ⟨⟨xk, xn, xg⟩, hx⟩ := at_lt hlt2
            obtain ⟨g2, o2, hA2, hg2, d0, d1, d2⟩ := wrs_at HNW.out hx
            simp only at d0 d1 d2
            have c0 := cell_in HBI.out hg2 d0
            have c1 := cell_in HBI.out hg2 d1
            have c2 := cell_in HBI.out hg2 d2
            have hq1 : (q : Int) < (NW.length : Int) := by omega
            have hq0 : (0 : Int) ≤ (q : Int) := by omega
            have hdq : decide ((q : Int) < (NW.length : Int)) = true := decide_eq_true hq1
            have HLT := Lib.hid (HLQS.out _ hx)
            have HNT := Lib.hid (rnote_any aw' cw' LQ (xk, xn, xg) wr (by have := HQL.out; omega) hcw' HOW.out.sl)
            clear hx d0 d1 d2 HLQE HLQS
            subst hA2
            generalize hNQ : LQ.length = NQ at *
            have HNQ := Lib.hid hNQ
            clear hNQ
            go_wp2_with (go_at_call 147; go_must (refine HNT.out.mono ?_; rintro e w4 ⟨v4, rfl, h1, h2⟩; have HB4 : Hid (Below wc.heap.size wc w4) := Lib.hid (blThen HBI.out h2); obtain ⟨a4, c4, rfl, h3⟩ := h1.cp; have HO4 := Lib.hid (OwnG.mono h1 (Nat.le_trans hszc HBI.out.size)); have HC4 := Lib.hid h3; clear h1 h2 h3))
            go_roundw
            case rel => exact ⟨q + 1, a4, c4, hlt2, by go_num, by rw [HLT.out], by rw [HLT.out]; exact HC4.out, by rw [HLT.out]; exact HO4.out, HB4.out⟩
            case measure => simp [intOf]; omega
          · have hge2 : ¬ (q : Int) < (NW.length : Int) := by omega
            have hdq : decide ((q : Int) < (NW.length : Int)) = false := decide_eq_false hge2
            have HLQ := Lib.hid (HLQE.out hlt2)
            have HRSL := HRSL
            have HAP := Lib.hid (rapplyO_any ad cd D (.slice an NW.length cn) NW wr (by have := HDL.out; have := HDN.out; omega) (by omega) (by have := HDN.out; omega) HDK.out (by have h := HSD.out.later HBI.out; rw [← HDN.out] at h; exact h) (HNW.out.later HBI.out))
            rw [HDN.out] at HAP
            clear HLQS HLQE
            go_wp2_with (first
              | (at_builtin; go_must (refine append_G 76 _ 40 info_an Tryz.underlying76 rfl (by decide) rfl _ _ rfl w.heap.size _ rs rfl (HOA.out.later (blAlloc HB5.out _)) _ [r] rfl (one_G eA _ _ r _ _ rfl rfl) (by have := HRSL.out; simp only [List.length_cons, List.length_nil]; omega) (Nat.le_trans hszc (blAlloc HB5.out _).size) ?_; intro v7 w7 h1 h2; have HO7 := Lib.hid h1; have HG7 := Lib.hid h2; clear h1 h2))
              | (go_at_call 60; go_must (refine HAP.out.mono ?_; rintro e w5 ⟨a5, c5, rfl, h1, h2, h3, h5⟩; have HC5 := Lib.hid h1; have HS5 := Lib.hid h2; have HV5 := Lib.hid h3; have HB5 : Hid (Below wc.heap.size wc w5) := Lib.hid (blThen HBI.out h5); have HB5I := Lib.hid h5; have HAB5 := Lib.hid ((HB5.out.block w2.heap.size (lt_of_block HAB.out)).trans HAB.out); obtain ⟨z0, z1, z2⟩ := cells_three HAB5.out; clear h1 h2 h3 h5)))
            have HDA5 := Lib.hid (dat_ap (by have h := HDA.out.later (HB5.out); rw [← HDN.out] at h; exact h) HV5.out (Nat.le_trans hszc HBI.out.size))
            have HOW5 := Lib.hid ((HOW.out.later HB5I.out).later (blAlloc (Below.refl _ _) (.cells #[.bool r.yes, .int .u64 (r.num : Int), .slice r.at_ r.prs.length r.cap] 96)))
            have HOA5 := Lib.hid (HOA.out.later (blAlloc HB5.out (.cells #[.bool r.yes, .int .u64 (r.num : Int), .slice r.at_ r.prs.length r.cap] 96)))
            have HRP7 : Hid (∀ y ∈ rs ++ [r], OwnPr w7 w.heap.size (.slice y.at_ y.prs.length y.cap) y.prs) := by
              intro y hy
              have hy2 : OwnPr (w5.alloc (.cells #[.bool r.yes, .int .u64 (r.num : Int), .slice r.at_ r.prs.length r.cap] 96)) w.heap.size (.slice y.at_ y.prs.length y.cap) y.prs := by
                rcases List.mem_append.1 hy with hy | hy
                · exact (HRP.out y hy).later (blAlloc HB5.out _)
                · rw [List.mem_singleton] at hy
                  subst hy
                  exact HPR.out.later (blAlloc HB5.out _)
              exact hy2.kept HG7.out (rows_ne hy2 HOA5.out (by decide))
            have HOW7 := Lib.hid (HOW5.out.kept HG7.out (rows_ne HOW5.out HOA5.out (by decide)))
            have HDA7 := Lib.hid ((HDA5.out.later (blAlloc (Below.refl _ _) _)).kept HG7.out HOA5.out)
            have HB7 : Hid (Below w.heap.size w w7) := Lib.hid ((blThen HBW.out (blAlloc HB5.out _)).grown HG7.out (blThen HBW.out (blAlloc HB5.out _)).size (fun j hj => (HOA5.out.block j hj).1))
            have HMA : Hid ((rs ++ [r]).map AnR.ans = EA ++ [OA]) := by
              show _ = _
              rw [List.map_append, HRA.out]
              show EA ++ [r.ans] = _
              rw [HR2.out]
            rw [HLQ.out] at HOW7 hcw'
            clear HDA5 HOW5 HOA5 HRP HOW HDA HG7 HAP HRA HRSL HPR HAB HNW HSD HBW HB5 HB5I HBI HV5 z0 z1 z2 HAB5 HOA
            rw [HLQ.out]
            go_roundw
            case rel => exact ⟨k + 1, a5, c5, aw', cw', rs ++ [r], hlt, by go_num, by rw [HET.out], by rw [HET.out]; exact HC5.out, by rw [HET.out]; exact HDA7.out, by rw [HEL.out], by rw [HEL.out]; exact hcw', by rw [HEL.out]; exact HOW7.out, HO7.out, by rw [HEA.out]; exact HMA.out, HRP7.out, HB7.out⟩
            case measure => simp [intOf]; omega
    · have hge : ¬ (k : Int) < (l.length : Int) := by omega
      have hdk : decide ((k : Int) < (l.length : Int)) = false := decide_eq_false hge
      have HT : Hid (l.take k = l) := List.take_of_length_le (by omega)
      rw [HT.out] at HRA
      obtain ⟨av, cv, rfl⟩ := HOA.out.form
      go_wp2
      go_ret2
      exact ⟨.slice aw (lastL (evalL d (l.take k))).length cw, .slice av rs.length cv, rs, by kernel_rfl, by have h := HOW.out.sl; rw [HT.out] at h ⊢; exact h, ⟨HOA.out.sl, fun r hr => (HRP.out r hr).sl⟩, ⟨by have := HRSL.out; omega, fun r hr => by have h1 := evalA_prs l d r.ans (by rw [← HRA.out]; exact List.mem_map.2 ⟨r, hr, rfl⟩); have h2 := HD.out.2.2; have e : r.ans.2.2 = r.prs := rfl; rw [e] at h1; omega⟩, HRA.out, HB.out⟩
end SP
end Go.Proofs.YtjlkgbejldcklaaGreat

namespace Go.Proofs.YtjlkgbejldcklaaGreat
open S3 SN
namespace SP
open Go.ChangeShapes Go.WideShapes Go.ChangeAt Go.RowKit Go.Joins Go.Deep
set_option maxRecDepth 100000 in
set_option maxHeartbeats 32000000 in
theorem txnEvals_walk (vl : Value) (l : List Opr) (vd : Value) (d : Al Nat) (aS : Option Addr) (cS : Nat) (S : List Sp) (w : World) (hml : l.length ≤ 9223372036854775807) (hrl : ∀ o ∈ l, o.2.1.size ≤ 140737488355328 ∧ o.2.2.1.size ≤ 140737488355328) (hnl : ∀ o ∈ l, o.2.2.2 < 18446744073709551616) (hl : SlG eO w vl l) (hmd : d.length ≤ 9223372036854775807) (hrd : ∀ p ∈ d, p.1.size ≤ 140737488355328) (hnd : ∀ p ∈ d, p.2 < 18446744073709551616) (hd : SlG eP w vd d) (hS : Sl w (.slice aS S.length cS) S) (hmS : S.length ≤ 9223372036854775807) (hcp : ∀ a n c, vd = .slice a n c → n ≤ c) :
    Calls Tryz.prog 6 #[vl, vd, (.slice aS S.length cS)] w fun e w' => e = .returned (.bool true) ∧ Below w.heap.size w w' := by
  have Ml := Lib.hid hml
  have Rl := Lib.hid hrl
  have Nl := Lib.hid hnl
  have Al := Lib.hid hl
  have Md := Lib.hid hmd
  have Rd := Lib.hid hrd
  have Nd := Lib.hid hnd
  have Ad := Lib.hid hd
  clear hml hrl hnl hl hmd hrd hnd hd
  go_enter Tryz.func6, Tryz.ntmps6
  have AS := Lib.hid hS
  have hcp := Lib.hid hcp
  clear hS
  obtain ⟨ad, cd, rfl⟩ := Ad.out.form
  have HCP : Hid (d.length ≤ cd) := Lib.hid (hcp.out _ _ _ rfl)
  cases hc1 : smallB l d
  · have HC1 := Lib.hid hc1
    clear hc1
    go_wp2_with fail
    have h9 := small8_any vl (.slice ad d.length cd) l d w Ml.out Md.out Rl.out Rd.out Al.out Ad.out
    rw [HC1.out] at h9
    refine (h9).mono ?_
    rintro e w1 ⟨rfl, h5⟩
    have HX : Hid (Below w.heap.size w w1) := blThen (by repeat (first | with_reducible exact Below.refl _ _ | with_reducible refine blAlloc ?_ _ | with_reducible refine Below.drew ?_)) h5
    have HB_w1 := Lib.hid (HX.out)
    have Al := Lib.hid (Al.out.later HX.out)
    have Ad := Lib.hid (Ad.out.later HX.out)
    have AS := Lib.hid (AS.out.later HX.out)
    clear h5 HX h9
    go_wp2_with fail
    refine (live8_any w1).mono ?_
    rintro e w2 ⟨rfl, h5⟩
    have HX : Hid (Below w1.heap.size w1 w2) := blThen (by repeat (first | with_reducible exact Below.refl _ _ | with_reducible refine blAlloc ?_ _ | with_reducible refine Below.drew ?_)) h5
    have HB_w2 := Lib.hid (blThen HB_w1.out HX.out)
    have Al := Lib.hid (Al.out.later HX.out)
    have Ad := Lib.hid (Ad.out.later HX.out)
    have AS := Lib.hid (AS.out.later HX.out)
    clear h5 HX
    go_wp2
    go_ret
    exact ⟨rfl, HB_w2.out⟩
  · have HC1 := Lib.hid hc1
    clear hc1
    have HB1 := Lib.hid (smallB_len2 HC1.out)
    go_wp2_with fail
    have h9 := small8_any vl (.slice ad d.length cd) l d w Ml.out Md.out Rl.out Rd.out Al.out Ad.out
    rw [HC1.out] at h9
    refine (h9).mono ?_
    rintro e w1 ⟨rfl, h5⟩
    have HX : Hid (Below w.heap.size w w1) := blThen (by repeat (first | with_reducible exact Below.refl _ _ | with_reducible refine blAlloc ?_ _ | with_reducible refine Below.drew ?_)) h5
    have HB_w1 := Lib.hid (HX.out)
    have Al := Lib.hid (Al.out.later HX.out)
    have Ad := Lib.hid (Ad.out.later HX.out)
    have AS := Lib.hid (AS.out.later HX.out)
    clear h5 HX h9
    by_cases hi2 : 60 < S.length
    · have hds : decide ((60 : Int) < (S.length : Int)) = true := decide_eq_true (by omega)
      go_wp2_with fail
      refine (live8_any w1).mono ?_
      rintro e w2 ⟨rfl, h5⟩
      have HX : Hid (Below w1.heap.size w1 w2) := blThen (by repeat (first | with_reducible exact Below.refl _ _ | with_reducible refine blAlloc ?_ _ | with_reducible refine Below.drew ?_)) h5
      have HB_w2 := Lib.hid (blThen HB_w1.out HX.out)
      have Al := Lib.hid (Al.out.later HX.out)
      have Ad := Lib.hid (Ad.out.later HX.out)
      have AS := Lib.hid (AS.out.later HX.out)
      clear h5 HX
      go_wp2
      go_ret
      exact ⟨rfl, HB_w2.out⟩
    · have hds : decide ((60 : Int) < (S.length : Int)) = false := decide_eq_false (by omega)
      by_cases hc3 : checkP l = 0
      rotate_left
      · have hb3 : ((checkP l == 0) = false) := by simpa using hc3
        have hd3 : ((checkP l != 0) = true) := by simpa using hc3
        go_wp2_with fail
        have h9 := refcheck8_any vl l w1 (by have := HB1.out; omega) Al.out Nl.out
        refine (h9).mono ?_
        rintro e w2 ⟨rfl, h5⟩
        have HX : Hid (Below w1.heap.size w1 w2) := blThen (by repeat (first | with_reducible exact Below.refl _ _ | with_reducible refine blAlloc ?_ _ | with_reducible refine Below.drew ?_)) h5
        have HB_w2 := Lib.hid (blThen HB_w1.out HX.out)
        have Al := Lib.hid (Al.out.later HX.out)
        have Ad := Lib.hid (Ad.out.later HX.out)
        have AS := Lib.hid (AS.out.later HX.out)
        clear h5 HX h9
        go_wp2_with fail
        refine (live8_any w2).mono ?_
        rintro e w3 ⟨rfl, h5⟩
        have HX : Hid (Below w2.heap.size w2 w3) := blThen (by repeat (first | with_reducible exact Below.refl _ _ | with_reducible refine blAlloc ?_ _ | with_reducible refine Below.drew ?_)) h5
        have HB_w3 := Lib.hid (blThen HB_w2.out HX.out)
        have Al := Lib.hid (Al.out.later HX.out)
        have Ad := Lib.hid (Ad.out.later HX.out)
        have AS := Lib.hid (AS.out.later HX.out)
        clear h5 HX
        go_wp2
        go_ret
        exact ⟨rfl, HB_w3.out⟩
      · have HC3 := Lib.hid hc3
        clear hc3
        have HO3 := Lib.hid (okl_of HC3.out)
        go_wp2_with fail
        have h9 := refcheck8_any vl l w1 (by have := HB1.out; omega) Al.out Nl.out
        rw [HC3.out] at h9
        refine (h9).mono ?_
        rintro e w2 ⟨rfl, h5⟩
        have HX : Hid (Below w1.heap.size w1 w2) := blThen (by repeat (first | with_reducible exact Below.refl _ _ | with_reducible refine blAlloc ?_ _ | with_reducible refine Below.drew ?_)) h5
        have HB_w2 := Lib.hid (blThen HB_w1.out HX.out)
        have Al := Lib.hid (Al.out.later HX.out)
        have Ad := Lib.hid (Ad.out.later HX.out)
        have AS := Lib.hid (AS.out.later HX.out)
        clear h5 HX h9
        cases hc5 : dataB none d
        · have HC5 := Lib.hid hc5
          clear hc5
          go_wp2_with fail
          have h9 := rdata_any (.slice ad d.length cd) d w2 (show d.length ≤ 1000000 by have := HB1.out; omega) Nd.out Ad.out
          rw [HC5.out] at h9
          refine (h9).mono ?_
          rintro e w3 ⟨rfl, h5⟩
          have HX : Hid (Below w2.heap.size w2 w3) := blThen (by repeat (first | with_reducible exact Below.refl _ _ | with_reducible refine blAlloc ?_ _ | with_reducible refine Below.drew ?_)) h5
          have HB_w3 := Lib.hid (blThen HB_w2.out HX.out)
          have Al := Lib.hid (Al.out.later HX.out)
          have Ad := Lib.hid (Ad.out.later HX.out)
          have AS := Lib.hid (AS.out.later HX.out)
          clear h5 HX h9
          go_wp2_with fail
          refine (live8_any w3).mono ?_
          rintro e w4 ⟨rfl, h5⟩
          have HX : Hid (Below w3.heap.size w3 w4) := blThen (by repeat (first | with_reducible exact Below.refl _ _ | with_reducible refine blAlloc ?_ _ | with_reducible refine Below.drew ?_)) h5
          have HB_w4 := Lib.hid (blThen HB_w3.out HX.out)
          have Al := Lib.hid (Al.out.later HX.out)
          have Ad := Lib.hid (Ad.out.later HX.out)
          have AS := Lib.hid (AS.out.later HX.out)
          clear h5 HX
          go_wp2
          go_ret
          exact ⟨rfl, HB_w4.out⟩
        · have HC5 := Lib.hid hc5
          clear hc5
          have HD5 : Hid (Dat 60 d) := Lib.hid (dat_of HC5.out (show d.length ≤ 60 by have := HB1.out; omega))
          go_wp2_with fail
          have h9 := rdata_any (.slice ad d.length cd) d w2 (show d.length ≤ 1000000 by have := HB1.out; omega) Nd.out Ad.out
          rw [HC5.out] at h9
          refine (h9).mono ?_
          rintro e w3 ⟨rfl, h5⟩
          have HX : Hid (Below w2.heap.size w2 w3) := blThen (by repeat (first | with_reducible exact Below.refl _ _ | with_reducible refine blAlloc ?_ _ | with_reducible refine Below.drew ?_)) h5
          have HB_w3 := Lib.hid (blThen HB_w2.out HX.out)
          have Al := Lib.hid (Al.out.later HX.out)
          have Ad := Lib.hid (Ad.out.later HX.out)
          have AS := Lib.hid (AS.out.later HX.out)
          clear h5 HX h9
          have HLl : Hid (l.length ≤ 8) := HO3.out.1
          have HDT : Hid (Dat 60 d) := HD5
          have HSN : Hid (S.length ≤ 60) := Lib.hid (by omega)
          have HNU : Hid (Nums d) := Nd
          have HWN : Hid ((lastL (evalL d l)).length ≤ 16) := Lib.hid (HO3.out.last d).2
          have HUL : Hid ((uniL S).length ≤ 60) := Lib.hid (Nat.le_trans (uniL_len S) HSN.out)
          have HST := Lib.hid (uniL_set S)
          go_wp2_with fail
          refine (refunion_any (.slice aS S.length cS) S w3 (by have := HSN.out; omega) AS.out).mono ?_
          rintro e w4 ⟨x1, rfl, h1, h5⟩
          have HX : Hid (Below w3.heap.size w3 w4) := blThen (by repeat (first | with_reducible exact Below.refl _ _ | with_reducible refine blAlloc ?_ _ | with_reducible refine Below.drew ?_)) h5
          have HB_w4 := Lib.hid (blThen HB_w3.out HX.out)
          have Al := Lib.hid (Al.out.later HX.out)
          have Ad := Lib.hid (Ad.out.later HX.out)
          have AS := Lib.hid (AS.out.later HX.out)
          have HX1 := Lib.hid h1.sl
          clear h5 HX h1
          go_wp2_with fail
          refine (ops_any vl l w4 (by have := HLl.out; omega) Al.out).mono ?_
          rintro e w5 ⟨y1, rfl, h1, h5⟩
          have HX : Hid (Below w4.heap.size w4 w5) := blThen (by repeat (first | with_reducible exact Below.refl _ _ | with_reducible refine blAlloc ?_ _ | with_reducible refine Below.drew ?_)) h5
          have HB_w5 := Lib.hid (blThen HB_w4.out HX.out)
          have Al := Lib.hid (Al.out.later HX.out)
          have Ad := Lib.hid (Ad.out.later HX.out)
          have HX1 := Lib.hid (HX1.out.later HX.out)
          have HY1 := Lib.hid h1.sl
          clear h5 HX h1
          go_wp2_with fail
          refine (pairs_any (.slice ad d.length cd) d w5 (by have := HDT.out.2.2; omega) Ad.out).mono ?_
          rintro e w6 ⟨y2, rfl, h1, h5⟩
          have HX : Hid (Below w5.heap.size w5 w6) := blThen (by repeat (first | with_reducible exact Below.refl _ _ | with_reducible refine blAlloc ?_ _ | with_reducible refine Below.drew ?_)) h5
          have HB_w6 := Lib.hid (blThen HB_w5.out HX.out)
          have Al := Lib.hid (Al.out.later HX.out)
          have Ad := Lib.hid (Ad.out.later HX.out)
          have HX1 := Lib.hid (HX1.out.later HX.out)
          have HY1 := Lib.hid (HY1.out.later HX.out)
          have HY2 := Lib.hid h1.sl
          clear h5 HX h1
          go_wp2_with fail
          refine (ev_any y1 y2 l d w6 HDT.out (by omega) HO3.out Nl.out HY1.out HY2.out).mono ?_
          rintro e w7 ⟨v1, u1, r1, rfl, h1, h2, h3, h4, h5⟩
          have HX : Hid (Below w6.heap.size w6 w7) := blThen (by repeat (first | with_reducible exact Below.refl _ _ | with_reducible refine blAlloc ?_ _ | with_reducible refine Below.drew ?_)) h5
          have HB_w7 := Lib.hid (blThen HB_w6.out HX.out)
          have Al := Lib.hid (Al.out.later HX.out)
          have Ad := Lib.hid (Ad.out.later HX.out)
          have HX1 := Lib.hid (HX1.out.later HX.out)
          have HY1 := Lib.hid (HY1.out.later HX.out)
          have HY2 := Lib.hid (HY2.out.later HX.out)
          have HW1 := Lib.hid h1
          have HQ1 := Lib.hid h2
          have HF1 := Lib.hid h3
          have HS1 := Lib.hid h4
          clear h5 HX h1 h2 h3 h4
          go_wp2_with fail
          refine (reval_any ad cd vl l d w7 HDT.out HNU.out HO3.out Nl.out HCP.out Al.out Ad.out).mono ?_
          rintro e w8 ⟨v2, u2, r2, rfl, h1, h2, h3, h4, h5⟩
          have HX : Hid (Below w7.heap.size w7 w8) := blThen (by repeat (first | with_reducible exact Below.refl _ _ | with_reducible refine blAlloc ?_ _ | with_reducible refine Below.drew ?_)) h5
          have HB_w8 := Lib.hid (blThen HB_w7.out HX.out)
          have Al := Lib.hid (Al.out.later HX.out)
          have Ad := Lib.hid (Ad.out.later HX.out)
          have HX1 := Lib.hid (HX1.out.later HX.out)
          have HW1 := Lib.hid (HW1.out.later HX.out)
          have HQ1 := Lib.hid (HQ1.out.later HX.out)
          have HW2 := Lib.hid h1
          have HQ2 := Lib.hid h2
          have HF2 := Lib.hid h3
          have HS2 := Lib.hid h4
          clear h5 HX h1 h2 h3 h4
          go_wp2_with fail
          have h9 := wrsame_any v1 v2 (lastL (evalL d l)) (lastL (evalL d l)) w8 (by have := HWN.out; omega) (by have := HWN.out; omega) HW1.out HW2.out
          rw [decide_eq_true (show (lastL (evalL d l)) = (lastL (evalL d l)) from rfl)] at h9
          refine (h9).mono ?_
          rintro e w9 ⟨rfl, h5⟩
          have HX : Hid (Below w8.heap.size w8 w9) := blThen (by repeat (first | with_reducible exact Below.refl _ _ | with_reducible refine blAlloc ?_ _ | with_reducible refine Below.drew ?_)) h5
          have HB_w9 := Lib.hid (blThen HB_w8.out HX.out)
          have Al := Lib.hid (Al.out.later HX.out)
          have Ad := Lib.hid (Ad.out.later HX.out)
          have HX1 := Lib.hid (HX1.out.later HX.out)
          have HW1 := Lib.hid (HW1.out.later HX.out)
          have HQ1 := Lib.hid (HQ1.out.later HX.out)
          have HW2 := Lib.hid (HW2.out.later HX.out)
          have HQ2 := Lib.hid (HQ2.out.later HX.out)
          clear h5 HX h9
          go_wp2_with fail
          have h9 := ansame_any u1 u2 r1 r2 w9 HF1.out HF2.out HQ1.out HQ2.out
          rw [decide_eq_true (show r1.map AnR.ans = r2.map AnR.ans from HS1.out.trans HS2.out.symm)] at h9
          refine (h9).mono ?_
          rintro e w10 ⟨rfl, h5⟩
          have HX : Hid (Below w9.heap.size w9 w10) := blThen (by repeat (first | with_reducible exact Below.refl _ _ | with_reducible refine blAlloc ?_ _ | with_reducible refine Below.drew ?_)) h5
          have HB_w10 := Lib.hid (blThen HB_w9.out HX.out)
          have Al := Lib.hid (Al.out.later HX.out)
          have Ad := Lib.hid (Ad.out.later HX.out)
          have HX1 := Lib.hid (HX1.out.later HX.out)
          have HW1 := Lib.hid (HW1.out.later HX.out)
          have HQ1 := Lib.hid (HQ1.out.later HX.out)
          have HW2 := Lib.hid (HW2.out.later HX.out)
          have HQ2 := Lib.hid (HQ2.out.later HX.out)
          clear h5 HX h9
          go_wp2_with fail
          refine (pairs_any (.slice ad d.length cd) d w10 (by have := HDT.out.2.2; omega) Ad.out).mono ?_
          rintro e w11 ⟨y3, rfl, h1, h5⟩
          have HX : Hid (Below w10.heap.size w10 w11) := blThen (by repeat (first | with_reducible exact Below.refl _ _ | with_reducible refine blAlloc ?_ _ | with_reducible refine Below.drew ?_)) h5
          have HB_w11 := Lib.hid (blThen HB_w10.out HX.out)
          have Al := Lib.hid (Al.out.later HX.out)
          have Ad := Lib.hid (Ad.out.later HX.out)
          have HX1 := Lib.hid (HX1.out.later HX.out)
          have HW2 := Lib.hid (HW2.out.later HX.out)
          have HY3 := Lib.hid h1.sl
          clear h5 HX h1
          obtain ⟨a2, c2, rfl⟩ := HW2.out.form
          have HOE : Hid (OwnG eW 178 (w11.alloc (.cells #[] 178)) w11.heap.size (.slice (some ⟨w11.heap.size, 0, none⟩) 0 0) []) := Lib.hid (own_emptyG w11 178 _ _ rfl (Nat.le_refl _))
          have HBE : Hid (Below w11.heap.size w11 (w11.alloc (.cells #[] 178))) := Lib.hid (blAlloc (Below.refl _ _) _)
          have HWI := Lib.hid info_wr
          generalize hWL : lastL (evalL d l) = WL at *
          have HWL := Lib.hid hWL
          clear hWL
          go_wp2_with (at_builtin; go_must (refine S3.wpList_unguard (by rfl) ?_; refine append_G 75 _ 32 info_wr Tryz.underlying75 rfl (by decide) rfl _ _ rfl w11.heap.size _ [] rfl HOE.out _ WL rfl (HW2.out.later HBE.out) (by have := HWN.out; simp only [List.length_nil]; omega) HBE.out.size ?_; intro v8 w80 h1 h2; rw [List.nil_append] at h1; have HO8 := Lib.hid h1.sl; have HX : Hid (Below w11.heap.size w11 w80) := Lib.hid (grown_belowG HBE.out HOE.out (Nat.le_refl _) HBE.out.size h2); clear h1 h2))
          have HB_w80 := Lib.hid (blThen HB_w11.out HX.out)
          have Al := Lib.hid (Al.out.later HX.out)
          have Ad := Lib.hid (Ad.out.later HX.out)
          have HX1 := Lib.hid (HX1.out.later HX.out)
          have HW2 := Lib.hid (HW2.out.later HX.out)
          have HY3 := Lib.hid (HY3.out.later HX.out)
          clear HX HOE HBE HWI
          go_wp2_with fail
          refine (ap_any y3 v8 d WL w80 HDT.out (by omega) (by have := HWN.out; omega) (by rw [← HWL.out]; exact (HO3.out.last d).1) HY3.out HO8.out).mono ?_
          rintro e w81 ⟨p1, rfl, h1, h5⟩
          have HX : Hid (Below w80.heap.size w80 w81) := blThen (by repeat (first | with_reducible exact Below.refl _ _ | with_reducible refine blAlloc ?_ _ | with_reducible refine Below.drew ?_)) h5
          have HB_w81 := Lib.hid (blThen HB_w80.out HX.out)
          have Al := Lib.hid (Al.out.later HX.out)
          have Ad := Lib.hid (Ad.out.later HX.out)
          have HX1 := Lib.hid (HX1.out.later HX.out)
          have HW2 := Lib.hid (HW2.out.later HX.out)
          have HY3 := Lib.hid (HY3.out.later HX.out)
          have HO8 := Lib.hid (HO8.out.later HX.out)
          have HP1 := Lib.hid h1
          clear h5 HX h1
          go_wp2_with fail
          refine (rapply_any ad cd d (.slice a2 WL.length c2) WL w81 (by have := HDT.out.2.2; omega) (by have := HWN.out; omega) HCP.out HDT.out.1 Ad.out HW2.out).mono ?_
          rintro e w82 ⟨a5, c5, rfl, h0, h1, h5⟩
          have HX : Hid (Below w81.heap.size w81 w82) := blThen (by repeat (first | with_reducible exact Below.refl _ _ | with_reducible refine blAlloc ?_ _ | with_reducible refine Below.drew ?_)) h5
          have HB_w82 := Lib.hid (blThen HB_w81.out HX.out)
          have Al := Lib.hid (Al.out.later HX.out)
          have Ad := Lib.hid (Ad.out.later HX.out)
          have HX1 := Lib.hid (HX1.out.later HX.out)
          have HW2 := Lib.hid (HW2.out.later HX.out)
          have HP1 := Lib.hid (HP1.out.later HX.out)
          have HR5 := Lib.hid h1
          clear h5 HX h0 h1
          generalize hAP : applyP d WL = AP at *
          have HAPL : Hid (AP.length ≤ 1000000) := Lib.hid (by rw [← hAP]; have h1 := apply_len WL d; have := HWN.out; have := HDT.out.2.2; omega)
          clear hAP
          go_wp2_with fail
          have h9 := prsame_any p1 (.slice a5 AP.length c5) AP AP w82 HAPL.out HAPL.out HP1.out HR5.out
          rw [decide_eq_true (show AP = AP from rfl)] at h9
          refine (h9).mono ?_
          rintro e w83 ⟨rfl, h5⟩
          have HX : Hid (Below w82.heap.size w82 w83) := blThen (by repeat (first | with_reducible exact Below.refl _ _ | with_reducible refine blAlloc ?_ _ | with_reducible refine Below.drew ?_)) h5
          have HB_w83 := Lib.hid (blThen HB_w82.out HX.out)
          have Al := Lib.hid (Al.out.later HX.out)
          have Ad := Lib.hid (Ad.out.later HX.out)
          have HX1 := Lib.hid (HX1.out.later HX.out)
          have HP1 := Lib.hid (HP1.out.later HX.out)
          have HR5 := Lib.hid (HR5.out.later HX.out)
          clear h5 HX h9
          go_wp2_with fail
          refine (pairs_any (.slice ad d.length cd) d w83 (by have := HDT.out.2.2; omega) Ad.out).mono ?_
          rintro e w84 ⟨y4, rfl, h1, h5⟩
          have HX : Hid (Below w83.heap.size w83 w84) := blThen (by repeat (first | with_reducible exact Below.refl _ _ | with_reducible refine blAlloc ?_ _ | with_reducible refine Below.drew ?_)) h5
          have HB_w84 := Lib.hid (blThen HB_w83.out HX.out)
          have Al := Lib.hid (Al.out.later HX.out)
          have Ad := Lib.hid (Ad.out.later HX.out)
          have HX1 := Lib.hid (HX1.out.later HX.out)
          have HY4 := Lib.hid h1.sl
          clear h5 HX h1
          go_wp2_with fail
          refine (pk_any y4 x1 d (uniL S) w84 HDT.out (by omega) (by have := HUL.out; omega) HST.out HY4.out HX1.out).mono ?_
          rintro e w85 ⟨k1, rfl, h1, h5⟩
          have HX : Hid (Below w84.heap.size w84 w85) := blThen (by repeat (first | with_reducible exact Below.refl _ _ | with_reducible refine blAlloc ?_ _ | with_reducible refine Below.drew ?_)) h5
          have HB_w85 := Lib.hid (blThen HB_w84.out HX.out)
          have Al := Lib.hid (Al.out.later HX.out)
          have Ad := Lib.hid (Ad.out.later HX.out)
          have HX1 := Lib.hid (HX1.out.later HX.out)
          have HY4 := Lib.hid (HY4.out.later HX.out)
          have HK1 := Lib.hid h1
          clear h5 HX h1
          go_wp2_with fail
          refine (rpick_any (.slice ad d.length cd) x1 d (uniL S) w85 (by have := HDT.out.2.2; omega) (by have := HUL.out; omega) Ad.out HX1.out).mono ?_
          rintro e w86 ⟨k2, rfl, h1, h5⟩
          have HX : Hid (Below w85.heap.size w85 w86) := blThen (by repeat (first | with_reducible exact Below.refl _ _ | with_reducible refine blAlloc ?_ _ | with_reducible refine Below.drew ?_)) h5
          have HB_w86 := Lib.hid (blThen HB_w85.out HX.out)
          have Al := Lib.hid (Al.out.later HX.out)
          have Ad := Lib.hid (Ad.out.later HX.out)
          have HX1 := Lib.hid (HX1.out.later HX.out)
          have HK1 := Lib.hid (HK1.out.later HX.out)
          have HK2 := Lib.hid h1.sl
          clear h5 HX h1
          have HIL : Hid ((inA (memL (uniL S)) d).length ≤ 1000000) := Lib.hid (Nat.le_trans (inA_len _ _) (by have := HDT.out.2.2; omega))
          go_wp2_with fail
          have h9 := prsame_any k1 k2 (inA (memL (uniL S)) d) (inA (memL (uniL S)) d) w86 HIL.out HIL.out HK1.out HK2.out
          rw [decide_eq_true (show (inA (memL (uniL S)) d) = (inA (memL (uniL S)) d) from rfl)] at h9
          refine (h9).mono ?_
          rintro e w87 ⟨rfl, h5⟩
          have HX : Hid (Below w86.heap.size w86 w87) := blThen (by repeat (first | with_reducible exact Below.refl _ _ | with_reducible refine blAlloc ?_ _ | with_reducible refine Below.drew ?_)) h5
          have HB_w87 := Lib.hid (blThen HB_w86.out HX.out)
          have Al := Lib.hid (Al.out.later HX.out)
          have HK1 := Lib.hid (HK1.out.later HX.out)
          have HK2 := Lib.hid (HK2.out.later HX.out)
          clear h5 HX h9
          go_wp2_with fail
          refine (live8_any w87).mono ?_
          rintro e w88 ⟨rfl, h5⟩
          have HX : Hid (Below w87.heap.size w87 w88) := blThen (by repeat (first | with_reducible exact Below.refl _ _ | with_reducible refine blAlloc ?_ _ | with_reducible refine Below.drew ?_)) h5
          have HB_w88 := Lib.hid (blThen HB_w87.out HX.out)
          have Al := Lib.hid (Al.out.later HX.out)
          have HK1 := Lib.hid (HK1.out.later HX.out)
          have HK2 := Lib.hid (HK2.out.later HX.out)
          clear h5 HX
          go_wp2
          go_ret
          exact ⟨rfl, HB_w88.out⟩
end SP
end Go.Proofs.YtjlkgbejldcklaaGreat

namespace Go.Proofs.YtjlkgbejldcklaaGreat
open S3 SN
namespace SP
open Go.ChangeShapes Go.WideShapes Go.ChangeAt Go.RowKit Go.Joins Go.Deep
set_option maxRecDepth 100000
section
variable {H : Type} {enc : TypeId × Value → H}
theorem pairs_cap {r : Reach} {b0 : Nat} {w : World} {v : Value} {d : DataW H} {p : List MemPlace} (hv : Value.okWide Tryz.prog w r b0 71 v) (h : DataW.Trod enc Tryz.prog w 0 (fun _ => true) true 71 v d p) : ∀ a n c, v = .slice a n c → n ≤ c ∧ c ≤ maxLen := by
  intro a0 len0 cap0 e
  subst e
  obtain ⟨fuel, hf⟩ := h
  have hf' : DataW.trod enc Tryz.prog w 0 (fun _ => true) true fuel 71 [.slice a0 len0 cap0] = some (d, p) := by simpa [Value.cells] using hf
  rcases open_slice Tryz.underlying71 hf' with ⟨hcs, _⟩ | ⟨a, len, cap, m, n, D, Pl, hcs, _, hl, hm, hmm, hx, hi⟩
  · simp only [List.cons.injEq, Value.slice.injEq, and_true] at hcs
    obtain ⟨rfl, rfl, rfl⟩ := hcs
    exact ⟨Nat.le_refl _, Nat.zero_le _⟩
  · simp only [List.cons.injEq, Value.slice.injEq, and_true] at hcs
    obtain ⟨rfl, rfl, rfl⟩ := hcs
    exact ⟨hl, hm⟩
end
set_option maxRecDepth 100000 in
theorem txnEvals_lifted (os : Os) (started : os.Started) (H : Type) (enc : TypeId × Value → H) :
    ReturnsInHanded {} Tryz.checked os 6 .any (Rows.txnEvalsSpec.pre6 enc Tryz.prog Tryz.f6 Rows.txnEvalsRow.domain false) (Rows.txnEvalsSpec.post enc Tryz.prog Tryz.f6 false true false false) := by
  refine law_lift_sized (C := Tryz.checked) own0 started (by kernel_rfl) Tryz.func6 laid0 rfl (by kernel_rfl) (fun _ _ _ _ => trodAll_mk1 (shut_bool Tryz.underlying4 true)) (fun ds h => match ds, h with | [_, _, _], _ => ⟨rfl, rfl, rfl⟩)
    (ChangeSpec.witness6 (enc := enc) (C := Tryz.checked) false ⟨#[], #[.slice none 0 0, .slice none 0 0, .slice none 0 0], []⟩ 8 (by kernel_rfl) (by kernel_rfl) (by kernel_rfl) (by kernel_rfl)) ?_
  intro W base args ds before hval0 hA0 hlt hsz
  have hval : ∀ (j : Nat) t v, Tryz.f6.params[j]? = some t → args[j]? = some v → Value.okWide Tryz.prog W .any base t v := hval0
  have hA : DataW.TrodAll enc Tryz.prog W 0 (fun _ => true) true Tryz.f6.params.toList args.toList ds before := hA0
  rw [Tryz.params6] at hA hval
  obtain ⟨v0, v1, v2, d0, d1, d2, p0, p1, p2, rfl, rfl, rfl, h0, h1, h2⟩ := trodAll_three hA
  obtain ⟨l, ol, ml, rl⟩ := open_ops (hval 0 58 v0 rfl rfl) h0
  obtain ⟨d, od, md, rd⟩ := open_pairs (hval 1 71 v1 rfl rfl) h1
  have hcp := pairs_cap (hval 1 71 v1 rfl rfl) h1
  obtain ⟨S, oS, mS⟩ := open_spans (hval 2 72 v2 rfl rfl) h2
  obtain ⟨aS, cS, rfl⟩ := oS.form
  exact txnEvals_walk v0 l v1 d aS cS S W ml (fun o ho => ⟨inW_le8 (rl o ho).2.2.1 hsz (j := 0) (by kernel_rfl) rfl, inW_le8 (rl o ho).2.2.2 hsz (j := 0) (by kernel_rfl) rfl⟩) (fun o ho => (rl o ho).2.1) ol md (fun o ho => inW_le8 (rd o ho).2 hsz (j := 1) (by kernel_rfl) rfl) (fun o ho => (rd o ho).1) od oS mS (fun a n c e => (hcp a n c e).1)
theorem txnEvals_f_inPlace : (Rows.txnEvalsRow.inPlace == Tryz.prog.inPlace 6) = true := by kernel_rfl
theorem txnEvals_f_unfollowed : (Rows.txnEvalsRow.unfollowed == Tryz.prog.unfollowed 6) = true := by kernel_rfl
theorem txnEvals_f_recurses : (Rows.txnEvalsRow.recurses == Tryz.prog.recurses 6) = true := by kernel_rfl
theorem txnEvals_f_named : (Rows.txnEvalsRow.named == Tryz.prog.varsNamed 6) = true := by kernel_rfl
theorem txnEvals_laid : laidOutB Tryz.prog = true := by kernel_rfl
theorem txnEvals_rowed : mapsRowed Tryz.prog = true := by kernel_rfl
theorem txnEvals_closed : joinedFacts Tryz.prog 6 Tryz.f6 Rows.txnEvalsSpec Rows.txnEvalsRow = true := by
  unfold joinedFacts
  rw [txnEvals_laid, txnEvals_rowed, txnEvals_f_inPlace, txnEvals_f_unfollowed, txnEvals_f_recurses, txnEvals_f_named]
  kernel_rfl
theorem txnEvals_holds : Rows.TxnEvalsSaid :=
  OpenClaim.holds_of_wide 6 Tryz.f6 rfl rfl rfl rfl rfl rfl rfl ⟨rfl, rfl, rfl, rfl, rfl⟩ rfl rfl rfl rfl rfl (by kernel_rfl) Tryz.func6 txnEvals_closed
    (of_decide_eq_true (by kernel_rfl)) (by unfold Func.isWrapper; rw [if_neg (of_decide_eq_false (by kernel_rfl))]; exact ⟨rfl, rfl⟩)
    (fun os started H enc _ => txnEvals_lifted os started H enc)
#print axioms txnEvals_holds
end SP
end Go.Proofs.YtjlkgbejldcklaaGreat
