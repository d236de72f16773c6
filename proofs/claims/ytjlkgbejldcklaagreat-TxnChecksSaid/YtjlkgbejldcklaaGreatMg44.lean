/- The reference's Lay and Read of ops. Conditions: keys of at most a thousand bytes, some hundred thousand ops; at most twenty thousand bytes to read. -/
import Derived.Deep.RegionHeld3
import Derived.WalkSpells
import Derived.Test.YtjlkgbejldcklaaGreatMg43
import Derived.Test.YtjlkgbejldcklaaGreatMg40
import Derived.Test.YtjlkgbejldcklaaGreatMg25
/- The reference's Lay and Read of ops. Conditions: keys of at most a thousand bytes, some hundred thousand ops; at most twenty thousand bytes to read. -/
set_option linter.unusedVariables false
set_option linter.unusedSimpArgs false
namespace Go.Proofs.YtjlkgbejldcklaaGreat
open S3 SN
namespace SP
open Go.ChangeShapes Go.WideShapes Go.ChangeAt Go.RowKit Go.Joins Go.Deep

set_option maxRecDepth 100000 in
set_option maxHeartbeats 8000000 in
theorem rlay8_any (g : Option Nat) (v va : Value) (L : List UInt8) (l : List Opr) (w0 w : World) (hl : l.length ≤ 100000) (hk : ∀ o ∈ l, o.2.1.size ≤ 1000 ∧ o.2.2.1.size ≤ 1000) (hr : S2.Row w g v L) (ha : SlG eO w0 va l) (hb : Below w0.heap.size w0 w) (hg : ∀ k, g = some k → w0.heap.size ≤ k) (hlen : L.length ≤ 100000000) :
    Calls Tryz.prog 50 #[v, va] w (S2.Rowed w g (L ++ layP l)) := by
  obtain ⟨aS, cS, rfl⟩ := ha.form
  obtain ⟨a0, n0, c0, rfl⟩ := hr.form
  have HS := Lib.hid ha
  have HK := Lib.hid hk
  have HLL := Lib.hid hl
  have HLB := Lib.hid hlen
  have HR := Lib.hid hr
  have HB0 := Lib.hid hb
  have HG := Lib.hid hg
  have HN : Hid (L.length + 8 ≤ 1099511627776) := by show _ ≤ _; omega
  clear ha hk hl hr hlen hb hg
  go_enter Tryz.func50, Tryz.ntmps50
  go_wp2_with (go_at_call 107; refine (S2.rint_any _ g _ L (l.length : Int) HR.out HN.out).mono ?_; rintro e w1 ⟨v1, g1, rfl, h1, h2⟩; obtain ⟨a1, n1, c1, rfl⟩ := h1.form; have H1 := Lib.hid h1; have H2 := Lib.hid h2; clear h1 h2)
  go_loopw [0, 5] (fun v i wr => ∃ (k : Nat) (g' : Option Nat), k ≤ l.length ∧ i = .int .i64 k ∧ S2.Row wr g' v (L ++ S2.i8 l.length ++ (l.take k).flatMap layO) ∧ S2.RowStep g g' w wr) (fun _ i _ => l.length - (intOf i).toNat)
  case atStart => exact ⟨0, g1, Nat.zero_le _, rfl, by simpa using H1.out, H2.out⟩
  case round =>
    clear H1 H2
    obtain ⟨k, g', hk, rfl, hrk, hst⟩ := hrel
    have HST := Lib.hid hst
    obtain ⟨aj, nj, cj, rfl⟩ := hrk.form
    have HRK := Lib.hid hrk
    have HBK : Hid (Below w0.heap.size w0 wr) := HB0.out.trans (hst.below HB0.out.size HG.out)
    have hll := HLL.out
    have HGL : Hid ((L ++ S2.i8 l.length ++ (l.take k).flatMap layO).length ≤ 400000000) := by
      show _ ≤ _
      have h1 := layO_len_le (l.take k) (fun o ho => HK.out o (List.mem_of_mem_take ho))
      have := HLB.out
      rw [List.length_take] at h1
      rw [List.length_append, List.length_append, S2.i8_length]
      omega
    clear hst hrk
    by_cases hlt : k < l.length
    · obtain ⟨⟨kd, key, to_, nm⟩, hx⟩ := at_lt hlt
      obtain ⟨gb, o, hA, hgb, d0, d1, d2, d3⟩ := ops_at HS.out hx
      simp only at d0 d1 d2 d3
      have c0 := cell_in HBK.out hgb d0
      have c1 := cell_in HBK.out hgb d1
      have c2 := cell_in HBK.out hgb d2
      have c3 := cell_in HBK.out hgb d3
      have hk1 : (k : Int) < (l.length : Int) := by omega
      have hk0 : (0 : Int) ≤ (k : Int) := by omega
      have hdk : decide ((k : Int) < (l.length : Int)) = true := decide_eq_true hk1
      have HFT := Lib.hid (layO_take hx)
      have HKx : Hid (key.size ≤ 1000 ∧ to_.size ≤ 1000) := HK.out _ (List.mem_of_getElem? hx)
      clear hx d0 d1 d2 d3
      subst hA
      generalize hG : L ++ S2.i8 l.length ++ (l.take k).flatMap layO = G at *
      have HGE := Lib.hid hG
      clear hG
      have hob : (wr.alloc (.cells #[.int .i64 kd, .string key, .string to_, .int .u64 (nm : Int)] 94)).heap[wr.heap.size]? = some (.cells #[.int .i64 kd, .string key, .string to_, .int .u64 (nm : Int)] 94 (0, 0)) := by
        show (wr.heap.push _)[wr.heap.size]? = _
        rw [Array.getElem?_push_size]
      have HOB := Lib.hid (cells_four hob)
      have HSZ : Hid (wr.heap.size < (wr.alloc (.cells #[.int .i64 kd, .string key, .string to_, .int .u64 (nm : Int)] 94)).heap.size) := (by show _ < _; simp)
      have HPA : Hid (S2.Row (wr.alloc (.cells #[.int .i64 kd, .string key, .string to_, .int .u64 (nm : Int)] 94)) g' (.slice aj nj cj) G) := Lib.hid (HRK.out.before (S2.kAlloc (S2.Keeps.refl (fun _ => False) wr) _))
      have HPX : Hid (g' ≠ some wr.heap.size) := row_free HRK.out (Nat.le_refl _)
      have HSA : Hid (S2.RowStep g g' w (wr.alloc (.cells #[.int .i64 kd, .string key, .string to_, .int .u64 (nm : Int)] 94))) := HST.out.trans ((S2.RowStep.refl g' (wr.alloc (.cells #[.int .i64 kd, .string key, .string to_, .int .u64 (nm : Int)] 94))).before (S2.kAlloc (S2.Keeps.refl (fun _ => False) wr) _))
      have HL1 : Hid (G.length + 8 ≤ 1099511627776) := by have := HGL.out; show _ ≤ _; omega
      have HL2 : Hid ((G ++ S2.i8 kd).length + key.size + 8 ≤ 1099511627776) := by have := HGL.out; have := HKx.out; show _ ≤ _; rw [List.length_append, S2.i8_length]; omega
      have HL3 : Hid ((G ++ S2.i8 kd ++ S2.tx key).length + to_.size + 8 ≤ 1099511627776) := by have := HGL.out; have := HKx.out; show _ ≤ _; rw [List.length_append, List.length_append, S2.i8_length, S2.tx_length]; omega
      have HL4 : Hid ((G ++ S2.i8 kd ++ S2.tx key ++ S2.tx to_).length + 8 ≤ 1099511627776) := by have := HGL.out; have := HKx.out; show _ ≤ _; rw [List.length_append, List.length_append, List.length_append, S2.i8_length, S2.tx_length, S2.tx_length]; omega
      clear hob
      go_wp2_with fail
      go_region_held3 (fun Y => Y.cell? ⟨wr.heap.size, 0, none⟩ = some (.int .i64 kd) ∧ Y.cell? ⟨wr.heap.size, 1, none⟩ = some (.string key) ∧ Y.cell? ⟨wr.heap.size, 2, none⟩ = some (.string to_) ∧ Y.cell? ⟨wr.heap.size, 3, none⟩ = some (.int .u64 (nm : Int)))
        (first | exact HZ5.out | exact HZ4.out | exact HZ3.out | exact HZ2.out | exact HOB.out)
        (first
          | (have htok := HZ4; clear htok; go_at_call 107; go_must (refine (S2.rint_any _ g4 _ _ (IntKind.i64.wrap (nm : Int)) HR4.out HL4.out).mono ?_; rintro e w5 ⟨v5, g5, rfl, h1, h2⟩; rw [IntWalk.i64_left] at h1; obtain ⟨a5, n5, c5, rfl⟩ := h1.form; have HR5 := Lib.hid h1; have HS5 := Lib.hid (HS4.out.trans h2); have HZ5 : Hid (_ ∧ _ ∧ _ ∧ _) := Lib.hid ⟨rs_cell h2 HF4.out HZ4.out.1, rs_cell h2 HF4.out HZ4.out.2.1, rs_cell h2 HF4.out HZ4.out.2.2.1, rs_cell h2 HF4.out HZ4.out.2.2.2⟩; clear h1 h2))
          | (have htok := HZ3; clear htok; go_at_call 138; go_must (refine (S2.rtext_any _ g3 _ _ to_ HR3.out (by have := HKx.out; omega) HL3.out).mono ?_; rintro e w4 ⟨v4, g4, rfl, h1, h2⟩; obtain ⟨a4, n4, c4, rfl⟩ := h1.form; have HR4 := Lib.hid h1; have HS4 := Lib.hid (HS3.out.trans h2); have HZ4 : Hid (_ ∧ _ ∧ _ ∧ _) := Lib.hid ⟨rs_cell h2 HF3.out HZ3.out.1, rs_cell h2 HF3.out HZ3.out.2.1, rs_cell h2 HF3.out HZ3.out.2.2.1, rs_cell h2 HF3.out HZ3.out.2.2.2⟩; have HF4 := Lib.hid (rs_free h2 HF3.out (World.block_lt_of_cell? _ _ HZ3.out.1)); clear h1 h2))
          | (have htok := HZ2; clear htok; go_at_call 138; go_must (refine (S2.rtext_any _ g2 _ _ key HR2.out (by have := HKx.out; omega) HL2.out).mono ?_; rintro e w3 ⟨v3, g3, rfl, h1, h2⟩; obtain ⟨a3, n3, c3', rfl⟩ := h1.form; have HR3 := Lib.hid h1; have HS3 := Lib.hid (HS2.out.trans h2); have HZ3 : Hid (_ ∧ _ ∧ _ ∧ _) := Lib.hid ⟨rs_cell h2 HF2.out HZ2.out.1, rs_cell h2 HF2.out HZ2.out.2.1, rs_cell h2 HF2.out HZ2.out.2.2.1, rs_cell h2 HF2.out HZ2.out.2.2.2⟩; have HF3 := Lib.hid (rs_free h2 HF2.out (World.block_lt_of_cell? _ _ HZ2.out.1)); clear h1 h2))
          | (go_at_call 107; go_must (refine (S2.rint_any _ g' _ G kd (HPA.out.before (S2.Keeps.drew _ _)) HL1.out).mono ?_; rintro e w2 ⟨v2, g2, rfl, h1, h2'⟩; have h2 := h2'.before (w := (wr.alloc (.cells #[.int .i64 kd, .string key, .string to_, .int .u64 (nm : Int)] 94))) (S2.Keeps.drew _ _); clear h2'; obtain ⟨a2, n2, c2', rfl⟩ := h1.form; have HR2 := Lib.hid h1; have HS2 := Lib.hid (HSA.out.trans h2); have HZ2 : Hid (_ ∧ _ ∧ _ ∧ _) := Lib.hid ⟨rs_cell h2 HPX.out HOB.out.1, rs_cell h2 HPX.out HOB.out.2.1, rs_cell h2 HPX.out HOB.out.2.2.1, rs_cell h2 HPX.out HOB.out.2.2.2⟩; have HF2 := Lib.hid (rs_free h2 HPX.out HSZ.out); clear h1 h2)))
      all_goals
        go_wp2
        go_roundw
        case rel =>
          refine ⟨k + 1, g5, hlt, by go_num, ?_, HS5.out⟩
          have h5 := HR5.out
          have e : G ++ S2.i8 kd ++ S2.tx key ++ S2.tx to_ ++ S2.i8 (wrap64 (nm : Int)) = L ++ S2.i8 l.length ++ (l.take (k + 1)).flatMap layO := by
            rw [HFT.out, ← List.append_assoc, HGE.out]
            unfold layO
            simp [List.append_assoc]
          rw [← e]
          exact h5
        case measure => simp [intOf]; omega
    · have hge : ¬ (k : Int) < (l.length : Int) := by omega
      have hdk : decide ((k : Int) < (l.length : Int)) = false := decide_eq_false hge
      have HT : Hid (L ++ S2.i8 l.length ++ (l.take k).flatMap layO = L ++ layP l) := by
        show _ = _
        rw [List.take_of_length_le (by omega), List.append_assoc]
        rfl
      rw [HT.out] at HRK
      go_wp2
      go_ret
      exact ⟨_, g', rfl, HRK.out, HST.out⟩

theorem op_cs (x : Int) (y z : ByteArray) (n : Int) : (#[.int .i64 x, .string y, .string z, .int .u64 (IntKind.u64.wrap n)] : Array Value) = (eO.enc (x, y, z, u64 n)).toArray := by
  rw [← u64_int]
  rfl
/-- What the reference's Read comes to: ops that are a call's own; where the bytes of a transaction stand, they are its. -/
def ReadO (w : World) (b g : Nat) (B : List UInt8) (i0 : Nat) (bl0 : Bool) (e : Ending) (w' : World) : Prop :=
  ∃ v F i bl, e = .returned v ∧ OwnOp w' w.heap.size v F ∧ F.length ≤ 9 ∧ (∀ o ∈ F, o.2.2.2 < 18446744073709551616) ∧ S2.RAt w' b g B i bl ∧ S2.Keeps (S2.Only b) w w' ∧ Fr (cO.list.upto 8) B i0 bl0 F i bl ∧ Rise i0 bl0 i bl

set_option maxRecDepth 100000 in
set_option maxHeartbeats 8000000 in
theorem rread8_any (w : World) (b g : Nat) (B : List UInt8) (i0 : Nat) (bl0 : Bool) (he : S2.RAt w b g B i0 bl0) :
    Calls Tryz.prog 131 #[.pointer (some ⟨b, 0, none⟩)] w (ReadO w b g B i0 bl0) := by
  have HE0 := Lib.hid he
  have HBL : Hid (b < w.heap.size) := he.lt
  have HGL : Hid (B ≠ [] → g < w.heap.size) := fun h => he.lt2 h
  clear he
  go_enter Tryz.func131, Tryz.ntmps131
  go_wp2_with fail
  refine (xint_any HE0.out).mono ?_
  rintro e w1 ⟨N, i1, b1, rfl, he1, hk1, hf1, hr1⟩
  have HE1 := Lib.hid he1
  have HK1 := Lib.hid hk1
  have HF1 := Lib.hid (Lp.start (k := cO) hf1)
  have HR1 := Lib.hid hr1
  clear he1 hk1 HE0 hf1 hr1
  go_wp2
  go_loopw [4, 5] (fun v i wr => ∃ (F : List Opr) (ip : Nat) (bl : Bool), i = .int .i64 F.length ∧ F.length ≤ 9 ∧ (∀ o ∈ F, o.2.2.2 < 18446744073709551616) ∧ OwnOp wr w.heap.size v F ∧ S2.RAt wr b g B ip bl ∧ S2.Keeps (S2.Only b) w wr ∧ Lp cO B i0 bl0 N F ip bl ∧ Rise i0 bl0 ip bl) (fun _ i _ => 9 - (intOf i).toNat)
  case atStart => exact ⟨[], i1, b1, rfl, Nat.zero_le _, fun o ho => (by cases ho), OwnG.nil _ _, HE1.out, HK1.out, HF1.out, HR1.out⟩
  case round =>
    clear HE1 HK1 HF1 HR1
    obtain ⟨F, ip, bl, rfl, hk9, hnm, ho, he, hkk, hlp, hrs⟩ := hrel
    have HO := Lib.hid ho
    have HNM := Lib.hid hnm
    have HE := Lib.hid he
    have HK := Lib.hid hkk
    have HLP := Lib.hid hlp
    have HRS := Lib.hid hrs
    obtain ⟨av, cv, rfl⟩ := ho.form
    have hsize := hkk.size
    obtain ⟨ea, ec, _, e0, e1, e2, f1, f2, _, _, _⟩ := he.cells
    clear ho hnm he hkk hlp hrs
    have hk0 : (0 : Int) ≤ (F.length : Int) := by omega
    by_cases hlt : (F.length : Int) < N
    · have hd1 : decide ((F.length : Int) < N) = true := decide_eq_true hlt
      cases bl
      · by_cases h8 : F.length ≤ 8
        · have hd8 : (F.length : Int) ≤ 8 := by omega
          have hdd8 : decide ((F.length : Int) ≤ 8) = true := decide_eq_true hd8
          have HLT := Lib.hid hlt
          have hF6 : F.length ≤ 1000000 := by omega
          go_wp2_with (first
            | (at_builtin; go_must (refine append_G 58 _ 48 info_op Tryz.underlying58 rfl (by decide) rfl _ _ rfl w.heap.size _ F rfl (ownG_keep HO.out HBL.out HKW.out) _ [(x3, x4, x5, u64 x6)] rfl (one_G eO _ _ (x3, x4, x5, u64 x6) _ _ (op_cs x3 x4 x5 x6) (by simp [World.setCell])) (by simp only [List.length_cons, List.length_nil]; omega) (Nat.le_trans hsize HKW.out.size) ?_; intro v7 w7 h1 h2; have HO7 := Lib.hid h1; have HG7 := Lib.hid h2; clear h1 h2))
            | (have htok := HE5B; clear htok; go_at_call 193; go_must (refine (xint_any HE5B.out).mono ?_; rintro e w6 ⟨x6, i6, b6, rfl, h1, h2, h3, h4⟩; have HE6 := Lib.hid h1; have HK6 := Lib.hid (HK5B.out.then h2); have HF6 := Lib.hid (fr_num h3); have HR6 := Lib.hid (HR5.out.trans h4); have HBX := Lib.hid ((h2.block w5.heap.size (by simp) (fun e => HNB5.out e)).trans HB5.out); obtain ⟨z0, z1, z2, z3⟩ := cells_four HBX.out; obtain ⟨q0, q1, q2, q3⟩ := frozen_four HBX.out; have hrs6 := lt_of_block HBX.out; have HKW := Lib.hid (S2.kAlloc (S2.kSet (p := ⟨w5.heap.size, 3, none⟩) HK6.out (.inr HK5.out.size) (.int .u64 (IntKind.u64.wrap x6))) (.cells #[.int .i64 x3, .string x4, .string x5, .int .u64 (IntKind.u64.wrap x6)] 94)); have HEW := Lib.hid ((HE6.out.keep (S2.kSet (p := ⟨w5.heap.size, 3, none⟩) (S2.Keeps.refl (fun x => x = w5.heap.size) w6) (.inl rfl) (.int .u64 (IntKind.u64.wrap x6))) (fun e => HNB5.out e.symm) (fun hne e => by have := HGL.out hne; have := HK5.out.size; have := hsize; omega)).before (S2.kAlloc (S2.Keeps.refl _ _) (.cells #[.int .i64 x3, .string x4, .string x5, .int .u64 (IntKind.u64.wrap x6)] 94))); clear h1 h2 h3 h4))
            | (have htok := HE4; clear htok; go_at_call 206; go_must (refine (xtext_any HE4.out).mono ?_; rintro e w5 ⟨x5, i5, b5, rfl, h1, h2, h3, h4⟩; have HK5 := Lib.hid (HK4.out.then h2); have HF5 := Lib.hid h3; have HR5 := Lib.hid (HR4.out.trans h4); have HE5B := Lib.hid (h1.before (S2.kAlloc (S2.Keeps.refl _ _) (.cells #[.int .i64 x3, .string x4, .string x5, .int .u64 0] 94))); have HK5B := Lib.hid (S2.kAlloc HK5.out (.cells #[.int .i64 x3, .string x4, .string x5, .int .u64 0] 94)); have HNB5 : Hid (¬ S2.Only b w5.heap.size) := (fun e => by have e2 : w5.heap.size = b := e; have := HBL.out; have := HK5.out.size; have := hsize; omega); have HB5 : Hid ((w5.alloc (.cells #[.int .i64 x3, .string x4, .string x5, .int .u64 0] 94)).heap[w5.heap.size]? = some (.cells #[.int .i64 x3, .string x4, .string x5, .int .u64 0] 94 (0, 0))) := Lib.hid (by show (w5.heap.push _)[w5.heap.size]? = _; rw [Array.getElem?_push_size]); clear h1 h2 h3 h4))
            | (have htok := HE3; clear htok; go_at_call 206; go_must (refine (xtext_any HE3.out).mono ?_; rintro e w4 ⟨x4, i4, b4, rfl, h1, h2, h3, h4⟩; have HE4 := Lib.hid h1; have HK4 := Lib.hid (HK3.out.then h2); have HF4 := Lib.hid h3; have HR4 := Lib.hid (HR3.out.trans h4); clear h1 h2 h3 h4))
            | (go_at_call 193; go_must (refine (xint_any HE.out).mono ?_; rintro e w3 ⟨x3, i3, b3, rfl, h1, h2, h3, h4⟩; have HE3 := Lib.hid h1; have HK3 := Lib.hid h2; have HF3 := Lib.hid h3; have HR3 := Lib.hid h4; clear h1 h2 h3 h4 e0 e1 e2 f1 f2)))
          have HOB := Lib.hid (HO.out.block)
          have HE7 := Lib.hid (rat_kept HEW.out HG7.out (fun e => by have := (HOB.out b e).1; have := HBL.out; omega) (fun hne e => by have := (HOB.out g e).1; have := HGL.out hne; omega))
          have HK7 := Lib.hid (keeps_afterO (HK.out.then HKW.out) HG7.out (fun k hk => (HOB.out k hk).1))
          clear HOB HG7 HKW HEW
          go_roundw
          case rel =>
            refine ⟨F ++ [(x3, x4, x5, u64 x6)], i6, b6, by rw [List.length_append, List.length_singleton]; go_num, by rw [List.length_append, List.length_singleton]; omega, fun o ho => ?_, HO7.out, HE7.out, HK7.out, HLP.out.step HLT.out (HF3.out.two (HF4.out.two (HF5.out.two HF6.out))), HRS.out.trans HR6.out⟩
            rcases List.mem_append.1 ho with ho | ho
            · exact HNM.out o ho
            · rw [List.mem_singleton] at ho
              subst ho
              exact u64_lt x6
          case measure => simp [intOf]; omega
        · have hd8 : ¬ (F.length : Int) ≤ 8 := by omega
          have hdd8 : decide ((F.length : Int) ≤ 8) = false := decide_eq_false hd8
          go_wp2
          go_ret
          exact ⟨_, F, ip, _, rfl, HO.out, hk9, HNM.out, HE.out, HK.out, HLP.out.upto (.inr (.inr (by omega))), HRS.out⟩
      · go_wp2
        go_ret
        exact ⟨_, F, ip, _, rfl, HO.out, hk9, HNM.out, HE.out, HK.out, HLP.out.upto (.inr (.inl rfl)), HRS.out⟩
    · have hd1 : decide ((F.length : Int) < N) = false := decide_eq_false hlt
      go_wp2
      go_ret
      exact ⟨_, F, ip, _, rfl, HO.out, hk9, HNM.out, HE.out, HK.out, HLP.out.upto (.inl (by omega)), HRS.out⟩

end SP
end Go.Proofs.YtjlkgbejldcklaaGreat
