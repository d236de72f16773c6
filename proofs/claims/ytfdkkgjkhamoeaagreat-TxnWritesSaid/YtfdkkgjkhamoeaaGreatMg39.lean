/- TxnWrites: writes of unlike keys may be done in any order; the last one of a key counts. Conditions: the law's own. -/
import Derived.Deep.RegionHeld3
import Derived.WalkSpells
import Derived.Test.YtfdkkgjkhamoeaaGreatMg38
import Derived.Test.YtfdkkgjkhamoeaaGreatMg35
/- TxnWrites: writes of unlike keys may be done in any order; the last one of a key counts. Conditions: the law's own. -/
set_option linter.unusedVariables false
set_option linter.unusedSimpArgs false
namespace Go.Proofs.YtfdkkgjkhamoeaaGreat
open S3 SN
namespace SP
open Go.ChangeShapes Go.WideShapes Go.ChangeAt Go.RowKit Go.Joins Go.Deep

set_option maxRecDepth 100000 in
set_option maxHeartbeats 32000000 in
theorem txnWrites_walk (vd : Value) (d : Al Nat) (ka kb : ByteArray) (na nb : Nat) (ga gb : Bool) (w : World) (hmd : d.length ≤ 9223372036854775807) (hrd : ∀ p ∈ d, p.1.size ≤ 140737488355328) (hnd : ∀ p ∈ d, p.2 < 18446744073709551616) (hd : SlG eP w vd d) :
    Calls Tryz.prog 12 #[vd, .agg #[.string ka, .int .u64 (na : Int), .bool ga], .agg #[.string kb, .int .u64 (nb : Int), .bool gb]] w fun e w' => e = .returned (.bool true) ∧ Below w.heap.size w w' := by
  have Md := Lib.hid hmd
  have Rd := Lib.hid hrd
  have Nd := Lib.hid hnd
  have HB0 : Hid (Below w.heap.size w ((w.alloc (.cells #[.string ka, .int .u64 (na : Int), .bool ga] 61)).alloc (.cells #[.string kb, .int .u64 (nb : Int), .bool gb] 61))) := Lib.hid (blAlloc (blAlloc (Below.refl _ _) _) _)
  have Ad := Lib.hid (hd.later HB0.out)
  have KA : Hid (∀ Y : World, Below ((w.alloc (.cells #[.string ka, .int .u64 (na : Int), .bool ga] 61)).alloc (.cells #[.string kb, .int .u64 (nb : Int), .bool gb] 61)).heap.size ((w.alloc (.cells #[.string ka, .int .u64 (na : Int), .bool ga] 61)).alloc (.cells #[.string kb, .int .u64 (nb : Int), .bool gb] 61)) Y → (Y.cell? ⟨w.heap.size, 0, none⟩ = some (.string ka) ∧ Y.cell? ⟨w.heap.size, 1, none⟩ = some (.int .u64 (na : Int)) ∧ Y.cell? ⟨w.heap.size, 2, none⟩ = some (.bool ga) ∧ Y.cell? ⟨w.heap.size + 1, 0, none⟩ = some (.string kb) ∧ Y.cell? ⟨w.heap.size + 1, 1, none⟩ = some (.int .u64 (nb : Int)) ∧ Y.cell? ⟨w.heap.size + 1, 2, none⟩ = some (.bool gb))) := Lib.hid fun Y hY => by
    have h1 : ((w.alloc (.cells #[.string ka, .int .u64 (na : Int), .bool ga] 61)).alloc (.cells #[.string kb, .int .u64 (nb : Int), .bool gb] 61)).heap[w.heap.size]? = some (.cells #[.string ka, .int .u64 (na : Int), .bool ga] 61 (0, 0)) := by
      show ((w.heap.push _).push _)[w.heap.size]? = _
      simp [Array.getElem?_push]
    have h2 : ((w.alloc (.cells #[.string ka, .int .u64 (na : Int), .bool ga] 61)).alloc (.cells #[.string kb, .int .u64 (nb : Int), .bool gb] 61)).heap[w.heap.size + 1]? = some (.cells #[.string kb, .int .u64 (nb : Int), .bool gb] 61 (0, 0)) := by
      have h : ((w.heap.push (.cells #[.string ka, .int .u64 (na : Int), .bool ga] 61 (0, 0))).push (.cells #[.string kb, .int .u64 (nb : Int), .bool gb] 61 (0, 0)))[(w.heap.push (.cells #[.string ka, .int .u64 (na : Int), .bool ga] 61 (0, 0))).size]? = some (.cells #[.string kb, .int .u64 (nb : Int), .bool gb] 61 (0, 0)) := Array.getElem?_push_size
      rw [Array.size_push] at h
      exact h
    have l1 := lt_of_block h1
    have l2 := lt_of_block h2
    have cc : ∀ (j k : Nat) (v : Value), ((w.alloc (.cells #[.string ka, .int .u64 (na : Int), .bool ga] 61)).alloc (.cells #[.string kb, .int .u64 (nb : Int), .bool gb] 61)).cell? ⟨j, k, none⟩ = some v → j < ((w.alloc (.cells #[.string ka, .int .u64 (na : Int), .bool ga] 61)).alloc (.cells #[.string kb, .int .u64 (nb : Int), .bool gb] 61)).heap.size → Y.cell? ⟨j, k, none⟩ = some v := fun j k v h hj => cell_in hY hj h
    refine ⟨cc _ _ _ ?_ l1, cc _ _ _ ?_ l1, cc _ _ _ ?_ l1, cc _ _ _ ?_ l2, cc _ _ _ ?_ l2, cc _ _ _ ?_ l2⟩ <;> first | (simp only [World.cell?, h1]; rfl) | (simp only [World.cell?, h2]; rfl)
  clear hmd hrd hnd hd
  go_enter Tryz.func12, Tryz.ntmps12
  go_wp2_with fail
  generalize ((w.alloc (.cells #[.string ka, .int .u64 (na : Int), .bool ga] 61)).alloc (.cells #[.string kb, .int .u64 (nb : Int), .bool gb] 61)) = w0 at *
  cases hc1 : smallB [] d
  · have HC1 := Lib.hid hc1
    clear hc1
    go_wp2_with fail
    have h9 := small8_any (.slice none 0 0) vd [] d w0 (by decide) Md.out (fun o ho => by cases ho) Rd.out (SlG.nil _) Ad.out
    rw [HC1.out] at h9
    refine (h9).mono ?_
    rintro e w1 ⟨rfl, h5⟩
    have HX : Hid (Below w0.heap.size w0 w1) := blThen (by repeat (first | with_reducible exact Below.refl _ _ | with_reducible refine blAlloc ?_ _ | with_reducible refine Below.drew ?_)) h5
    have HB_w1 := Lib.hid (HX.out)
    have Ad := Lib.hid (Ad.out.later HX.out)
    clear h5 HX h9
    go_wp2_with fail
    refine (live8_any w1).mono ?_
    rintro e w2 ⟨rfl, h5⟩
    have HX : Hid (Below w1.heap.size w1 w2) := blThen (by repeat (first | with_reducible exact Below.refl _ _ | with_reducible refine blAlloc ?_ _ | with_reducible refine Below.drew ?_)) h5
    have HB_w2 := Lib.hid (blThen HB_w1.out HX.out)
    have Ad := Lib.hid (Ad.out.later HX.out)
    clear h5 HX
    go_wp2
    go_ret
    exact ⟨rfl, blThen HB0.out HB_w2.out⟩
  · have HC1 := Lib.hid hc1
    clear hc1
    have HB1 := Lib.hid (smallB_len2 HC1.out)
    go_wp2_with fail
    have h9 := small8_any (.slice none 0 0) vd [] d w0 (by decide) Md.out (fun o ho => by cases ho) Rd.out (SlG.nil _) Ad.out
    rw [HC1.out] at h9
    refine (h9).mono ?_
    rintro e w1 ⟨rfl, h5⟩
    have HX : Hid (Below w0.heap.size w0 w1) := blThen (by repeat (first | with_reducible exact Below.refl _ _ | with_reducible refine blAlloc ?_ _ | with_reducible refine Below.drew ?_)) h5
    have HB_w1 := Lib.hid (HX.out)
    have Ad := Lib.hid (Ad.out.later HX.out)
    clear h5 HX h9
    cases hc5 : dataB none d
    · have HC5 := Lib.hid hc5
      clear hc5
      go_wp2_with fail
      have h9 := rdata_any vd d w1 (show d.length ≤ 1000000 by have := HB1.out; omega) Nd.out Ad.out
      rw [HC5.out] at h9
      refine (h9).mono ?_
      rintro e w2 ⟨rfl, h5⟩
      have HX : Hid (Below w1.heap.size w1 w2) := blThen (by repeat (first | with_reducible exact Below.refl _ _ | with_reducible refine blAlloc ?_ _ | with_reducible refine Below.drew ?_)) h5
      have HB_w2 := Lib.hid (blThen HB_w1.out HX.out)
      have Ad := Lib.hid (Ad.out.later HX.out)
      clear h5 HX h9
      go_wp2_with fail
      refine (live8_any w2).mono ?_
      rintro e w3 ⟨rfl, h5⟩
      have HX : Hid (Below w2.heap.size w2 w3) := blThen (by repeat (first | with_reducible exact Below.refl _ _ | with_reducible refine blAlloc ?_ _ | with_reducible refine Below.drew ?_)) h5
      have HB_w3 := Lib.hid (blThen HB_w2.out HX.out)
      have Ad := Lib.hid (Ad.out.later HX.out)
      clear h5 HX
      go_wp2
      go_ret
      exact ⟨rfl, blThen HB0.out HB_w3.out⟩
    · have HC5 := Lib.hid hc5
      clear hc5
      have HD5 : Hid (Dat 60 d) := Lib.hid (dat_of HC5.out (show d.length ≤ 60 by have := HB1.out; omega))
      go_wp2_with fail
      have h9 := rdata_any vd d w1 (show d.length ≤ 1000000 by have := HB1.out; omega) Nd.out Ad.out
      rw [HC5.out] at h9
      refine (h9).mono ?_
      rintro e w2 ⟨rfl, h5⟩
      have HX : Hid (Below w1.heap.size w1 w2) := blThen (by repeat (first | with_reducible exact Below.refl _ _ | with_reducible refine blAlloc ?_ _ | with_reducible refine Below.drew ?_)) h5
      have HB_w2 := Lib.hid (blThen HB_w1.out HX.out)
      have Ad := Lib.hid (Ad.out.later HX.out)
      clear h5 HX h9
      cases hc7 : keyB ka
      · have HC7 := Lib.hid hc7
        clear hc7
        obtain ⟨ca0, ca1, ca2, cb0, cb1, cb2⟩ := KA.out _ HB_w2.out
        have h9 := refkey_any ka w2
        rw [HC7.out] at h9
        go_wp2_with fail
        refine h9.mono ?_
        rintro e wq ⟨rfl, rfl⟩
        clear h9
        go_wp2_with fail
        refine (live8_any w2).mono ?_
        rintro e w3 ⟨rfl, h5⟩
        have HX : Hid (Below w2.heap.size w2 w3) := blThen (by repeat (first | with_reducible exact Below.refl _ _ | with_reducible refine blAlloc ?_ _ | with_reducible refine Below.drew ?_)) h5
        have HB_w3 := Lib.hid (blThen HB_w2.out HX.out)
        have Ad := Lib.hid (Ad.out.later HX.out)
        clear h5 HX
        go_wp2
        go_ret
        exact ⟨rfl, blThen HB0.out HB_w3.out⟩
      · have HC7 := Lib.hid hc7
        clear hc7
        obtain ⟨ca0, ca1, ca2, cb0, cb1, cb2⟩ := KA.out _ HB_w2.out
        have h9 := refkey_any ka w2
        rw [HC7.out] at h9
        go_wp2_with fail
        refine h9.mono ?_
        rintro e wq ⟨rfl, rfl⟩
        clear h9
        cases hc8 : keyB kb
        · have HC8 := Lib.hid hc8
          clear hc8
          obtain ⟨ca0, ca1, ca2, cb0, cb1, cb2⟩ := KA.out _ HB_w2.out
          have h9 := refkey_any kb w2
          rw [HC8.out] at h9
          go_wp2_with fail
          refine h9.mono ?_
          rintro e wq ⟨rfl, rfl⟩
          clear h9
          go_wp2_with fail
          refine (live8_any w2).mono ?_
          rintro e w3 ⟨rfl, h5⟩
          have HX : Hid (Below w2.heap.size w2 w3) := blThen (by repeat (first | with_reducible exact Below.refl _ _ | with_reducible refine blAlloc ?_ _ | with_reducible refine Below.drew ?_)) h5
          have HB_w3 := Lib.hid (blThen HB_w2.out HX.out)
          have Ad := Lib.hid (Ad.out.later HX.out)
          clear h5 HX
          go_wp2
          go_ret
          exact ⟨rfl, blThen HB0.out HB_w3.out⟩
        · have HC8 := Lib.hid hc8
          clear hc8
          obtain ⟨ca0, ca1, ca2, cb0, cb1, cb2⟩ := KA.out _ HB_w2.out
          have h9 := refkey_any kb w2
          rw [HC8.out] at h9
          go_wp2_with fail
          refine h9.mono ?_
          rintro e wq ⟨rfl, rfl⟩
          clear h9
          have hka16 := key_len HC7.out
          have hkb16 := key_len HC8.out
          have hsz0 : wrap64 ((ka.size : Int) + (kb.size : Int)) = ((ka.size + kb.size : Nat) : Int) := by unfold wrap64; omega
          have hsz1 : decide ((100 : Int) < ((ka.size + kb.size : Nat) : Int)) = false := decide_eq_false (by omega)
          have HDT : Hid (Dat 60 d) := HD5
          have hcat : ¬ 9223372036854775807 < kb.size + 1 := by have := key_len HC8.out; omega
          have hka := key_len HC7.out
          have hkb := key_len HC8.out
          have HKSA : Hid (∀ x ∈ [(ka, na, ga)], x.1.size ≤ 1000) := Lib.hid fun x hx => by simp only [List.mem_singleton] at hx; subst hx; simp only; omega
          have HKSB : Hid (∀ x ∈ [(kb, nb, gb)], x.1.size ≤ 1000) := Lib.hid fun x hx => by simp only [List.mem_singleton] at hx; subst hx; simp only; omega
          have HKS2 : Hid (∀ x ∈ [(ka, na, ga), (kb, nb, gb)], x.1.size ≤ 1000) := Lib.hid fun x hx => by simp only [List.mem_cons, List.not_mem_nil, or_false] at hx; rcases hx with rfl | rfl <;> simp only <;> omega
          have HDB : Hid (Dat 61 (applyP d [(kb, nb, gb)])) := Lib.hid (HDT.out.app HKSB.out (Nat.le_refl 1))
          have HNO : Hid ((applyP d [(kb, nb, gb)]).length ≤ 1000000) := Lib.hid (by have := HDB.out.2.2; omega)
          have HNX : Hid ((applyP d [(ka, na, ga), (kb, nb, gb)]).length ≤ 1000000) := Lib.hid (by have := (HDT.out.app HKS2.out (Nat.le_refl 2)).2.2; omega)
          have HNY : Hid ((applyP (applyP d [(kb, nb, gb)]) [(ka, na, ga)]).length ≤ 1000000) := Lib.hid (by have := (HDB.out.app HKSA.out (Nat.le_refl 1)).2.2; omega)
          have HNT : Hid ((applyP (applyP d [(kb, nb, gb)]) [(kb, nb, gb)]).length ≤ 1000000) := Lib.hid (by have := (HDB.out.app HKSB.out (Nat.le_refl 1)).2.2; omega)
          have HTWICE : Hid (applyP (applyP d [(kb, nb, gb)]) [(kb, nb, gb)] = applyP d [(kb, nb, gb)]) := Lib.hid (do_same HDT.out.1 (kb, nb, gb) (kb, nb, gb) rfl)
          have HSET : Hid (IsSet [ptS kb]) := Lib.hid (set_one (by unfold fullS ptS; rw [lt_next]; simp [lt_irrefl]))
          have HPICK := Lib.hid (pick_pt HDT.out.1 (kb, nb, gb))
          have K3 := Lib.hid (fun (Y : World) (hY : Below w2.heap.size w2 Y) => KA.out Y (blThen HB_w2.out hY))
          go_upto_region 3 with fail
          go_cut [7, 8] from 41 to 52 (fun s7 s8 wx => ∃ rX rY : Value, s7 = rX ∧ s8 = rY ∧ SlG eP wx rX (applyP d [(ka, na, ga), (kb, nb, gb)]) ∧ SlG eP wx rY (applyP (applyP d [(kb, nb, gb)]) [(ka, na, ga)]) ∧ Below w2.heap.size w2 wx)
          case first =>
            refine wp_region_held_drew (S := fun Y => Y.cell? ⟨w.heap.size, 0, none⟩ = some (.string ka) ∧ Y.cell? ⟨w.heap.size, 1, none⟩ = some (.int .u64 (na : Int)) ∧ Y.cell? ⟨w.heap.size, 2, none⟩ = some (.bool ga) ∧ Y.cell? ⟨w.heap.size + 1, 0, none⟩ = some (.string kb) ∧ Y.cell? ⟨w.heap.size + 1, 1, none⟩ = some (.int .u64 (nb : Int)) ∧ Y.cell? ⟨w.heap.size + 1, 2, none⟩ = some (.bool gb)) (by kernel_rfl) (K3.out _ (Below.refl w2.heap.size w2).drew) (fun hHeld => ?_)
            refine wpAnyH_take (i := 0) (oi := { dst := some 41, op := Op.move (Operand.tmp 0), type := 42, pos := "law.go:206", after := #[], guard := none }) (v := ?_) rfl (by kernel_rfl) (by kernel_rfl) (by kernel_rfl) (fun _ _ _ h => h) (Or.inl ⟨by rfl, ?_⟩) (by assumption) ?_
            rotate_left
            · intro w hSw
              try dsimp only at hSw
              go_simp
              try with_reducible rfl
            try simp only [Act.put, List.setIfInBounds_toArray, List.set_cons_zero, List.set_cons_succ]
            refine wpAnyH_take (i := 1) (oi := { dst := some 42, op := Op.load 61 (Operand.tmp 4), type := 61, pos := "law.go:206", after := #[], guard := none }) (v := ?_) rfl (by kernel_rfl) (by kernel_rfl) (by kernel_rfl) (fun _ _ _ h => h) (Or.inl ⟨by rfl, ?_⟩) (by assumption) ?_
            rotate_left
            · intro w hSw
              try dsimp only at hSw
              go_simp
              try with_reducible rfl
            try simp only [Act.put, List.setIfInBounds_toArray, List.set_cons_zero, List.set_cons_succ]
            refine wpAnyH_take (i := 2) (oi := { dst := some 43, op := Op.load 61 (Operand.tmp 5), type := 61, pos := "law.go:206", after := #[], guard := none }) (v := ?_) rfl (by kernel_rfl) (by kernel_rfl) (by kernel_rfl) (fun _ _ _ h => h) (Or.inl ⟨by rfl, ?_⟩) (by assumption) ?_
            rotate_left
            · intro w hSw
              try dsimp only at hSw
              go_simp
              try with_reducible rfl
            try simp only [Act.put, List.setIfInBounds_toArray, List.set_cons_zero, List.set_cons_succ]
            refine wpAnyH_take (i := 5) (oi := { dst := some 46, op := Op.move (Operand.tmp 0), type := 42, pos := "law.go:206", after := #[], guard := none }) (v := ?_) rfl (by kernel_rfl) (by kernel_rfl) (by kernel_rfl) (fun _ _ _ h => h) (Or.inl ⟨by rfl, ?_⟩) (by assumption) ?_
            rotate_left
            · intro w hSw
              try dsimp only at hSw
              go_simp
              try with_reducible rfl
            try simp only [Act.put, List.setIfInBounds_toArray, List.set_cons_zero, List.set_cons_succ]
            refine wpAnyH_take (i := 6) (oi := { dst := some 47, op := Op.load 61 (Operand.tmp 5), type := 61, pos := "law.go:206", after := #[], guard := none }) (v := ?_) rfl (by kernel_rfl) (by kernel_rfl) (by kernel_rfl) (fun _ _ _ h => h) (Or.inl ⟨by rfl, ?_⟩) (by assumption) ?_
            rotate_left
            · intro w hSw
              try dsimp only at hSw
              go_simp
              try with_reducible rfl
            try simp only [Act.put, List.setIfInBounds_toArray, List.set_cons_zero, List.set_cons_succ]
            refine wpAnyH_take (i := 9) (oi := { dst := some 50, op := Op.load 61 (Operand.tmp 4), type := 61, pos := "law.go:206", after := #[], guard := none }) (v := ?_) rfl (by kernel_rfl) (by kernel_rfl) (by kernel_rfl) (fun _ _ _ h => h) (Or.inl ⟨by rfl, ?_⟩) (by assumption) ?_
            rotate_left
            · intro w hSw
              try dsimp only at hSw
              go_simp
              try with_reducible rfl
            try simp only [Act.put, List.setIfInBounds_toArray, List.set_cons_zero, List.set_cons_succ]
            have HX : Hid (Below w2.heap.size w2 w2.drew) := Lib.hid (Below.refl _ _).drew
            have HB_z0 := HX
            have HD := Lib.hid (Ad.out.later HX.out)
            clear HX
            generalize w2.drew = z0 at *
            refine wpAnyH_ready (rs := [3, 7, 10]) (by kernel_rfl) (by simp) ?_
            refine (AllReadyH.cons (o := { dst := some 44, op := Op.buildSlice 45 2 #[(0, Operand.tmp 42), (1, Operand.tmp 43)], type := 45, pos := "law.go:206", after := #[{ on := 1, ground := Ground.data }, { on := 2, ground := Ground.data }], guard := none }) rfl (fun K hK => ?_) (AllReadyH.cons (o := { dst := some 48, op := Op.buildSlice 45 1 #[(0, Operand.tmp 47)], type := 45, pos := "law.go:206", after := #[{ on := 6, ground := Ground.data }], guard := none }) rfl (fun K hK => ?_) (AllReadyH.cons (o := { dst := some 51, op := Op.buildSlice 45 1 #[(0, Operand.tmp 50)], type := 45, pos := "law.go:206", after := #[{ on := 9, ground := Ground.data }], guard := none }) rfl (fun K hK => ?_) AllReadyH.nil)))
            · go_simp
              have HX : Hid (Below z0.heap.size z0 (z0.alloc (.cells #[.string ka, .int .u64 (na : Int), .bool ga, .string kb, .int .u64 (nb : Int), .bool gb] 61))) := Lib.hid (blAlloc (Below.refl _ _) _)
              have HB_z1 : Hid (Below w2.heap.size w2 (z0.alloc (.cells #[.string ka, .int .u64 (na : Int), .bool ga, .string kb, .int .u64 (nb : Int), .bool gb] 61))) := Lib.hid (blThen HB_z0.out HX.out)
              have HA3 : Hid (SlG eW (z0.alloc (.cells #[.string ka, .int .u64 (na : Int), .bool ga, .string kb, .int .u64 (nb : Int), .bool gb] 61)) (.slice (some ⟨z0.heap.size, 0, none⟩) 2 2) [(ka, na, ga), (kb, nb, gb)]) := Lib.hid (list_G eW z0 _ [(ka, na, ga), (kb, nb, gb)] _ 2 _ rfl rfl rfl)
              have HD := Lib.hid (HD.out.later HX.out)
              refine hK.out _ _ (K3.out _ HB_z1.out) (fun hHeld => ?_)
              clear hK K HX
              try simp only [Act.put, List.setIfInBounds_toArray, List.set_cons_zero, List.set_cons_succ]
              generalize (z0.alloc (.cells #[.string ka, .int .u64 (na : Int), .bool ga, .string kb, .int .u64 (nb : Int), .bool gb] 61)) = z1 at *
              refine wpAnyH_ready (rs := [4, 7, 10]) (by kernel_rfl) (by simp) ?_
              refine (AllReadyH.cons (o := { dst := some 45, op := Op.call { callee := Callee.value (Operand.func 41), args := #[Operand.tmp 41, Operand.tmp 44], argTypes := #[42, 45] }, type := 42, pos := "law.go:206", after := #[{ on := 0, ground := Ground.data }, { on := 3, ground := Ground.data }], guard := none }) rfl (fun K hK => ?_) (AllReadyH.cons (o := { dst := some 48, op := Op.buildSlice 45 1 #[(0, Operand.tmp 47)], type := 45, pos := "law.go:206", after := #[{ on := 6, ground := Ground.data }], guard := none }) rfl (fun K hK => ?_) (AllReadyH.cons (o := { dst := some 51, op := Op.buildSlice 45 1 #[(0, Operand.tmp 50)], type := 45, pos := "law.go:206", after := #[{ on := 9, ground := Ground.data }], guard := none }) rfl (fun K hK => ?_) AllReadyH.nil)))
              · go_simp
                go_at_call 41
                refine (ap_any vd _ d [(ka, na, ga), (kb, nb, gb)] z1 HDT.out (by omega) (by simp) HKS2.out HD.out HA3.out).mono ?_
                rintro e z2 ⟨rX, rfl, h1, h5⟩
                have HX : Hid (Below z1.heap.size z1 z2) := Lib.hid h5
                have HB_z2 : Hid (Below w2.heap.size w2 z2) := Lib.hid (blThen HB_z1.out HX.out)
                have HD := Lib.hid (HD.out.later HX.out)
                have HA3 := Lib.hid (HA3.out.later HX.out)
                have HRX := Lib.hid h1
                refine hK.out _ _ (K3.out _ HB_z2.out) (fun hHeld => ?_)
                clear hK K HX h1 h5
                try simp only [Act.put, List.setIfInBounds_toArray, List.set_cons_zero, List.set_cons_succ]
                refine wpAnyH_ready (rs := [7, 10]) (by kernel_rfl) (by simp) ?_
                refine (AllReadyH.cons (o := { dst := some 48, op := Op.buildSlice 45 1 #[(0, Operand.tmp 47)], type := 45, pos := "law.go:206", after := #[{ on := 6, ground := Ground.data }], guard := none }) rfl (fun K hK => ?_) (AllReadyH.cons (o := { dst := some 51, op := Op.buildSlice 45 1 #[(0, Operand.tmp 50)], type := 45, pos := "law.go:206", after := #[{ on := 9, ground := Ground.data }], guard := none }) rfl (fun K hK => ?_) AllReadyH.nil))
                · go_simp
                  have HX : Hid (Below z2.heap.size z2 (z2.alloc (.cells #[.string kb, .int .u64 (nb : Int), .bool gb] 61))) := Lib.hid (blAlloc (Below.refl _ _) _)
                  have HB_z3 : Hid (Below w2.heap.size w2 (z2.alloc (.cells #[.string kb, .int .u64 (nb : Int), .bool gb] 61))) := Lib.hid (blThen HB_z2.out HX.out)
                  have HA7 : Hid (SlG eW (z2.alloc (.cells #[.string kb, .int .u64 (nb : Int), .bool gb] 61)) (.slice (some ⟨z2.heap.size, 0, none⟩) 1 1) [(kb, nb, gb)]) := Lib.hid (list_G eW z2 _ [(kb, nb, gb)] _ 1 _ rfl rfl rfl)
                  have HD := Lib.hid (HD.out.later HX.out)
                  have HA3 := Lib.hid (HA3.out.later HX.out)
                  have HRX := Lib.hid (HRX.out.later HX.out)
                  refine hK.out _ _ (K3.out _ HB_z3.out) (fun hHeld => ?_)
                  clear hK K HX
                  try simp only [Act.put, List.setIfInBounds_toArray, List.set_cons_zero, List.set_cons_succ]
                  generalize (z2.alloc (.cells #[.string kb, .int .u64 (nb : Int), .bool gb] 61)) = z3 at *
                  refine wpAnyH_ready (rs := [8, 10]) (by kernel_rfl) (by simp) ?_
                  refine (AllReadyH.cons (o := { dst := some 49, op := Op.call { callee := Callee.value (Operand.func 41), args := #[Operand.tmp 46, Operand.tmp 48], argTypes := #[42, 45] }, type := 42, pos := "law.go:206", after := #[{ on := 5, ground := Ground.data }, { on := 7, ground := Ground.data }, { on := 4, ground := Ground.chain }], guard := none }) rfl (fun K hK => ?_) (AllReadyH.cons (o := { dst := some 51, op := Op.buildSlice 45 1 #[(0, Operand.tmp 50)], type := 45, pos := "law.go:206", after := #[{ on := 9, ground := Ground.data }], guard := none }) rfl (fun K hK => ?_) AllReadyH.nil))
                  · go_simp
                    go_at_call 41
                    refine (ap_any vd _ d [(kb, nb, gb)] z3 HDT.out (by omega) (by simp) HKSB.out HD.out HA7.out).mono ?_
                    rintro e z4 ⟨r8, rfl, h1, h5⟩
                    have HX : Hid (Below z3.heap.size z3 z4) := Lib.hid h5
                    have HB_z4 : Hid (Below w2.heap.size w2 z4) := Lib.hid (blThen HB_z3.out HX.out)
                    have HD := Lib.hid (HD.out.later HX.out)
                    have HA3 := Lib.hid (HA3.out.later HX.out)
                    have HRX := Lib.hid (HRX.out.later HX.out)
                    have HA7 := Lib.hid (HA7.out.later HX.out)
                    have HR8 := Lib.hid h1
                    refine hK.out _ _ (K3.out _ HB_z4.out) (fun hHeld => ?_)
                    clear hK K HX h1 h5
                    try simp only [Act.put, List.setIfInBounds_toArray, List.set_cons_zero, List.set_cons_succ]
                    refine wpAnyH_ready (rs := [10]) (by kernel_rfl) (by simp) ?_
                    refine (AllReadyH.cons (o := { dst := some 51, op := Op.buildSlice 45 1 #[(0, Operand.tmp 50)], type := 45, pos := "law.go:206", after := #[{ on := 9, ground := Ground.data }], guard := none }) rfl (fun K hK => ?_) AllReadyH.nil)
                    · go_simp
                      have HX : Hid (Below z4.heap.size z4 (z4.alloc (.cells #[.string ka, .int .u64 (na : Int), .bool ga] 61))) := Lib.hid (blAlloc (Below.refl _ _) _)
                      have HB_z5 : Hid (Below w2.heap.size w2 (z4.alloc (.cells #[.string ka, .int .u64 (na : Int), .bool ga] 61))) := Lib.hid (blThen HB_z4.out HX.out)
                      have HA10 : Hid (SlG eW (z4.alloc (.cells #[.string ka, .int .u64 (na : Int), .bool ga] 61)) (.slice (some ⟨z4.heap.size, 0, none⟩) 1 1) [(ka, na, ga)]) := Lib.hid (list_G eW z4 _ [(ka, na, ga)] _ 1 _ rfl rfl rfl)
                      have HD := Lib.hid (HD.out.later HX.out)
                      have HA3 := Lib.hid (HA3.out.later HX.out)
                      have HRX := Lib.hid (HRX.out.later HX.out)
                      have HA7 := Lib.hid (HA7.out.later HX.out)
                      have HR8 := Lib.hid (HR8.out.later HX.out)
                      refine hK.out _ _ (K3.out _ HB_z5.out) (fun hHeld => ?_)
                      clear hK K HX
                      try simp only [Act.put, List.setIfInBounds_toArray, List.set_cons_zero, List.set_cons_succ]
                      generalize (z4.alloc (.cells #[.string ka, .int .u64 (na : Int), .bool ga] 61)) = z5 at *
                      refine wpAnyH_ready (rs := [11]) (by kernel_rfl) (by simp) ?_
                      refine (AllReadyH.cons (o := { dst := some 52, op := Op.call { callee := Callee.value (Operand.func 41), args := #[Operand.tmp 49, Operand.tmp 51], argTypes := #[42, 45] }, type := 42, pos := "law.go:206", after := #[{ on := 8, ground := Ground.data }, { on := 10, ground := Ground.data }, { on := 8, ground := Ground.chain }], guard := none }) rfl (fun K hK => ?_) AllReadyH.nil)
                      · go_simp
                        go_at_call 41
                        refine (ap_any r8 _ (applyP d [(kb, nb, gb)]) [(ka, na, ga)] z5 HDB.out (by omega) (by simp) HKSA.out HR8.out HA10.out).mono ?_
                        rintro e z6 ⟨rY, rfl, h1, h5⟩
                        have HX : Hid (Below z5.heap.size z5 z6) := Lib.hid h5
                        have HB_z6 : Hid (Below w2.heap.size w2 z6) := Lib.hid (blThen HB_z5.out HX.out)
                        have HD := Lib.hid (HD.out.later HX.out)
                        have HA3 := Lib.hid (HA3.out.later HX.out)
                        have HRX := Lib.hid (HRX.out.later HX.out)
                        have HA7 := Lib.hid (HA7.out.later HX.out)
                        have HR8 := Lib.hid (HR8.out.later HX.out)
                        have HA10 := Lib.hid (HA10.out.later HX.out)
                        have HRY := Lib.hid h1
                        refine hK.out _ _ (K3.out _ HB_z6.out) (fun hHeld => ?_)
                        clear hK K HX h1 h5
                        try simp only [Act.put, List.setIfInBounds_toArray, List.set_cons_zero, List.set_cons_succ]
                        refine wpAnyH_take (i := 12) (oi := { dst := some 7, op := Op.assign (Operand.tmp 45), type := 42, pos := "law.go:206", after := #[{ on := 4, ground := Ground.data }, { on := 11, ground := Ground.chain }, { on := 0, ground := Ground.phase }, { on := 1, ground := Ground.phase }, { on := 2, ground := Ground.phase }, { on := 3, ground := Ground.phase }, { on := 4, ground := Ground.phase }, { on := 5, ground := Ground.textOnly Departure.lateStores }, { on := 6, ground := Ground.textOnly Departure.lateStores }, { on := 7, ground := Ground.textOnly Departure.lateStores }, { on := 8, ground := Ground.textOnly Departure.lateStoresUnsure }, { on := 9, ground := Ground.textOnly Departure.lateStores }, { on := 10, ground := Ground.textOnly Departure.lateStores }, { on := 11, ground := Ground.textOnly Departure.lateStoresUnsure }], guard := none }) (v := ?_) rfl (by kernel_rfl) (by kernel_rfl) (by kernel_rfl) (fun _ _ _ h => h) (Or.inl ⟨by rfl, ?_⟩) (by assumption) ?_
                        rotate_left
                        · intro w hSw
                          try dsimp only at hSw
                          go_simp
                          try with_reducible rfl
                        try simp only [Act.put, List.setIfInBounds_toArray, List.set_cons_zero, List.set_cons_succ]
                        refine wpAnyH_take (i := 13) (oi := { dst := some 8, op := Op.assign (Operand.tmp 52), type := 42, pos := "law.go:206", after := #[{ on := 11, ground := Ground.data }, { on := 12, ground := Ground.chain }, { on := 0, ground := Ground.phase }, { on := 1, ground := Ground.phase }, { on := 2, ground := Ground.phase }, { on := 3, ground := Ground.phase }, { on := 4, ground := Ground.phase }, { on := 5, ground := Ground.phase }, { on := 6, ground := Ground.phase }, { on := 7, ground := Ground.phase }, { on := 8, ground := Ground.phase }, { on := 9, ground := Ground.phase }, { on := 10, ground := Ground.phase }, { on := 11, ground := Ground.phase }, { on := 12, ground := Ground.phase }], guard := none }) (v := ?_) rfl (by kernel_rfl) (by kernel_rfl) (by kernel_rfl) (fun _ _ _ h => h) (Or.inl ⟨by rfl, ?_⟩) (by assumption) ?_
                        rotate_left
                        · intro w hSw
                          try dsimp only at hSw
                          go_simp
                          try with_reducible rfl
                        try simp only [Act.put, List.setIfInBounds_toArray, List.set_cons_zero, List.set_cons_succ]
                        refine wpAnyH_done (by kernel_rfl) ?_ _
                        go_wp2_with fail
                        go_meet
                        exact ⟨rX, rY, rfl, rfl, HRX.out, HRY.out, HB_z6.out⟩
                  · go_simp
                    have HX : Hid (Below z3.heap.size z3 (z3.alloc (.cells #[.string ka, .int .u64 (na : Int), .bool ga] 61))) := Lib.hid (blAlloc (Below.refl _ _) _)
                    have HB_z7 : Hid (Below w2.heap.size w2 (z3.alloc (.cells #[.string ka, .int .u64 (na : Int), .bool ga] 61))) := Lib.hid (blThen HB_z3.out HX.out)
                    have HA10 : Hid (SlG eW (z3.alloc (.cells #[.string ka, .int .u64 (na : Int), .bool ga] 61)) (.slice (some ⟨z3.heap.size, 0, none⟩) 1 1) [(ka, na, ga)]) := Lib.hid (list_G eW z3 _ [(ka, na, ga)] _ 1 _ rfl rfl rfl)
                    have HD := Lib.hid (HD.out.later HX.out)
                    have HA3 := Lib.hid (HA3.out.later HX.out)
                    have HRX := Lib.hid (HRX.out.later HX.out)
                    have HA7 := Lib.hid (HA7.out.later HX.out)
                    refine hK.out _ _ (K3.out _ HB_z7.out) (fun hHeld => ?_)
                    clear hK K HX
                    try simp only [Act.put, List.setIfInBounds_toArray, List.set_cons_zero, List.set_cons_succ]
                    generalize (z3.alloc (.cells #[.string ka, .int .u64 (na : Int), .bool ga] 61)) = z7 at *
                    refine wpAnyH_ready (rs := [8]) (by kernel_rfl) (by simp) ?_
                    refine (AllReadyH.cons (o := { dst := some 49, op := Op.call { callee := Callee.value (Operand.func 41), args := #[Operand.tmp 46, Operand.tmp 48], argTypes := #[42, 45] }, type := 42, pos := "law.go:206", after := #[{ on := 5, ground := Ground.data }, { on := 7, ground := Ground.data }, { on := 4, ground := Ground.chain }], guard := none }) rfl (fun K hK => ?_) AllReadyH.nil)
                    · go_simp
                      go_at_call 41
                      refine (ap_any vd _ d [(kb, nb, gb)] z7 HDT.out (by omega) (by simp) HKSB.out HD.out HA7.out).mono ?_
                      rintro e z8 ⟨r8, rfl, h1, h5⟩
                      have HX : Hid (Below z7.heap.size z7 z8) := Lib.hid h5
                      have HB_z8 : Hid (Below w2.heap.size w2 z8) := Lib.hid (blThen HB_z7.out HX.out)
                      have HD := Lib.hid (HD.out.later HX.out)
                      have HA3 := Lib.hid (HA3.out.later HX.out)
                      have HRX := Lib.hid (HRX.out.later HX.out)
                      have HA7 := Lib.hid (HA7.out.later HX.out)
                      have HA10 := Lib.hid (HA10.out.later HX.out)
                      have HR8 := Lib.hid h1
                      refine hK.out _ _ (K3.out _ HB_z8.out) (fun hHeld => ?_)
                      clear hK K HX h1 h5
                      try simp only [Act.put, List.setIfInBounds_toArray, List.set_cons_zero, List.set_cons_succ]
                      refine wpAnyH_ready (rs := [11]) (by kernel_rfl) (by simp) ?_
                      refine (AllReadyH.cons (o := { dst := some 52, op := Op.call { callee := Callee.value (Operand.func 41), args := #[Operand.tmp 49, Operand.tmp 51], argTypes := #[42, 45] }, type := 42, pos := "law.go:206", after := #[{ on := 8, ground := Ground.data }, { on := 10, ground := Ground.data }, { on := 8, ground := Ground.chain }], guard := none }) rfl (fun K hK => ?_) AllReadyH.nil)
                      · go_simp
                        go_at_call 41
                        refine (ap_any r8 _ (applyP d [(kb, nb, gb)]) [(ka, na, ga)] z8 HDB.out (by omega) (by simp) HKSA.out HR8.out HA10.out).mono ?_
                        rintro e z9 ⟨rY, rfl, h1, h5⟩
                        have HX : Hid (Below z8.heap.size z8 z9) := Lib.hid h5
                        have HB_z9 : Hid (Below w2.heap.size w2 z9) := Lib.hid (blThen HB_z8.out HX.out)
                        have HD := Lib.hid (HD.out.later HX.out)
                        have HA3 := Lib.hid (HA3.out.later HX.out)
                        have HRX := Lib.hid (HRX.out.later HX.out)
                        have HA7 := Lib.hid (HA7.out.later HX.out)
                        have HA10 := Lib.hid (HA10.out.later HX.out)
                        have HR8 := Lib.hid (HR8.out.later HX.out)
                        have HRY := Lib.hid h1
                        refine hK.out _ _ (K3.out _ HB_z9.out) (fun hHeld => ?_)
                        clear hK K HX h1 h5
                        try simp only [Act.put, List.setIfInBounds_toArray, List.set_cons_zero, List.set_cons_succ]
                        refine wpAnyH_take (i := 12) (oi := { dst := some 7, op := Op.assign (Operand.tmp 45), type := 42, pos := "law.go:206", after := #[{ on := 4, ground := Ground.data }, { on := 11, ground := Ground.chain }, { on := 0, ground := Ground.phase }, { on := 1, ground := Ground.phase }, { on := 2, ground := Ground.phase }, { on := 3, ground := Ground.phase }, { on := 4, ground := Ground.phase }, { on := 5, ground := Ground.textOnly Departure.lateStores }, { on := 6, ground := Ground.textOnly Departure.lateStores }, { on := 7, ground := Ground.textOnly Departure.lateStores }, { on := 8, ground := Ground.textOnly Departure.lateStoresUnsure }, { on := 9, ground := Ground.textOnly Departure.lateStores }, { on := 10, ground := Ground.textOnly Departure.lateStores }, { on := 11, ground := Ground.textOnly Departure.lateStoresUnsure }], guard := none }) (v := ?_) rfl (by kernel_rfl) (by kernel_rfl) (by kernel_rfl) (fun _ _ _ h => h) (Or.inl ⟨by rfl, ?_⟩) (by assumption) ?_
                        rotate_left
                        · intro w hSw
                          try dsimp only at hSw
                          go_simp
                          try with_reducible rfl
                        try simp only [Act.put, List.setIfInBounds_toArray, List.set_cons_zero, List.set_cons_succ]
                        refine wpAnyH_take (i := 13) (oi := { dst := some 8, op := Op.assign (Operand.tmp 52), type := 42, pos := "law.go:206", after := #[{ on := 11, ground := Ground.data }, { on := 12, ground := Ground.chain }, { on := 0, ground := Ground.phase }, { on := 1, ground := Ground.phase }, { on := 2, ground := Ground.phase }, { on := 3, ground := Ground.phase }, { on := 4, ground := Ground.phase }, { on := 5, ground := Ground.phase }, { on := 6, ground := Ground.phase }, { on := 7, ground := Ground.phase }, { on := 8, ground := Ground.phase }, { on := 9, ground := Ground.phase }, { on := 10, ground := Ground.phase }, { on := 11, ground := Ground.phase }, { on := 12, ground := Ground.phase }], guard := none }) (v := ?_) rfl (by kernel_rfl) (by kernel_rfl) (by kernel_rfl) (fun _ _ _ h => h) (Or.inl ⟨by rfl, ?_⟩) (by assumption) ?_
                        rotate_left
                        · intro w hSw
                          try dsimp only at hSw
                          go_simp
                          try with_reducible rfl
                        try simp only [Act.put, List.setIfInBounds_toArray, List.set_cons_zero, List.set_cons_succ]
                        refine wpAnyH_done (by kernel_rfl) ?_ _
                        go_wp2_with fail
                        go_meet
                        exact ⟨rX, rY, rfl, rfl, HRX.out, HRY.out, HB_z9.out⟩
                · go_simp
                  have HX : Hid (Below z2.heap.size z2 (z2.alloc (.cells #[.string ka, .int .u64 (na : Int), .bool ga] 61))) := Lib.hid (blAlloc (Below.refl _ _) _)
                  have HB_z10 : Hid (Below w2.heap.size w2 (z2.alloc (.cells #[.string ka, .int .u64 (na : Int), .bool ga] 61))) := Lib.hid (blThen HB_z2.out HX.out)
                  have HA10 : Hid (SlG eW (z2.alloc (.cells #[.string ka, .int .u64 (na : Int), .bool ga] 61)) (.slice (some ⟨z2.heap.size, 0, none⟩) 1 1) [(ka, na, ga)]) := Lib.hid (list_G eW z2 _ [(ka, na, ga)] _ 1 _ rfl rfl rfl)
                  have HD := Lib.hid (HD.out.later HX.out)
                  have HA3 := Lib.hid (HA3.out.later HX.out)
                  have HRX := Lib.hid (HRX.out.later HX.out)
                  refine hK.out _ _ (K3.out _ HB_z10.out) (fun hHeld => ?_)
                  clear hK K HX
                  try simp only [Act.put, List.setIfInBounds_toArray, List.set_cons_zero, List.set_cons_succ]
                  generalize (z2.alloc (.cells #[.string ka, .int .u64 (na : Int), .bool ga] 61)) = z10 at *
                  refine wpAnyH_ready (rs := [7]) (by kernel_rfl) (by simp) ?_
                  refine (AllReadyH.cons (o := { dst := some 48, op := Op.buildSlice 45 1 #[(0, Operand.tmp 47)], type := 45, pos := "law.go:206", after := #[{ on := 6, ground := Ground.data }], guard := none }) rfl (fun K hK => ?_) AllReadyH.nil)
                  · go_simp
                    have HX : Hid (Below z10.heap.size z10 (z10.alloc (.cells #[.string kb, .int .u64 (nb : Int), .bool gb] 61))) := Lib.hid (blAlloc (Below.refl _ _) _)
                    have HB_z11 : Hid (Below w2.heap.size w2 (z10.alloc (.cells #[.string kb, .int .u64 (nb : Int), .bool gb] 61))) := Lib.hid (blThen HB_z10.out HX.out)
                    have HA7 : Hid (SlG eW (z10.alloc (.cells #[.string kb, .int .u64 (nb : Int), .bool gb] 61)) (.slice (some ⟨z10.heap.size, 0, none⟩) 1 1) [(kb, nb, gb)]) := Lib.hid (list_G eW z10 _ [(kb, nb, gb)] _ 1 _ rfl rfl rfl)
                    have HD := Lib.hid (HD.out.later HX.out)
                    have HA3 := Lib.hid (HA3.out.later HX.out)
                    have HRX := Lib.hid (HRX.out.later HX.out)
                    have HA10 := Lib.hid (HA10.out.later HX.out)
                    refine hK.out _ _ (K3.out _ HB_z11.out) (fun hHeld => ?_)
                    clear hK K HX
                    try simp only [Act.put, List.setIfInBounds_toArray, List.set_cons_zero, List.set_cons_succ]
                    generalize (z10.alloc (.cells #[.string kb, .int .u64 (nb : Int), .bool gb] 61)) = z11 at *
                    refine wpAnyH_ready (rs := [8]) (by kernel_rfl) (by simp) ?_
                    refine (AllReadyH.cons (o := { dst := some 49, op := Op.call { callee := Callee.value (Operand.func 41), args := #[Operand.tmp 46, Operand.tmp 48], argTypes := #[42, 45] }, type := 42, pos := "law.go:206", after := #[{ on := 5, ground := Ground.data }, { on := 7, ground := Ground.data }, { on := 4, ground := Ground.chain }], guard := none }) rfl (fun K hK => ?_) AllReadyH.nil)
                    · go_simp
                      go_at_call 41
                      refine (ap_any vd _ d [(kb, nb, gb)] z11 HDT.out (by omega) (by simp) HKSB.out HD.out HA7.out).mono ?_
                      rintro e z12 ⟨r8, rfl, h1, h5⟩
                      have HX : Hid (Below z11.heap.size z11 z12) := Lib.hid h5
                      have HB_z12 : Hid (Below w2.heap.size w2 z12) := Lib.hid (blThen HB_z11.out HX.out)
                      have HD := Lib.hid (HD.out.later HX.out)
                      have HA3 := Lib.hid (HA3.out.later HX.out)
                      have HRX := Lib.hid (HRX.out.later HX.out)
                      have HA10 := Lib.hid (HA10.out.later HX.out)
                      have HA7 := Lib.hid (HA7.out.later HX.out)
                      have HR8 := Lib.hid h1
                      refine hK.out _ _ (K3.out _ HB_z12.out) (fun hHeld => ?_)
                      clear hK K HX h1 h5
                      try simp only [Act.put, List.setIfInBounds_toArray, List.set_cons_zero, List.set_cons_succ]
                      refine wpAnyH_ready (rs := [11]) (by kernel_rfl) (by simp) ?_
                      refine (AllReadyH.cons (o := { dst := some 52, op := Op.call { callee := Callee.value (Operand.func 41), args := #[Operand.tmp 49, Operand.tmp 51], argTypes := #[42, 45] }, type := 42, pos := "law.go:206", after := #[{ on := 8, ground := Ground.data }, { on := 10, ground := Ground.data }, { on := 8, ground := Ground.chain }], guard := none }) rfl (fun K hK => ?_) AllReadyH.nil)
                      · go_simp
                        go_at_call 41
                        refine (ap_any r8 _ (applyP d [(kb, nb, gb)]) [(ka, na, ga)] z12 HDB.out (by omega) (by simp) HKSA.out HR8.out HA10.out).mono ?_
                        rintro e z13 ⟨rY, rfl, h1, h5⟩
                        have HX : Hid (Below z12.heap.size z12 z13) := Lib.hid h5
                        have HB_z13 : Hid (Below w2.heap.size w2 z13) := Lib.hid (blThen HB_z12.out HX.out)
                        have HD := Lib.hid (HD.out.later HX.out)
                        have HA3 := Lib.hid (HA3.out.later HX.out)
                        have HRX := Lib.hid (HRX.out.later HX.out)
                        have HA10 := Lib.hid (HA10.out.later HX.out)
                        have HA7 := Lib.hid (HA7.out.later HX.out)
                        have HR8 := Lib.hid (HR8.out.later HX.out)
                        have HRY := Lib.hid h1
                        refine hK.out _ _ (K3.out _ HB_z13.out) (fun hHeld => ?_)
                        clear hK K HX h1 h5
                        try simp only [Act.put, List.setIfInBounds_toArray, List.set_cons_zero, List.set_cons_succ]
                        refine wpAnyH_take (i := 12) (oi := { dst := some 7, op := Op.assign (Operand.tmp 45), type := 42, pos := "law.go:206", after := #[{ on := 4, ground := Ground.data }, { on := 11, ground := Ground.chain }, { on := 0, ground := Ground.phase }, { on := 1, ground := Ground.phase }, { on := 2, ground := Ground.phase }, { on := 3, ground := Ground.phase }, { on := 4, ground := Ground.phase }, { on := 5, ground := Ground.textOnly Departure.lateStores }, { on := 6, ground := Ground.textOnly Departure.lateStores }, { on := 7, ground := Ground.textOnly Departure.lateStores }, { on := 8, ground := Ground.textOnly Departure.lateStoresUnsure }, { on := 9, ground := Ground.textOnly Departure.lateStores }, { on := 10, ground := Ground.textOnly Departure.lateStores }, { on := 11, ground := Ground.textOnly Departure.lateStoresUnsure }], guard := none }) (v := ?_) rfl (by kernel_rfl) (by kernel_rfl) (by kernel_rfl) (fun _ _ _ h => h) (Or.inl ⟨by rfl, ?_⟩) (by assumption) ?_
                        rotate_left
                        · intro w hSw
                          try dsimp only at hSw
                          go_simp
                          try with_reducible rfl
                        try simp only [Act.put, List.setIfInBounds_toArray, List.set_cons_zero, List.set_cons_succ]
                        refine wpAnyH_take (i := 13) (oi := { dst := some 8, op := Op.assign (Operand.tmp 52), type := 42, pos := "law.go:206", after := #[{ on := 11, ground := Ground.data }, { on := 12, ground := Ground.chain }, { on := 0, ground := Ground.phase }, { on := 1, ground := Ground.phase }, { on := 2, ground := Ground.phase }, { on := 3, ground := Ground.phase }, { on := 4, ground := Ground.phase }, { on := 5, ground := Ground.phase }, { on := 6, ground := Ground.phase }, { on := 7, ground := Ground.phase }, { on := 8, ground := Ground.phase }, { on := 9, ground := Ground.phase }, { on := 10, ground := Ground.phase }, { on := 11, ground := Ground.phase }, { on := 12, ground := Ground.phase }], guard := none }) (v := ?_) rfl (by kernel_rfl) (by kernel_rfl) (by kernel_rfl) (fun _ _ _ h => h) (Or.inl ⟨by rfl, ?_⟩) (by assumption) ?_
                        rotate_left
                        · intro w hSw
                          try dsimp only at hSw
                          go_simp
                          try with_reducible rfl
                        try simp only [Act.put, List.setIfInBounds_toArray, List.set_cons_zero, List.set_cons_succ]
                        refine wpAnyH_done (by kernel_rfl) ?_ _
                        go_wp2_with fail
                        go_meet
                        exact ⟨rX, rY, rfl, rfl, HRX.out, HRY.out, HB_z13.out⟩
              · go_simp
                have HX : Hid (Below z1.heap.size z1 (z1.alloc (.cells #[.string kb, .int .u64 (nb : Int), .bool gb] 61))) := Lib.hid (blAlloc (Below.refl _ _) _)
                have HB_z14 : Hid (Below w2.heap.size w2 (z1.alloc (.cells #[.string kb, .int .u64 (nb : Int), .bool gb] 61))) := Lib.hid (blThen HB_z1.out HX.out)
                have HA7 : Hid (SlG eW (z1.alloc (.cells #[.string kb, .int .u64 (nb : Int), .bool gb] 61)) (.slice (some ⟨z1.heap.size, 0, none⟩) 1 1) [(kb, nb, gb)]) := Lib.hid (list_G eW z1 _ [(kb, nb, gb)] _ 1 _ rfl rfl rfl)
                have HD := Lib.hid (HD.out.later HX.out)
                have HA3 := Lib.hid (HA3.out.later HX.out)
                refine hK.out _ _ (K3.out _ HB_z14.out) (fun hHeld => ?_)
                clear hK K HX
                try simp only [Act.put, List.setIfInBounds_toArray, List.set_cons_zero, List.set_cons_succ]
                generalize (z1.alloc (.cells #[.string kb, .int .u64 (nb : Int), .bool gb] 61)) = z14 at *
                refine wpAnyH_ready (rs := [4, 10]) (by kernel_rfl) (by simp) ?_
                refine (AllReadyH.cons (o := { dst := some 45, op := Op.call { callee := Callee.value (Operand.func 41), args := #[Operand.tmp 41, Operand.tmp 44], argTypes := #[42, 45] }, type := 42, pos := "law.go:206", after := #[{ on := 0, ground := Ground.data }, { on := 3, ground := Ground.data }], guard := none }) rfl (fun K hK => ?_) (AllReadyH.cons (o := { dst := some 51, op := Op.buildSlice 45 1 #[(0, Operand.tmp 50)], type := 45, pos := "law.go:206", after := #[{ on := 9, ground := Ground.data }], guard := none }) rfl (fun K hK => ?_) AllReadyH.nil))
                · go_simp
                  go_at_call 41
                  refine (ap_any vd _ d [(ka, na, ga), (kb, nb, gb)] z14 HDT.out (by omega) (by simp) HKS2.out HD.out HA3.out).mono ?_
                  rintro e z15 ⟨rX, rfl, h1, h5⟩
                  have HX : Hid (Below z14.heap.size z14 z15) := Lib.hid h5
                  have HB_z15 : Hid (Below w2.heap.size w2 z15) := Lib.hid (blThen HB_z14.out HX.out)
                  have HD := Lib.hid (HD.out.later HX.out)
                  have HA3 := Lib.hid (HA3.out.later HX.out)
                  have HA7 := Lib.hid (HA7.out.later HX.out)
                  have HRX := Lib.hid h1
                  refine hK.out _ _ (K3.out _ HB_z15.out) (fun hHeld => ?_)
                  clear hK K HX h1 h5
                  try simp only [Act.put, List.setIfInBounds_toArray, List.set_cons_zero, List.set_cons_succ]
                  refine wpAnyH_ready (rs := [8, 10]) (by kernel_rfl) (by simp) ?_
                  refine (AllReadyH.cons (o := { dst := some 49, op := Op.call { callee := Callee.value (Operand.func 41), args := #[Operand.tmp 46, Operand.tmp 48], argTypes := #[42, 45] }, type := 42, pos := "law.go:206", after := #[{ on := 5, ground := Ground.data }, { on := 7, ground := Ground.data }, { on := 4, ground := Ground.chain }], guard := none }) rfl (fun K hK => ?_) (AllReadyH.cons (o := { dst := some 51, op := Op.buildSlice 45 1 #[(0, Operand.tmp 50)], type := 45, pos := "law.go:206", after := #[{ on := 9, ground := Ground.data }], guard := none }) rfl (fun K hK => ?_) AllReadyH.nil))
                  · go_simp
                    go_at_call 41
                    refine (ap_any vd _ d [(kb, nb, gb)] z15 HDT.out (by omega) (by simp) HKSB.out HD.out HA7.out).mono ?_
                    rintro e z16 ⟨r8, rfl, h1, h5⟩
                    have HX : Hid (Below z15.heap.size z15 z16) := Lib.hid h5
                    have HB_z16 : Hid (Below w2.heap.size w2 z16) := Lib.hid (blThen HB_z15.out HX.out)
                    have HD := Lib.hid (HD.out.later HX.out)
                    have HA3 := Lib.hid (HA3.out.later HX.out)
                    have HA7 := Lib.hid (HA7.out.later HX.out)
                    have HRX := Lib.hid (HRX.out.later HX.out)
                    have HR8 := Lib.hid h1
                    refine hK.out _ _ (K3.out _ HB_z16.out) (fun hHeld => ?_)
                    clear hK K HX h1 h5
                    try simp only [Act.put, List.setIfInBounds_toArray, List.set_cons_zero, List.set_cons_succ]
                    refine wpAnyH_ready (rs := [10]) (by kernel_rfl) (by simp) ?_
                    refine (AllReadyH.cons (o := { dst := some 51, op := Op.buildSlice 45 1 #[(0, Operand.tmp 50)], type := 45, pos := "law.go:206", after := #[{ on := 9, ground := Ground.data }], guard := none }) rfl (fun K hK => ?_) AllReadyH.nil)
                    · go_simp
                      have HX : Hid (Below z16.heap.size z16 (z16.alloc (.cells #[.string ka, .int .u64 (na : Int), .bool ga] 61))) := Lib.hid (blAlloc (Below.refl _ _) _)
                      have HB_z17 : Hid (Below w2.heap.size w2 (z16.alloc (.cells #[.string ka, .int .u64 (na : Int), .bool ga] 61))) := Lib.hid (blThen HB_z16.out HX.out)
                      have HA10 : Hid (SlG eW (z16.alloc (.cells #[.string ka, .int .u64 (na : Int), .bool ga] 61)) (.slice (some ⟨z16.heap.size, 0, none⟩) 1 1) [(ka, na, ga)]) := Lib.hid (list_G eW z16 _ [(ka, na, ga)] _ 1 _ rfl rfl rfl)
                      have HD := Lib.hid (HD.out.later HX.out)
                      have HA3 := Lib.hid (HA3.out.later HX.out)
                      have HA7 := Lib.hid (HA7.out.later HX.out)
                      have HRX := Lib.hid (HRX.out.later HX.out)
                      have HR8 := Lib.hid (HR8.out.later HX.out)
                      refine hK.out _ _ (K3.out _ HB_z17.out) (fun hHeld => ?_)
                      clear hK K HX
                      try simp only [Act.put, List.setIfInBounds_toArray, List.set_cons_zero, List.set_cons_succ]
                      generalize (z16.alloc (.cells #[.string ka, .int .u64 (na : Int), .bool ga] 61)) = z17 at *
                      refine wpAnyH_ready (rs := [11]) (by kernel_rfl) (by simp) ?_
                      refine (AllReadyH.cons (o := { dst := some 52, op := Op.call { callee := Callee.value (Operand.func 41), args := #[Operand.tmp 49, Operand.tmp 51], argTypes := #[42, 45] }, type := 42, pos := "law.go:206", after := #[{ on := 8, ground := Ground.data }, { on := 10, ground := Ground.data }, { on := 8, ground := Ground.chain }], guard := none }) rfl (fun K hK => ?_) AllReadyH.nil)
                      · go_simp
                        go_at_call 41
                        refine (ap_any r8 _ (applyP d [(kb, nb, gb)]) [(ka, na, ga)] z17 HDB.out (by omega) (by simp) HKSA.out HR8.out HA10.out).mono ?_
                        rintro e z18 ⟨rY, rfl, h1, h5⟩
                        have HX : Hid (Below z17.heap.size z17 z18) := Lib.hid h5
                        have HB_z18 : Hid (Below w2.heap.size w2 z18) := Lib.hid (blThen HB_z17.out HX.out)
                        have HD := Lib.hid (HD.out.later HX.out)
                        have HA3 := Lib.hid (HA3.out.later HX.out)
                        have HA7 := Lib.hid (HA7.out.later HX.out)
                        have HRX := Lib.hid (HRX.out.later HX.out)
                        have HR8 := Lib.hid (HR8.out.later HX.out)
                        have HA10 := Lib.hid (HA10.out.later HX.out)
                        have HRY := Lib.hid h1
                        refine hK.out _ _ (K3.out _ HB_z18.out) (fun hHeld => ?_)
                        clear hK K HX h1 h5
                        try simp only [Act.put, List.setIfInBounds_toArray, List.set_cons_zero, List.set_cons_succ]
                        refine wpAnyH_take (i := 12) (oi := { dst := some 7, op := Op.assign (Operand.tmp 45), type := 42, pos := "law.go:206", after := #[{ on := 4, ground := Ground.data }, { on := 11, ground := Ground.chain }, { on := 0, ground := Ground.phase }, { on := 1, ground := Ground.phase }, { on := 2, ground := Ground.phase }, { on := 3, ground := Ground.phase }, { on := 4, ground := Ground.phase }, { on := 5, ground := Ground.textOnly Departure.lateStores }, { on := 6, ground := Ground.textOnly Departure.lateStores }, { on := 7, ground := Ground.textOnly Departure.lateStores }, { on := 8, ground := Ground.textOnly Departure.lateStoresUnsure }, { on := 9, ground := Ground.textOnly Departure.lateStores }, { on := 10, ground := Ground.textOnly Departure.lateStores }, { on := 11, ground := Ground.textOnly Departure.lateStoresUnsure }], guard := none }) (v := ?_) rfl (by kernel_rfl) (by kernel_rfl) (by kernel_rfl) (fun _ _ _ h => h) (Or.inl ⟨by rfl, ?_⟩) (by assumption) ?_
                        rotate_left
                        · intro w hSw
                          try dsimp only at hSw
                          go_simp
                          try with_reducible rfl
                        try simp only [Act.put, List.setIfInBounds_toArray, List.set_cons_zero, List.set_cons_succ]
                        refine wpAnyH_take (i := 13) (oi := { dst := some 8, op := Op.assign (Operand.tmp 52), type := 42, pos := "law.go:206", after := #[{ on := 11, ground := Ground.data }, { on := 12, ground := Ground.chain }, { on := 0, ground := Ground.phase }, { on := 1, ground := Ground.phase }, { on := 2, ground := Ground.phase }, { on := 3, ground := Ground.phase }, { on := 4, ground := Ground.phase }, { on := 5, ground := Ground.phase }, { on := 6, ground := Ground.phase }, { on := 7, ground := Ground.phase }, { on := 8, ground := Ground.phase }, { on := 9, ground := Ground.phase }, { on := 10, ground := Ground.phase }, { on := 11, ground := Ground.phase }, { on := 12, ground := Ground.phase }], guard := none }) (v := ?_) rfl (by kernel_rfl) (by kernel_rfl) (by kernel_rfl) (fun _ _ _ h => h) (Or.inl ⟨by rfl, ?_⟩) (by assumption) ?_
                        rotate_left
                        · intro w hSw
                          try dsimp only at hSw
                          go_simp
                          try with_reducible rfl
                        try simp only [Act.put, List.setIfInBounds_toArray, List.set_cons_zero, List.set_cons_succ]
                        refine wpAnyH_done (by kernel_rfl) ?_ _
                        go_wp2_with fail
                        go_meet
                        exact ⟨rX, rY, rfl, rfl, HRX.out, HRY.out, HB_z18.out⟩
                  · go_simp
                    have HX : Hid (Below z15.heap.size z15 (z15.alloc (.cells #[.string ka, .int .u64 (na : Int), .bool ga] 61))) := Lib.hid (blAlloc (Below.refl _ _) _)
                    have HB_z19 : Hid (Below w2.heap.size w2 (z15.alloc (.cells #[.string ka, .int .u64 (na : Int), .bool ga] 61))) := Lib.hid (blThen HB_z15.out HX.out)
                    have HA10 : Hid (SlG eW (z15.alloc (.cells #[.string ka, .int .u64 (na : Int), .bool ga] 61)) (.slice (some ⟨z15.heap.size, 0, none⟩) 1 1) [(ka, na, ga)]) := Lib.hid (list_G eW z15 _ [(ka, na, ga)] _ 1 _ rfl rfl rfl)
                    have HD := Lib.hid (HD.out.later HX.out)
                    have HA3 := Lib.hid (HA3.out.later HX.out)
                    have HA7 := Lib.hid (HA7.out.later HX.out)
                    have HRX := Lib.hid (HRX.out.later HX.out)
                    refine hK.out _ _ (K3.out _ HB_z19.out) (fun hHeld => ?_)
                    clear hK K HX
                    try simp only [Act.put, List.setIfInBounds_toArray, List.set_cons_zero, List.set_cons_succ]
                    generalize (z15.alloc (.cells #[.string ka, .int .u64 (na : Int), .bool ga] 61)) = z19 at *
                    refine wpAnyH_ready (rs := [8]) (by kernel_rfl) (by simp) ?_
                    refine (AllReadyH.cons (o := { dst := some 49, op := Op.call { callee := Callee.value (Operand.func 41), args := #[Operand.tmp 46, Operand.tmp 48], argTypes := #[42, 45] }, type := 42, pos := "law.go:206", after := #[{ on := 5, ground := Ground.data }, { on := 7, ground := Ground.data }, { on := 4, ground := Ground.chain }], guard := none }) rfl (fun K hK => ?_) AllReadyH.nil)
                    · go_simp
                      go_at_call 41
                      refine (ap_any vd _ d [(kb, nb, gb)] z19 HDT.out (by omega) (by simp) HKSB.out HD.out HA7.out).mono ?_
                      rintro e z20 ⟨r8, rfl, h1, h5⟩
                      have HX : Hid (Below z19.heap.size z19 z20) := Lib.hid h5
                      have HB_z20 : Hid (Below w2.heap.size w2 z20) := Lib.hid (blThen HB_z19.out HX.out)
                      have HD := Lib.hid (HD.out.later HX.out)
                      have HA3 := Lib.hid (HA3.out.later HX.out)
                      have HA7 := Lib.hid (HA7.out.later HX.out)
                      have HRX := Lib.hid (HRX.out.later HX.out)
                      have HA10 := Lib.hid (HA10.out.later HX.out)
                      have HR8 := Lib.hid h1
                      refine hK.out _ _ (K3.out _ HB_z20.out) (fun hHeld => ?_)
                      clear hK K HX h1 h5
                      try simp only [Act.put, List.setIfInBounds_toArray, List.set_cons_zero, List.set_cons_succ]
                      refine wpAnyH_ready (rs := [11]) (by kernel_rfl) (by simp) ?_
                      refine (AllReadyH.cons (o := { dst := some 52, op := Op.call { callee := Callee.value (Operand.func 41), args := #[Operand.tmp 49, Operand.tmp 51], argTypes := #[42, 45] }, type := 42, pos := "law.go:206", after := #[{ on := 8, ground := Ground.data }, { on := 10, ground := Ground.data }, { on := 8, ground := Ground.chain }], guard := none }) rfl (fun K hK => ?_) AllReadyH.nil)
                      · go_simp
                        go_at_call 41
                        refine (ap_any r8 _ (applyP d [(kb, nb, gb)]) [(ka, na, ga)] z20 HDB.out (by omega) (by simp) HKSA.out HR8.out HA10.out).mono ?_
                        rintro e z21 ⟨rY, rfl, h1, h5⟩
                        have HX : Hid (Below z20.heap.size z20 z21) := Lib.hid h5
                        have HB_z21 : Hid (Below w2.heap.size w2 z21) := Lib.hid (blThen HB_z20.out HX.out)
                        have HD := Lib.hid (HD.out.later HX.out)
                        have HA3 := Lib.hid (HA3.out.later HX.out)
                        have HA7 := Lib.hid (HA7.out.later HX.out)
                        have HRX := Lib.hid (HRX.out.later HX.out)
                        have HA10 := Lib.hid (HA10.out.later HX.out)
                        have HR8 := Lib.hid (HR8.out.later HX.out)
                        have HRY := Lib.hid h1
                        refine hK.out _ _ (K3.out _ HB_z21.out) (fun hHeld => ?_)
                        clear hK K HX h1 h5
                        try simp only [Act.put, List.setIfInBounds_toArray, List.set_cons_zero, List.set_cons_succ]
                        refine wpAnyH_take (i := 12) (oi := { dst := some 7, op := Op.assign (Operand.tmp 45), type := 42, pos := "law.go:206", after := #[{ on := 4, ground := Ground.data }, { on := 11, ground := Ground.chain }, { on := 0, ground := Ground.phase }, { on := 1, ground := Ground.phase }, { on := 2, ground := Ground.phase }, { on := 3, ground := Ground.phase }, { on := 4, ground := Ground.phase }, { on := 5, ground := Ground.textOnly Departure.lateStores }, { on := 6, ground := Ground.textOnly Departure.lateStores }, { on := 7, ground := Ground.textOnly Departure.lateStores }, { on := 8, ground := Ground.textOnly Departure.lateStoresUnsure }, { on := 9, ground := Ground.textOnly Departure.lateStores }, { on := 10, ground := Ground.textOnly Departure.lateStores }, { on := 11, ground := Ground.textOnly Departure.lateStoresUnsure }], guard := none }) (v := ?_) rfl (by kernel_rfl) (by kernel_rfl) (by kernel_rfl) (fun _ _ _ h => h) (Or.inl ⟨by rfl, ?_⟩) (by assumption) ?_
                        rotate_left
                        · intro w hSw
                          try dsimp only at hSw
                          go_simp
                          try with_reducible rfl
                        try simp only [Act.put, List.setIfInBounds_toArray, List.set_cons_zero, List.set_cons_succ]
                        refine wpAnyH_take (i := 13) (oi := { dst := some 8, op := Op.assign (Operand.tmp 52), type := 42, pos := "law.go:206", after := #[{ on := 11, ground := Ground.data }, { on := 12, ground := Ground.chain }, { on := 0, ground := Ground.phase }, { on := 1, ground := Ground.phase }, { on := 2, ground := Ground.phase }, { on := 3, ground := Ground.phase }, { on := 4, ground := Ground.phase }, { on := 5, ground := Ground.phase }, { on := 6, ground := Ground.phase }, { on := 7, ground := Ground.phase }, { on := 8, ground := Ground.phase }, { on := 9, ground := Ground.phase }, { on := 10, ground := Ground.phase }, { on := 11, ground := Ground.phase }, { on := 12, ground := Ground.phase }], guard := none }) (v := ?_) rfl (by kernel_rfl) (by kernel_rfl) (by kernel_rfl) (fun _ _ _ h => h) (Or.inl ⟨by rfl, ?_⟩) (by assumption) ?_
                        rotate_left
                        · intro w hSw
                          try dsimp only at hSw
                          go_simp
                          try with_reducible rfl
                        try simp only [Act.put, List.setIfInBounds_toArray, List.set_cons_zero, List.set_cons_succ]
                        refine wpAnyH_done (by kernel_rfl) ?_ _
                        go_wp2_with fail
                        go_meet
                        exact ⟨rX, rY, rfl, rfl, HRX.out, HRY.out, HB_z21.out⟩
                · go_simp
                  have HX : Hid (Below z14.heap.size z14 (z14.alloc (.cells #[.string ka, .int .u64 (na : Int), .bool ga] 61))) := Lib.hid (blAlloc (Below.refl _ _) _)
                  have HB_z22 : Hid (Below w2.heap.size w2 (z14.alloc (.cells #[.string ka, .int .u64 (na : Int), .bool ga] 61))) := Lib.hid (blThen HB_z14.out HX.out)
                  have HA10 : Hid (SlG eW (z14.alloc (.cells #[.string ka, .int .u64 (na : Int), .bool ga] 61)) (.slice (some ⟨z14.heap.size, 0, none⟩) 1 1) [(ka, na, ga)]) := Lib.hid (list_G eW z14 _ [(ka, na, ga)] _ 1 _ rfl rfl rfl)
                  have HD := Lib.hid (HD.out.later HX.out)
                  have HA3 := Lib.hid (HA3.out.later HX.out)
                  have HA7 := Lib.hid (HA7.out.later HX.out)
                  refine hK.out _ _ (K3.out _ HB_z22.out) (fun hHeld => ?_)
                  clear hK K HX
                  try simp only [Act.put, List.setIfInBounds_toArray, List.set_cons_zero, List.set_cons_succ]
                  generalize (z14.alloc (.cells #[.string ka, .int .u64 (na : Int), .bool ga] 61)) = z22 at *
                  refine wpAnyH_ready (rs := [4]) (by kernel_rfl) (by simp) ?_
                  refine (AllReadyH.cons (o := { dst := some 45, op := Op.call { callee := Callee.value (Operand.func 41), args := #[Operand.tmp 41, Operand.tmp 44], argTypes := #[42, 45] }, type := 42, pos := "law.go:206", after := #[{ on := 0, ground := Ground.data }, { on := 3, ground := Ground.data }], guard := none }) rfl (fun K hK => ?_) AllReadyH.nil)
                  · go_simp
                    go_at_call 41
                    refine (ap_any vd _ d [(ka, na, ga), (kb, nb, gb)] z22 HDT.out (by omega) (by simp) HKS2.out HD.out HA3.out).mono ?_
                    rintro e z23 ⟨rX, rfl, h1, h5⟩
                    have HX : Hid (Below z22.heap.size z22 z23) := Lib.hid h5
                    have HB_z23 : Hid (Below w2.heap.size w2 z23) := Lib.hid (blThen HB_z22.out HX.out)
                    have HD := Lib.hid (HD.out.later HX.out)
                    have HA3 := Lib.hid (HA3.out.later HX.out)
                    have HA7 := Lib.hid (HA7.out.later HX.out)
                    have HA10 := Lib.hid (HA10.out.later HX.out)
                    have HRX := Lib.hid h1
                    refine hK.out _ _ (K3.out _ HB_z23.out) (fun hHeld => ?_)
                    clear hK K HX h1 h5
                    try simp only [Act.put, List.setIfInBounds_toArray, List.set_cons_zero, List.set_cons_succ]
                    refine wpAnyH_ready (rs := [8]) (by kernel_rfl) (by simp) ?_
                    refine (AllReadyH.cons (o := { dst := some 49, op := Op.call { callee := Callee.value (Operand.func 41), args := #[Operand.tmp 46, Operand.tmp 48], argTypes := #[42, 45] }, type := 42, pos := "law.go:206", after := #[{ on := 5, ground := Ground.data }, { on := 7, ground := Ground.data }, { on := 4, ground := Ground.chain }], guard := none }) rfl (fun K hK => ?_) AllReadyH.nil)
                    · go_simp
                      go_at_call 41
                      refine (ap_any vd _ d [(kb, nb, gb)] z23 HDT.out (by omega) (by simp) HKSB.out HD.out HA7.out).mono ?_
                      rintro e z24 ⟨r8, rfl, h1, h5⟩
                      have HX : Hid (Below z23.heap.size z23 z24) := Lib.hid h5
                      have HB_z24 : Hid (Below w2.heap.size w2 z24) := Lib.hid (blThen HB_z23.out HX.out)
                      have HD := Lib.hid (HD.out.later HX.out)
                      have HA3 := Lib.hid (HA3.out.later HX.out)
                      have HA7 := Lib.hid (HA7.out.later HX.out)
                      have HA10 := Lib.hid (HA10.out.later HX.out)
                      have HRX := Lib.hid (HRX.out.later HX.out)
                      have HR8 := Lib.hid h1
                      refine hK.out _ _ (K3.out _ HB_z24.out) (fun hHeld => ?_)
                      clear hK K HX h1 h5
                      try simp only [Act.put, List.setIfInBounds_toArray, List.set_cons_zero, List.set_cons_succ]
                      refine wpAnyH_ready (rs := [11]) (by kernel_rfl) (by simp) ?_
                      refine (AllReadyH.cons (o := { dst := some 52, op := Op.call { callee := Callee.value (Operand.func 41), args := #[Operand.tmp 49, Operand.tmp 51], argTypes := #[42, 45] }, type := 42, pos := "law.go:206", after := #[{ on := 8, ground := Ground.data }, { on := 10, ground := Ground.data }, { on := 8, ground := Ground.chain }], guard := none }) rfl (fun K hK => ?_) AllReadyH.nil)
                      · go_simp
                        go_at_call 41
                        refine (ap_any r8 _ (applyP d [(kb, nb, gb)]) [(ka, na, ga)] z24 HDB.out (by omega) (by simp) HKSA.out HR8.out HA10.out).mono ?_
                        rintro e z25 ⟨rY, rfl, h1, h5⟩
                        have HX : Hid (Below z24.heap.size z24 z25) := Lib.hid h5
                        have HB_z25 : Hid (Below w2.heap.size w2 z25) := Lib.hid (blThen HB_z24.out HX.out)
                        have HD := Lib.hid (HD.out.later HX.out)
                        have HA3 := Lib.hid (HA3.out.later HX.out)
                        have HA7 := Lib.hid (HA7.out.later HX.out)
                        have HA10 := Lib.hid (HA10.out.later HX.out)
                        have HRX := Lib.hid (HRX.out.later HX.out)
                        have HR8 := Lib.hid (HR8.out.later HX.out)
                        have HRY := Lib.hid h1
                        refine hK.out _ _ (K3.out _ HB_z25.out) (fun hHeld => ?_)
                        clear hK K HX h1 h5
                        try simp only [Act.put, List.setIfInBounds_toArray, List.set_cons_zero, List.set_cons_succ]
                        refine wpAnyH_take (i := 12) (oi := { dst := some 7, op := Op.assign (Operand.tmp 45), type := 42, pos := "law.go:206", after := #[{ on := 4, ground := Ground.data }, { on := 11, ground := Ground.chain }, { on := 0, ground := Ground.phase }, { on := 1, ground := Ground.phase }, { on := 2, ground := Ground.phase }, { on := 3, ground := Ground.phase }, { on := 4, ground := Ground.phase }, { on := 5, ground := Ground.textOnly Departure.lateStores }, { on := 6, ground := Ground.textOnly Departure.lateStores }, { on := 7, ground := Ground.textOnly Departure.lateStores }, { on := 8, ground := Ground.textOnly Departure.lateStoresUnsure }, { on := 9, ground := Ground.textOnly Departure.lateStores }, { on := 10, ground := Ground.textOnly Departure.lateStores }, { on := 11, ground := Ground.textOnly Departure.lateStoresUnsure }], guard := none }) (v := ?_) rfl (by kernel_rfl) (by kernel_rfl) (by kernel_rfl) (fun _ _ _ h => h) (Or.inl ⟨by rfl, ?_⟩) (by assumption) ?_
                        rotate_left
                        · intro w hSw
                          try dsimp only at hSw
                          go_simp
                          try with_reducible rfl
                        try simp only [Act.put, List.setIfInBounds_toArray, List.set_cons_zero, List.set_cons_succ]
                        refine wpAnyH_take (i := 13) (oi := { dst := some 8, op := Op.assign (Operand.tmp 52), type := 42, pos := "law.go:206", after := #[{ on := 11, ground := Ground.data }, { on := 12, ground := Ground.chain }, { on := 0, ground := Ground.phase }, { on := 1, ground := Ground.phase }, { on := 2, ground := Ground.phase }, { on := 3, ground := Ground.phase }, { on := 4, ground := Ground.phase }, { on := 5, ground := Ground.phase }, { on := 6, ground := Ground.phase }, { on := 7, ground := Ground.phase }, { on := 8, ground := Ground.phase }, { on := 9, ground := Ground.phase }, { on := 10, ground := Ground.phase }, { on := 11, ground := Ground.phase }, { on := 12, ground := Ground.phase }], guard := none }) (v := ?_) rfl (by kernel_rfl) (by kernel_rfl) (by kernel_rfl) (fun _ _ _ h => h) (Or.inl ⟨by rfl, ?_⟩) (by assumption) ?_
                        rotate_left
                        · intro w hSw
                          try dsimp only at hSw
                          go_simp
                          try with_reducible rfl
                        try simp only [Act.put, List.setIfInBounds_toArray, List.set_cons_zero, List.set_cons_succ]
                        refine wpAnyH_done (by kernel_rfl) ?_ _
                        go_wp2_with fail
                        go_meet
                        exact ⟨rX, rY, rfl, rfl, HRX.out, HRY.out, HB_z25.out⟩
              · go_simp
                have HX : Hid (Below z1.heap.size z1 (z1.alloc (.cells #[.string ka, .int .u64 (na : Int), .bool ga] 61))) := Lib.hid (blAlloc (Below.refl _ _) _)
                have HB_z26 : Hid (Below w2.heap.size w2 (z1.alloc (.cells #[.string ka, .int .u64 (na : Int), .bool ga] 61))) := Lib.hid (blThen HB_z1.out HX.out)
                have HA10 : Hid (SlG eW (z1.alloc (.cells #[.string ka, .int .u64 (na : Int), .bool ga] 61)) (.slice (some ⟨z1.heap.size, 0, none⟩) 1 1) [(ka, na, ga)]) := Lib.hid (list_G eW z1 _ [(ka, na, ga)] _ 1 _ rfl rfl rfl)
                have HD := Lib.hid (HD.out.later HX.out)
                have HA3 := Lib.hid (HA3.out.later HX.out)
                refine hK.out _ _ (K3.out _ HB_z26.out) (fun hHeld => ?_)
                clear hK K HX
                try simp only [Act.put, List.setIfInBounds_toArray, List.set_cons_zero, List.set_cons_succ]
                generalize (z1.alloc (.cells #[.string ka, .int .u64 (na : Int), .bool ga] 61)) = z26 at *
                refine wpAnyH_ready (rs := [4, 7]) (by kernel_rfl) (by simp) ?_
                refine (AllReadyH.cons (o := { dst := some 45, op := Op.call { callee := Callee.value (Operand.func 41), args := #[Operand.tmp 41, Operand.tmp 44], argTypes := #[42, 45] }, type := 42, pos := "law.go:206", after := #[{ on := 0, ground := Ground.data }, { on := 3, ground := Ground.data }], guard := none }) rfl (fun K hK => ?_) (AllReadyH.cons (o := { dst := some 48, op := Op.buildSlice 45 1 #[(0, Operand.tmp 47)], type := 45, pos := "law.go:206", after := #[{ on := 6, ground := Ground.data }], guard := none }) rfl (fun K hK => ?_) AllReadyH.nil))
                · go_simp
                  go_at_call 41
                  refine (ap_any vd _ d [(ka, na, ga), (kb, nb, gb)] z26 HDT.out (by omega) (by simp) HKS2.out HD.out HA3.out).mono ?_
                  rintro e z27 ⟨rX, rfl, h1, h5⟩
                  have HX : Hid (Below z26.heap.size z26 z27) := Lib.hid h5
                  have HB_z27 : Hid (Below w2.heap.size w2 z27) := Lib.hid (blThen HB_z26.out HX.out)
                  have HD := Lib.hid (HD.out.later HX.out)
                  have HA3 := Lib.hid (HA3.out.later HX.out)
                  have HA10 := Lib.hid (HA10.out.later HX.out)
                  have HRX := Lib.hid h1
                  refine hK.out _ _ (K3.out _ HB_z27.out) (fun hHeld => ?_)
                  clear hK K HX h1 h5
                  try simp only [Act.put, List.setIfInBounds_toArray, List.set_cons_zero, List.set_cons_succ]
                  refine wpAnyH_ready (rs := [7]) (by kernel_rfl) (by simp) ?_
                  refine (AllReadyH.cons (o := { dst := some 48, op := Op.buildSlice 45 1 #[(0, Operand.tmp 47)], type := 45, pos := "law.go:206", after := #[{ on := 6, ground := Ground.data }], guard := none }) rfl (fun K hK => ?_) AllReadyH.nil)
                  · go_simp
                    have HX : Hid (Below z27.heap.size z27 (z27.alloc (.cells #[.string kb, .int .u64 (nb : Int), .bool gb] 61))) := Lib.hid (blAlloc (Below.refl _ _) _)
                    have HB_z28 : Hid (Below w2.heap.size w2 (z27.alloc (.cells #[.string kb, .int .u64 (nb : Int), .bool gb] 61))) := Lib.hid (blThen HB_z27.out HX.out)
                    have HA7 : Hid (SlG eW (z27.alloc (.cells #[.string kb, .int .u64 (nb : Int), .bool gb] 61)) (.slice (some ⟨z27.heap.size, 0, none⟩) 1 1) [(kb, nb, gb)]) := Lib.hid (list_G eW z27 _ [(kb, nb, gb)] _ 1 _ rfl rfl rfl)
                    have HD := Lib.hid (HD.out.later HX.out)
                    have HA3 := Lib.hid (HA3.out.later HX.out)
                    have HA10 := Lib.hid (HA10.out.later HX.out)
                    have HRX := Lib.hid (HRX.out.later HX.out)
                    refine hK.out _ _ (K3.out _ HB_z28.out) (fun hHeld => ?_)
                    clear hK K HX
                    try simp only [Act.put, List.setIfInBounds_toArray, List.set_cons_zero, List.set_cons_succ]
                    generalize (z27.alloc (.cells #[.string kb, .int .u64 (nb : Int), .bool gb] 61)) = z28 at *
                    refine wpAnyH_ready (rs := [8]) (by kernel_rfl) (by simp) ?_
                    refine (AllReadyH.cons (o := { dst := some 49, op := Op.call { callee := Callee.value (Operand.func 41), args := #[Operand.tmp 46, Operand.tmp 48], argTypes := #[42, 45] }, type := 42, pos := "law.go:206", after := #[{ on := 5, ground := Ground.data }, { on := 7, ground := Ground.data }, { on := 4, ground := Ground.chain }], guard := none }) rfl (fun K hK => ?_) AllReadyH.nil)
                    · go_simp
                      go_at_call 41
                      refine (ap_any vd _ d [(kb, nb, gb)] z28 HDT.out (by omega) (by simp) HKSB.out HD.out HA7.out).mono ?_
                      rintro e z29 ⟨r8, rfl, h1, h5⟩
                      have HX : Hid (Below z28.heap.size z28 z29) := Lib.hid h5
                      have HB_z29 : Hid (Below w2.heap.size w2 z29) := Lib.hid (blThen HB_z28.out HX.out)
                      have HD := Lib.hid (HD.out.later HX.out)
                      have HA3 := Lib.hid (HA3.out.later HX.out)
                      have HA10 := Lib.hid (HA10.out.later HX.out)
                      have HRX := Lib.hid (HRX.out.later HX.out)
                      have HA7 := Lib.hid (HA7.out.later HX.out)
                      have HR8 := Lib.hid h1
                      refine hK.out _ _ (K3.out _ HB_z29.out) (fun hHeld => ?_)
                      clear hK K HX h1 h5
                      try simp only [Act.put, List.setIfInBounds_toArray, List.set_cons_zero, List.set_cons_succ]
                      refine wpAnyH_ready (rs := [11]) (by kernel_rfl) (by simp) ?_
                      refine (AllReadyH.cons (o := { dst := some 52, op := Op.call { callee := Callee.value (Operand.func 41), args := #[Operand.tmp 49, Operand.tmp 51], argTypes := #[42, 45] }, type := 42, pos := "law.go:206", after := #[{ on := 8, ground := Ground.data }, { on := 10, ground := Ground.data }, { on := 8, ground := Ground.chain }], guard := none }) rfl (fun K hK => ?_) AllReadyH.nil)
                      · go_simp
                        go_at_call 41
                        refine (ap_any r8 _ (applyP d [(kb, nb, gb)]) [(ka, na, ga)] z29 HDB.out (by omega) (by simp) HKSA.out HR8.out HA10.out).mono ?_
                        rintro e z30 ⟨rY, rfl, h1, h5⟩
                        have HX : Hid (Below z29.heap.size z29 z30) := Lib.hid h5
                        have HB_z30 : Hid (Below w2.heap.size w2 z30) := Lib.hid (blThen HB_z29.out HX.out)
                        have HD := Lib.hid (HD.out.later HX.out)
                        have HA3 := Lib.hid (HA3.out.later HX.out)
                        have HA10 := Lib.hid (HA10.out.later HX.out)
                        have HRX := Lib.hid (HRX.out.later HX.out)
                        have HA7 := Lib.hid (HA7.out.later HX.out)
                        have HR8 := Lib.hid (HR8.out.later HX.out)
                        have HRY := Lib.hid h1
                        refine hK.out _ _ (K3.out _ HB_z30.out) (fun hHeld => ?_)
                        clear hK K HX h1 h5
                        try simp only [Act.put, List.setIfInBounds_toArray, List.set_cons_zero, List.set_cons_succ]
                        refine wpAnyH_take (i := 12) (oi := { dst := some 7, op := Op.assign (Operand.tmp 45), type := 42, pos := "law.go:206", after := #[{ on := 4, ground := Ground.data }, { on := 11, ground := Ground.chain }, { on := 0, ground := Ground.phase }, { on := 1, ground := Ground.phase }, { on := 2, ground := Ground.phase }, { on := 3, ground := Ground.phase }, { on := 4, ground := Ground.phase }, { on := 5, ground := Ground.textOnly Departure.lateStores }, { on := 6, ground := Ground.textOnly Departure.lateStores }, { on := 7, ground := Ground.textOnly Departure.lateStores }, { on := 8, ground := Ground.textOnly Departure.lateStoresUnsure }, { on := 9, ground := Ground.textOnly Departure.lateStores }, { on := 10, ground := Ground.textOnly Departure.lateStores }, { on := 11, ground := Ground.textOnly Departure.lateStoresUnsure }], guard := none }) (v := ?_) rfl (by kernel_rfl) (by kernel_rfl) (by kernel_rfl) (fun _ _ _ h => h) (Or.inl ⟨by rfl, ?_⟩) (by assumption) ?_
                        rotate_left
                        · intro w hSw
                          try dsimp only at hSw
                          go_simp
                          try with_reducible rfl
                        try simp only [Act.put, List.setIfInBounds_toArray, List.set_cons_zero, List.set_cons_succ]
                        refine wpAnyH_take (i := 13) (oi := { dst := some 8, op := Op.assign (Operand.tmp 52), type := 42, pos := "law.go:206", after := #[{ on := 11, ground := Ground.data }, { on := 12, ground := Ground.chain }, { on := 0, ground := Ground.phase }, { on := 1, ground := Ground.phase }, { on := 2, ground := Ground.phase }, { on := 3, ground := Ground.phase }, { on := 4, ground := Ground.phase }, { on := 5, ground := Ground.phase }, { on := 6, ground := Ground.phase }, { on := 7, ground := Ground.phase }, { on := 8, ground := Ground.phase }, { on := 9, ground := Ground.phase }, { on := 10, ground := Ground.phase }, { on := 11, ground := Ground.phase }, { on := 12, ground := Ground.phase }], guard := none }) (v := ?_) rfl (by kernel_rfl) (by kernel_rfl) (by kernel_rfl) (fun _ _ _ h => h) (Or.inl ⟨by rfl, ?_⟩) (by assumption) ?_
                        rotate_left
                        · intro w hSw
                          try dsimp only at hSw
                          go_simp
                          try with_reducible rfl
                        try simp only [Act.put, List.setIfInBounds_toArray, List.set_cons_zero, List.set_cons_succ]
                        refine wpAnyH_done (by kernel_rfl) ?_ _
                        go_wp2_with fail
                        go_meet
                        exact ⟨rX, rY, rfl, rfl, HRX.out, HRY.out, HB_z30.out⟩
                · go_simp
                  have HX : Hid (Below z26.heap.size z26 (z26.alloc (.cells #[.string kb, .int .u64 (nb : Int), .bool gb] 61))) := Lib.hid (blAlloc (Below.refl _ _) _)
                  have HB_z31 : Hid (Below w2.heap.size w2 (z26.alloc (.cells #[.string kb, .int .u64 (nb : Int), .bool gb] 61))) := Lib.hid (blThen HB_z26.out HX.out)
                  have HA7 : Hid (SlG eW (z26.alloc (.cells #[.string kb, .int .u64 (nb : Int), .bool gb] 61)) (.slice (some ⟨z26.heap.size, 0, none⟩) 1 1) [(kb, nb, gb)]) := Lib.hid (list_G eW z26 _ [(kb, nb, gb)] _ 1 _ rfl rfl rfl)
                  have HD := Lib.hid (HD.out.later HX.out)
                  have HA3 := Lib.hid (HA3.out.later HX.out)
                  have HA10 := Lib.hid (HA10.out.later HX.out)
                  refine hK.out _ _ (K3.out _ HB_z31.out) (fun hHeld => ?_)
                  clear hK K HX
                  try simp only [Act.put, List.setIfInBounds_toArray, List.set_cons_zero, List.set_cons_succ]
                  generalize (z26.alloc (.cells #[.string kb, .int .u64 (nb : Int), .bool gb] 61)) = z31 at *
                  refine wpAnyH_ready (rs := [4]) (by kernel_rfl) (by simp) ?_
                  refine (AllReadyH.cons (o := { dst := some 45, op := Op.call { callee := Callee.value (Operand.func 41), args := #[Operand.tmp 41, Operand.tmp 44], argTypes := #[42, 45] }, type := 42, pos := "law.go:206", after := #[{ on := 0, ground := Ground.data }, { on := 3, ground := Ground.data }], guard := none }) rfl (fun K hK => ?_) AllReadyH.nil)
                  · go_simp
                    go_at_call 41
                    refine (ap_any vd _ d [(ka, na, ga), (kb, nb, gb)] z31 HDT.out (by omega) (by simp) HKS2.out HD.out HA3.out).mono ?_
                    rintro e z32 ⟨rX, rfl, h1, h5⟩
                    have HX : Hid (Below z31.heap.size z31 z32) := Lib.hid h5
                    have HB_z32 : Hid (Below w2.heap.size w2 z32) := Lib.hid (blThen HB_z31.out HX.out)
                    have HD := Lib.hid (HD.out.later HX.out)
                    have HA3 := Lib.hid (HA3.out.later HX.out)
                    have HA10 := Lib.hid (HA10.out.later HX.out)
                    have HA7 := Lib.hid (HA7.out.later HX.out)
                    have HRX := Lib.hid h1
                    refine hK.out _ _ (K3.out _ HB_z32.out) (fun hHeld => ?_)
                    clear hK K HX h1 h5
                    try simp only [Act.put, List.setIfInBounds_toArray, List.set_cons_zero, List.set_cons_succ]
                    refine wpAnyH_ready (rs := [8]) (by kernel_rfl) (by simp) ?_
                    refine (AllReadyH.cons (o := { dst := some 49, op := Op.call { callee := Callee.value (Operand.func 41), args := #[Operand.tmp 46, Operand.tmp 48], argTypes := #[42, 45] }, type := 42, pos := "law.go:206", after := #[{ on := 5, ground := Ground.data }, { on := 7, ground := Ground.data }, { on := 4, ground := Ground.chain }], guard := none }) rfl (fun K hK => ?_) AllReadyH.nil)
                    · go_simp
                      go_at_call 41
                      refine (ap_any vd _ d [(kb, nb, gb)] z32 HDT.out (by omega) (by simp) HKSB.out HD.out HA7.out).mono ?_
                      rintro e z33 ⟨r8, rfl, h1, h5⟩
                      have HX : Hid (Below z32.heap.size z32 z33) := Lib.hid h5
                      have HB_z33 : Hid (Below w2.heap.size w2 z33) := Lib.hid (blThen HB_z32.out HX.out)
                      have HD := Lib.hid (HD.out.later HX.out)
                      have HA3 := Lib.hid (HA3.out.later HX.out)
                      have HA10 := Lib.hid (HA10.out.later HX.out)
                      have HA7 := Lib.hid (HA7.out.later HX.out)
                      have HRX := Lib.hid (HRX.out.later HX.out)
                      have HR8 := Lib.hid h1
                      refine hK.out _ _ (K3.out _ HB_z33.out) (fun hHeld => ?_)
                      clear hK K HX h1 h5
                      try simp only [Act.put, List.setIfInBounds_toArray, List.set_cons_zero, List.set_cons_succ]
                      refine wpAnyH_ready (rs := [11]) (by kernel_rfl) (by simp) ?_
                      refine (AllReadyH.cons (o := { dst := some 52, op := Op.call { callee := Callee.value (Operand.func 41), args := #[Operand.tmp 49, Operand.tmp 51], argTypes := #[42, 45] }, type := 42, pos := "law.go:206", after := #[{ on := 8, ground := Ground.data }, { on := 10, ground := Ground.data }, { on := 8, ground := Ground.chain }], guard := none }) rfl (fun K hK => ?_) AllReadyH.nil)
                      · go_simp
                        go_at_call 41
                        refine (ap_any r8 _ (applyP d [(kb, nb, gb)]) [(ka, na, ga)] z33 HDB.out (by omega) (by simp) HKSA.out HR8.out HA10.out).mono ?_
                        rintro e z34 ⟨rY, rfl, h1, h5⟩
                        have HX : Hid (Below z33.heap.size z33 z34) := Lib.hid h5
                        have HB_z34 : Hid (Below w2.heap.size w2 z34) := Lib.hid (blThen HB_z33.out HX.out)
                        have HD := Lib.hid (HD.out.later HX.out)
                        have HA3 := Lib.hid (HA3.out.later HX.out)
                        have HA10 := Lib.hid (HA10.out.later HX.out)
                        have HA7 := Lib.hid (HA7.out.later HX.out)
                        have HRX := Lib.hid (HRX.out.later HX.out)
                        have HR8 := Lib.hid (HR8.out.later HX.out)
                        have HRY := Lib.hid h1
                        refine hK.out _ _ (K3.out _ HB_z34.out) (fun hHeld => ?_)
                        clear hK K HX h1 h5
                        try simp only [Act.put, List.setIfInBounds_toArray, List.set_cons_zero, List.set_cons_succ]
                        refine wpAnyH_take (i := 12) (oi := { dst := some 7, op := Op.assign (Operand.tmp 45), type := 42, pos := "law.go:206", after := #[{ on := 4, ground := Ground.data }, { on := 11, ground := Ground.chain }, { on := 0, ground := Ground.phase }, { on := 1, ground := Ground.phase }, { on := 2, ground := Ground.phase }, { on := 3, ground := Ground.phase }, { on := 4, ground := Ground.phase }, { on := 5, ground := Ground.textOnly Departure.lateStores }, { on := 6, ground := Ground.textOnly Departure.lateStores }, { on := 7, ground := Ground.textOnly Departure.lateStores }, { on := 8, ground := Ground.textOnly Departure.lateStoresUnsure }, { on := 9, ground := Ground.textOnly Departure.lateStores }, { on := 10, ground := Ground.textOnly Departure.lateStores }, { on := 11, ground := Ground.textOnly Departure.lateStoresUnsure }], guard := none }) (v := ?_) rfl (by kernel_rfl) (by kernel_rfl) (by kernel_rfl) (fun _ _ _ h => h) (Or.inl ⟨by rfl, ?_⟩) (by assumption) ?_
                        rotate_left
                        · intro w hSw
                          try dsimp only at hSw
                          go_simp
                          try with_reducible rfl
                        try simp only [Act.put, List.setIfInBounds_toArray, List.set_cons_zero, List.set_cons_succ]
                        refine wpAnyH_take (i := 13) (oi := { dst := some 8, op := Op.assign (Operand.tmp 52), type := 42, pos := "law.go:206", after := #[{ on := 11, ground := Ground.data }, { on := 12, ground := Ground.chain }, { on := 0, ground := Ground.phase }, { on := 1, ground := Ground.phase }, { on := 2, ground := Ground.phase }, { on := 3, ground := Ground.phase }, { on := 4, ground := Ground.phase }, { on := 5, ground := Ground.phase }, { on := 6, ground := Ground.phase }, { on := 7, ground := Ground.phase }, { on := 8, ground := Ground.phase }, { on := 9, ground := Ground.phase }, { on := 10, ground := Ground.phase }, { on := 11, ground := Ground.phase }, { on := 12, ground := Ground.phase }], guard := none }) (v := ?_) rfl (by kernel_rfl) (by kernel_rfl) (by kernel_rfl) (fun _ _ _ h => h) (Or.inl ⟨by rfl, ?_⟩) (by assumption) ?_
                        rotate_left
                        · intro w hSw
                          try dsimp only at hSw
                          go_simp
                          try with_reducible rfl
                        try simp only [Act.put, List.setIfInBounds_toArray, List.set_cons_zero, List.set_cons_succ]
                        refine wpAnyH_done (by kernel_rfl) ?_ _
                        go_wp2_with fail
                        go_meet
                        exact ⟨rX, rY, rfl, rfl, HRX.out, HRY.out, HB_z34.out⟩
            · go_simp
              have HX : Hid (Below z0.heap.size z0 (z0.alloc (.cells #[.string kb, .int .u64 (nb : Int), .bool gb] 61))) := Lib.hid (blAlloc (Below.refl _ _) _)
              have HB_z35 : Hid (Below w2.heap.size w2 (z0.alloc (.cells #[.string kb, .int .u64 (nb : Int), .bool gb] 61))) := Lib.hid (blThen HB_z0.out HX.out)
              have HA7 : Hid (SlG eW (z0.alloc (.cells #[.string kb, .int .u64 (nb : Int), .bool gb] 61)) (.slice (some ⟨z0.heap.size, 0, none⟩) 1 1) [(kb, nb, gb)]) := Lib.hid (list_G eW z0 _ [(kb, nb, gb)] _ 1 _ rfl rfl rfl)
              have HD := Lib.hid (HD.out.later HX.out)
              refine hK.out _ _ (K3.out _ HB_z35.out) (fun hHeld => ?_)
              clear hK K HX
              try simp only [Act.put, List.setIfInBounds_toArray, List.set_cons_zero, List.set_cons_succ]
              generalize (z0.alloc (.cells #[.string kb, .int .u64 (nb : Int), .bool gb] 61)) = z35 at *
              refine wpAnyH_ready (rs := [3, 10]) (by kernel_rfl) (by simp) ?_
              refine (AllReadyH.cons (o := { dst := some 44, op := Op.buildSlice 45 2 #[(0, Operand.tmp 42), (1, Operand.tmp 43)], type := 45, pos := "law.go:206", after := #[{ on := 1, ground := Ground.data }, { on := 2, ground := Ground.data }], guard := none }) rfl (fun K hK => ?_) (AllReadyH.cons (o := { dst := some 51, op := Op.buildSlice 45 1 #[(0, Operand.tmp 50)], type := 45, pos := "law.go:206", after := #[{ on := 9, ground := Ground.data }], guard := none }) rfl (fun K hK => ?_) AllReadyH.nil))
              · go_simp
                have HX : Hid (Below z35.heap.size z35 (z35.alloc (.cells #[.string ka, .int .u64 (na : Int), .bool ga, .string kb, .int .u64 (nb : Int), .bool gb] 61))) := Lib.hid (blAlloc (Below.refl _ _) _)
                have HB_z36 : Hid (Below w2.heap.size w2 (z35.alloc (.cells #[.string ka, .int .u64 (na : Int), .bool ga, .string kb, .int .u64 (nb : Int), .bool gb] 61))) := Lib.hid (blThen HB_z35.out HX.out)
                have HA3 : Hid (SlG eW (z35.alloc (.cells #[.string ka, .int .u64 (na : Int), .bool ga, .string kb, .int .u64 (nb : Int), .bool gb] 61)) (.slice (some ⟨z35.heap.size, 0, none⟩) 2 2) [(ka, na, ga), (kb, nb, gb)]) := Lib.hid (list_G eW z35 _ [(ka, na, ga), (kb, nb, gb)] _ 2 _ rfl rfl rfl)
                have HD := Lib.hid (HD.out.later HX.out)
                have HA7 := Lib.hid (HA7.out.later HX.out)
                refine hK.out _ _ (K3.out _ HB_z36.out) (fun hHeld => ?_)
                clear hK K HX
                try simp only [Act.put, List.setIfInBounds_toArray, List.set_cons_zero, List.set_cons_succ]
                generalize (z35.alloc (.cells #[.string ka, .int .u64 (na : Int), .bool ga, .string kb, .int .u64 (nb : Int), .bool gb] 61)) = z36 at *
                refine wpAnyH_ready (rs := [4, 10]) (by kernel_rfl) (by simp) ?_
                refine (AllReadyH.cons (o := { dst := some 45, op := Op.call { callee := Callee.value (Operand.func 41), args := #[Operand.tmp 41, Operand.tmp 44], argTypes := #[42, 45] }, type := 42, pos := "law.go:206", after := #[{ on := 0, ground := Ground.data }, { on := 3, ground := Ground.data }], guard := none }) rfl (fun K hK => ?_) (AllReadyH.cons (o := { dst := some 51, op := Op.buildSlice 45 1 #[(0, Operand.tmp 50)], type := 45, pos := "law.go:206", after := #[{ on := 9, ground := Ground.data }], guard := none }) rfl (fun K hK => ?_) AllReadyH.nil))
                · go_simp
                  go_at_call 41
                  refine (ap_any vd _ d [(ka, na, ga), (kb, nb, gb)] z36 HDT.out (by omega) (by simp) HKS2.out HD.out HA3.out).mono ?_
                  rintro e z37 ⟨rX, rfl, h1, h5⟩
                  have HX : Hid (Below z36.heap.size z36 z37) := Lib.hid h5
                  have HB_z37 : Hid (Below w2.heap.size w2 z37) := Lib.hid (blThen HB_z36.out HX.out)
                  have HD := Lib.hid (HD.out.later HX.out)
                  have HA7 := Lib.hid (HA7.out.later HX.out)
                  have HA3 := Lib.hid (HA3.out.later HX.out)
                  have HRX := Lib.hid h1
                  refine hK.out _ _ (K3.out _ HB_z37.out) (fun hHeld => ?_)
                  clear hK K HX h1 h5
                  try simp only [Act.put, List.setIfInBounds_toArray, List.set_cons_zero, List.set_cons_succ]
                  refine wpAnyH_ready (rs := [8, 10]) (by kernel_rfl) (by simp) ?_
                  refine (AllReadyH.cons (o := { dst := some 49, op := Op.call { callee := Callee.value (Operand.func 41), args := #[Operand.tmp 46, Operand.tmp 48], argTypes := #[42, 45] }, type := 42, pos := "law.go:206", after := #[{ on := 5, ground := Ground.data }, { on := 7, ground := Ground.data }, { on := 4, ground := Ground.chain }], guard := none }) rfl (fun K hK => ?_) (AllReadyH.cons (o := { dst := some 51, op := Op.buildSlice 45 1 #[(0, Operand.tmp 50)], type := 45, pos := "law.go:206", after := #[{ on := 9, ground := Ground.data }], guard := none }) rfl (fun K hK => ?_) AllReadyH.nil))
                  · go_simp
                    go_at_call 41
                    refine (ap_any vd _ d [(kb, nb, gb)] z37 HDT.out (by omega) (by simp) HKSB.out HD.out HA7.out).mono ?_
                    rintro e z38 ⟨r8, rfl, h1, h5⟩
                    have HX : Hid (Below z37.heap.size z37 z38) := Lib.hid h5
                    have HB_z38 : Hid (Below w2.heap.size w2 z38) := Lib.hid (blThen HB_z37.out HX.out)
                    have HD := Lib.hid (HD.out.later HX.out)
                    have HA7 := Lib.hid (HA7.out.later HX.out)
                    have HA3 := Lib.hid (HA3.out.later HX.out)
                    have HRX := Lib.hid (HRX.out.later HX.out)
                    have HR8 := Lib.hid h1
                    refine hK.out _ _ (K3.out _ HB_z38.out) (fun hHeld => ?_)
                    clear hK K HX h1 h5
                    try simp only [Act.put, List.setIfInBounds_toArray, List.set_cons_zero, List.set_cons_succ]
                    refine wpAnyH_ready (rs := [10]) (by kernel_rfl) (by simp) ?_
                    refine (AllReadyH.cons (o := { dst := some 51, op := Op.buildSlice 45 1 #[(0, Operand.tmp 50)], type := 45, pos := "law.go:206", after := #[{ on := 9, ground := Ground.data }], guard := none }) rfl (fun K hK => ?_) AllReadyH.nil)
                    · go_simp
                      have HX : Hid (Below z38.heap.size z38 (z38.alloc (.cells #[.string ka, .int .u64 (na : Int), .bool ga] 61))) := Lib.hid (blAlloc (Below.refl _ _) _)
                      have HB_z39 : Hid (Below w2.heap.size w2 (z38.alloc (.cells #[.string ka, .int .u64 (na : Int), .bool ga] 61))) := Lib.hid (blThen HB_z38.out HX.out)
                      have HA10 : Hid (SlG eW (z38.alloc (.cells #[.string ka, .int .u64 (na : Int), .bool ga] 61)) (.slice (some ⟨z38.heap.size, 0, none⟩) 1 1) [(ka, na, ga)]) := Lib.hid (list_G eW z38 _ [(ka, na, ga)] _ 1 _ rfl rfl rfl)
                      have HD := Lib.hid (HD.out.later HX.out)
                      have HA7 := Lib.hid (HA7.out.later HX.out)
                      have HA3 := Lib.hid (HA3.out.later HX.out)
                      have HRX := Lib.hid (HRX.out.later HX.out)
                      have HR8 := Lib.hid (HR8.out.later HX.out)
                      refine hK.out _ _ (K3.out _ HB_z39.out) (fun hHeld => ?_)
                      clear hK K HX
                      try simp only [Act.put, List.setIfInBounds_toArray, List.set_cons_zero, List.set_cons_succ]
                      generalize (z38.alloc (.cells #[.string ka, .int .u64 (na : Int), .bool ga] 61)) = z39 at *
                      refine wpAnyH_ready (rs := [11]) (by kernel_rfl) (by simp) ?_
                      refine (AllReadyH.cons (o := { dst := some 52, op := Op.call { callee := Callee.value (Operand.func 41), args := #[Operand.tmp 49, Operand.tmp 51], argTypes := #[42, 45] }, type := 42, pos := "law.go:206", after := #[{ on := 8, ground := Ground.data }, { on := 10, ground := Ground.data }, { on := 8, ground := Ground.chain }], guard := none }) rfl (fun K hK => ?_) AllReadyH.nil)
                      · go_simp
                        go_at_call 41
                        refine (ap_any r8 _ (applyP d [(kb, nb, gb)]) [(ka, na, ga)] z39 HDB.out (by omega) (by simp) HKSA.out HR8.out HA10.out).mono ?_
                        rintro e z40 ⟨rY, rfl, h1, h5⟩
                        have HX : Hid (Below z39.heap.size z39 z40) := Lib.hid h5
                        have HB_z40 : Hid (Below w2.heap.size w2 z40) := Lib.hid (blThen HB_z39.out HX.out)
                        have HD := Lib.hid (HD.out.later HX.out)
                        have HA7 := Lib.hid (HA7.out.later HX.out)
                        have HA3 := Lib.hid (HA3.out.later HX.out)
                        have HRX := Lib.hid (HRX.out.later HX.out)
                        have HR8 := Lib.hid (HR8.out.later HX.out)
                        have HA10 := Lib.hid (HA10.out.later HX.out)
                        have HRY := Lib.hid h1
                        refine hK.out _ _ (K3.out _ HB_z40.out) (fun hHeld => ?_)
                        clear hK K HX h1 h5
                        try simp only [Act.put, List.setIfInBounds_toArray, List.set_cons_zero, List.set_cons_succ]
                        refine wpAnyH_take (i := 12) (oi := { dst := some 7, op := Op.assign (Operand.tmp 45), type := 42, pos := "law.go:206", after := #[{ on := 4, ground := Ground.data }, { on := 11, ground := Ground.chain }, { on := 0, ground := Ground.phase }, { on := 1, ground := Ground.phase }, { on := 2, ground := Ground.phase }, { on := 3, ground := Ground.phase }, { on := 4, ground := Ground.phase }, { on := 5, ground := Ground.textOnly Departure.lateStores }, { on := 6, ground := Ground.textOnly Departure.lateStores }, { on := 7, ground := Ground.textOnly Departure.lateStores }, { on := 8, ground := Ground.textOnly Departure.lateStoresUnsure }, { on := 9, ground := Ground.textOnly Departure.lateStores }, { on := 10, ground := Ground.textOnly Departure.lateStores }, { on := 11, ground := Ground.textOnly Departure.lateStoresUnsure }], guard := none }) (v := ?_) rfl (by kernel_rfl) (by kernel_rfl) (by kernel_rfl) (fun _ _ _ h => h) (Or.inl ⟨by rfl, ?_⟩) (by assumption) ?_
                        rotate_left
                        · intro w hSw
                          try dsimp only at hSw
                          go_simp
                          try with_reducible rfl
                        try simp only [Act.put, List.setIfInBounds_toArray, List.set_cons_zero, List.set_cons_succ]
                        refine wpAnyH_take (i := 13) (oi := { dst := some 8, op := Op.assign (Operand.tmp 52), type := 42, pos := "law.go:206", after := #[{ on := 11, ground := Ground.data }, { on := 12, ground := Ground.chain }, { on := 0, ground := Ground.phase }, { on := 1, ground := Ground.phase }, { on := 2, ground := Ground.phase }, { on := 3, ground := Ground.phase }, { on := 4, ground := Ground.phase }, { on := 5, ground := Ground.phase }, { on := 6, ground := Ground.phase }, { on := 7, ground := Ground.phase }, { on := 8, ground := Ground.phase }, { on := 9, ground := Ground.phase }, { on := 10, ground := Ground.phase }, { on := 11, ground := Ground.phase }, { on := 12, ground := Ground.phase }], guard := none }) (v := ?_) rfl (by kernel_rfl) (by kernel_rfl) (by kernel_rfl) (fun _ _ _ h => h) (Or.inl ⟨by rfl, ?_⟩) (by assumption) ?_
                        rotate_left
                        · intro w hSw
                          try dsimp only at hSw
                          go_simp
                          try with_reducible rfl
                        try simp only [Act.put, List.setIfInBounds_toArray, List.set_cons_zero, List.set_cons_succ]
                        refine wpAnyH_done (by kernel_rfl) ?_ _
                        go_wp2_with fail
                        go_meet
                        exact ⟨rX, rY, rfl, rfl, HRX.out, HRY.out, HB_z40.out⟩
                  · go_simp
                    have HX : Hid (Below z37.heap.size z37 (z37.alloc (.cells #[.string ka, .int .u64 (na : Int), .bool ga] 61))) := Lib.hid (blAlloc (Below.refl _ _) _)
                    have HB_z41 : Hid (Below w2.heap.size w2 (z37.alloc (.cells #[.string ka, .int .u64 (na : Int), .bool ga] 61))) := Lib.hid (blThen HB_z37.out HX.out)
                    have HA10 : Hid (SlG eW (z37.alloc (.cells #[.string ka, .int .u64 (na : Int), .bool ga] 61)) (.slice (some ⟨z37.heap.size, 0, none⟩) 1 1) [(ka, na, ga)]) := Lib.hid (list_G eW z37 _ [(ka, na, ga)] _ 1 _ rfl rfl rfl)
                    have HD := Lib.hid (HD.out.later HX.out)
                    have HA7 := Lib.hid (HA7.out.later HX.out)
                    have HA3 := Lib.hid (HA3.out.later HX.out)
                    have HRX := Lib.hid (HRX.out.later HX.out)
                    refine hK.out _ _ (K3.out _ HB_z41.out) (fun hHeld => ?_)
                    clear hK K HX
                    try simp only [Act.put, List.setIfInBounds_toArray, List.set_cons_zero, List.set_cons_succ]
                    generalize (z37.alloc (.cells #[.string ka, .int .u64 (na : Int), .bool ga] 61)) = z41 at *
                    refine wpAnyH_ready (rs := [8]) (by kernel_rfl) (by simp) ?_
                    refine (AllReadyH.cons (o := { dst := some 49, op := Op.call { callee := Callee.value (Operand.func 41), args := #[Operand.tmp 46, Operand.tmp 48], argTypes := #[42, 45] }, type := 42, pos := "law.go:206", after := #[{ on := 5, ground := Ground.data }, { on := 7, ground := Ground.data }, { on := 4, ground := Ground.chain }], guard := none }) rfl (fun K hK => ?_) AllReadyH.nil)
                    · go_simp
                      go_at_call 41
                      refine (ap_any vd _ d [(kb, nb, gb)] z41 HDT.out (by omega) (by simp) HKSB.out HD.out HA7.out).mono ?_
                      rintro e z42 ⟨r8, rfl, h1, h5⟩
                      have HX : Hid (Below z41.heap.size z41 z42) := Lib.hid h5
                      have HB_z42 : Hid (Below w2.heap.size w2 z42) := Lib.hid (blThen HB_z41.out HX.out)
                      have HD := Lib.hid (HD.out.later HX.out)
                      have HA7 := Lib.hid (HA7.out.later HX.out)
                      have HA3 := Lib.hid (HA3.out.later HX.out)
                      have HRX := Lib.hid (HRX.out.later HX.out)
                      have HA10 := Lib.hid (HA10.out.later HX.out)
                      have HR8 := Lib.hid h1
                      refine hK.out _ _ (K3.out _ HB_z42.out) (fun hHeld => ?_)
                      clear hK K HX h1 h5
                      try simp only [Act.put, List.setIfInBounds_toArray, List.set_cons_zero, List.set_cons_succ]
                      refine wpAnyH_ready (rs := [11]) (by kernel_rfl) (by simp) ?_
                      refine (AllReadyH.cons (o := { dst := some 52, op := Op.call { callee := Callee.value (Operand.func 41), args := #[Operand.tmp 49, Operand.tmp 51], argTypes := #[42, 45] }, type := 42, pos := "law.go:206", after := #[{ on := 8, ground := Ground.data }, { on := 10, ground := Ground.data }, { on := 8, ground := Ground.chain }], guard := none }) rfl (fun K hK => ?_) AllReadyH.nil)
                      · go_simp
                        go_at_call 41
                        refine (ap_any r8 _ (applyP d [(kb, nb, gb)]) [(ka, na, ga)] z42 HDB.out (by omega) (by simp) HKSA.out HR8.out HA10.out).mono ?_
                        rintro e z43 ⟨rY, rfl, h1, h5⟩
                        have HX : Hid (Below z42.heap.size z42 z43) := Lib.hid h5
                        have HB_z43 : Hid (Below w2.heap.size w2 z43) := Lib.hid (blThen HB_z42.out HX.out)
                        have HD := Lib.hid (HD.out.later HX.out)
                        have HA7 := Lib.hid (HA7.out.later HX.out)
                        have HA3 := Lib.hid (HA3.out.later HX.out)
                        have HRX := Lib.hid (HRX.out.later HX.out)
                        have HA10 := Lib.hid (HA10.out.later HX.out)
                        have HR8 := Lib.hid (HR8.out.later HX.out)
                        have HRY := Lib.hid h1
                        refine hK.out _ _ (K3.out _ HB_z43.out) (fun hHeld => ?_)
                        clear hK K HX h1 h5
                        try simp only [Act.put, List.setIfInBounds_toArray, List.set_cons_zero, List.set_cons_succ]
                        refine wpAnyH_take (i := 12) (oi := { dst := some 7, op := Op.assign (Operand.tmp 45), type := 42, pos := "law.go:206", after := #[{ on := 4, ground := Ground.data }, { on := 11, ground := Ground.chain }, { on := 0, ground := Ground.phase }, { on := 1, ground := Ground.phase }, { on := 2, ground := Ground.phase }, { on := 3, ground := Ground.phase }, { on := 4, ground := Ground.phase }, { on := 5, ground := Ground.textOnly Departure.lateStores }, { on := 6, ground := Ground.textOnly Departure.lateStores }, { on := 7, ground := Ground.textOnly Departure.lateStores }, { on := 8, ground := Ground.textOnly Departure.lateStoresUnsure }, { on := 9, ground := Ground.textOnly Departure.lateStores }, { on := 10, ground := Ground.textOnly Departure.lateStores }, { on := 11, ground := Ground.textOnly Departure.lateStoresUnsure }], guard := none }) (v := ?_) rfl (by kernel_rfl) (by kernel_rfl) (by kernel_rfl) (fun _ _ _ h => h) (Or.inl ⟨by rfl, ?_⟩) (by assumption) ?_
                        rotate_left
                        · intro w hSw
                          try dsimp only at hSw
                          go_simp
                          try with_reducible rfl
                        try simp only [Act.put, List.setIfInBounds_toArray, List.set_cons_zero, List.set_cons_succ]
                        refine wpAnyH_take (i := 13) (oi := { dst := some 8, op := Op.assign (Operand.tmp 52), type := 42, pos := "law.go:206", after := #[{ on := 11, ground := Ground.data }, { on := 12, ground := Ground.chain }, { on := 0, ground := Ground.phase }, { on := 1, ground := Ground.phase }, { on := 2, ground := Ground.phase }, { on := 3, ground := Ground.phase }, { on := 4, ground := Ground.phase }, { on := 5, ground := Ground.phase }, { on := 6, ground := Ground.phase }, { on := 7, ground := Ground.phase }, { on := 8, ground := Ground.phase }, { on := 9, ground := Ground.phase }, { on := 10, ground := Ground.phase }, { on := 11, ground := Ground.phase }, { on := 12, ground := Ground.phase }], guard := none }) (v := ?_) rfl (by kernel_rfl) (by kernel_rfl) (by kernel_rfl) (fun _ _ _ h => h) (Or.inl ⟨by rfl, ?_⟩) (by assumption) ?_
                        rotate_left
                        · intro w hSw
                          try dsimp only at hSw
                          go_simp
                          try with_reducible rfl
                        try simp only [Act.put, List.setIfInBounds_toArray, List.set_cons_zero, List.set_cons_succ]
                        refine wpAnyH_done (by kernel_rfl) ?_ _
                        go_wp2_with fail
                        go_meet
                        exact ⟨rX, rY, rfl, rfl, HRX.out, HRY.out, HB_z43.out⟩
                · go_simp
                  have HX : Hid (Below z36.heap.size z36 (z36.alloc (.cells #[.string ka, .int .u64 (na : Int), .bool ga] 61))) := Lib.hid (blAlloc (Below.refl _ _) _)
                  have HB_z44 : Hid (Below w2.heap.size w2 (z36.alloc (.cells #[.string ka, .int .u64 (na : Int), .bool ga] 61))) := Lib.hid (blThen HB_z36.out HX.out)
                  have HA10 : Hid (SlG eW (z36.alloc (.cells #[.string ka, .int .u64 (na : Int), .bool ga] 61)) (.slice (some ⟨z36.heap.size, 0, none⟩) 1 1) [(ka, na, ga)]) := Lib.hid (list_G eW z36 _ [(ka, na, ga)] _ 1 _ rfl rfl rfl)
                  have HD := Lib.hid (HD.out.later HX.out)
                  have HA7 := Lib.hid (HA7.out.later HX.out)
                  have HA3 := Lib.hid (HA3.out.later HX.out)
                  refine hK.out _ _ (K3.out _ HB_z44.out) (fun hHeld => ?_)
                  clear hK K HX
                  try simp only [Act.put, List.setIfInBounds_toArray, List.set_cons_zero, List.set_cons_succ]
                  generalize (z36.alloc (.cells #[.string ka, .int .u64 (na : Int), .bool ga] 61)) = z44 at *
                  refine wpAnyH_ready (rs := [4]) (by kernel_rfl) (by simp) ?_
                  refine (AllReadyH.cons (o := { dst := some 45, op := Op.call { callee := Callee.value (Operand.func 41), args := #[Operand.tmp 41, Operand.tmp 44], argTypes := #[42, 45] }, type := 42, pos := "law.go:206", after := #[{ on := 0, ground := Ground.data }, { on := 3, ground := Ground.data }], guard := none }) rfl (fun K hK => ?_) AllReadyH.nil)
                  · go_simp
                    go_at_call 41
                    refine (ap_any vd _ d [(ka, na, ga), (kb, nb, gb)] z44 HDT.out (by omega) (by simp) HKS2.out HD.out HA3.out).mono ?_
                    rintro e z45 ⟨rX, rfl, h1, h5⟩
                    have HX : Hid (Below z44.heap.size z44 z45) := Lib.hid h5
                    have HB_z45 : Hid (Below w2.heap.size w2 z45) := Lib.hid (blThen HB_z44.out HX.out)
                    have HD := Lib.hid (HD.out.later HX.out)
                    have HA7 := Lib.hid (HA7.out.later HX.out)
                    have HA3 := Lib.hid (HA3.out.later HX.out)
                    have HA10 := Lib.hid (HA10.out.later HX.out)
                    have HRX := Lib.hid h1
                    refine hK.out _ _ (K3.out _ HB_z45.out) (fun hHeld => ?_)
                    clear hK K HX h1 h5
                    try simp only [Act.put, List.setIfInBounds_toArray, List.set_cons_zero, List.set_cons_succ]
                    refine wpAnyH_ready (rs := [8]) (by kernel_rfl) (by simp) ?_
                    refine (AllReadyH.cons (o := { dst := some 49, op := Op.call { callee := Callee.value (Operand.func 41), args := #[Operand.tmp 46, Operand.tmp 48], argTypes := #[42, 45] }, type := 42, pos := "law.go:206", after := #[{ on := 5, ground := Ground.data }, { on := 7, ground := Ground.data }, { on := 4, ground := Ground.chain }], guard := none }) rfl (fun K hK => ?_) AllReadyH.nil)
                    · go_simp
                      go_at_call 41
                      refine (ap_any vd _ d [(kb, nb, gb)] z45 HDT.out (by omega) (by simp) HKSB.out HD.out HA7.out).mono ?_
                      rintro e z46 ⟨r8, rfl, h1, h5⟩
                      have HX : Hid (Below z45.heap.size z45 z46) := Lib.hid h5
                      have HB_z46 : Hid (Below w2.heap.size w2 z46) := Lib.hid (blThen HB_z45.out HX.out)
                      have HD := Lib.hid (HD.out.later HX.out)
                      have HA7 := Lib.hid (HA7.out.later HX.out)
                      have HA3 := Lib.hid (HA3.out.later HX.out)
                      have HA10 := Lib.hid (HA10.out.later HX.out)
                      have HRX := Lib.hid (HRX.out.later HX.out)
                      have HR8 := Lib.hid h1
                      refine hK.out _ _ (K3.out _ HB_z46.out) (fun hHeld => ?_)
                      clear hK K HX h1 h5
                      try simp only [Act.put, List.setIfInBounds_toArray, List.set_cons_zero, List.set_cons_succ]
                      refine wpAnyH_ready (rs := [11]) (by kernel_rfl) (by simp) ?_
                      refine (AllReadyH.cons (o := { dst := some 52, op := Op.call { callee := Callee.value (Operand.func 41), args := #[Operand.tmp 49, Operand.tmp 51], argTypes := #[42, 45] }, type := 42, pos := "law.go:206", after := #[{ on := 8, ground := Ground.data }, { on := 10, ground := Ground.data }, { on := 8, ground := Ground.chain }], guard := none }) rfl (fun K hK => ?_) AllReadyH.nil)
                      · go_simp
                        go_at_call 41
                        refine (ap_any r8 _ (applyP d [(kb, nb, gb)]) [(ka, na, ga)] z46 HDB.out (by omega) (by simp) HKSA.out HR8.out HA10.out).mono ?_
                        rintro e z47 ⟨rY, rfl, h1, h5⟩
                        have HX : Hid (Below z46.heap.size z46 z47) := Lib.hid h5
                        have HB_z47 : Hid (Below w2.heap.size w2 z47) := Lib.hid (blThen HB_z46.out HX.out)
                        have HD := Lib.hid (HD.out.later HX.out)
                        have HA7 := Lib.hid (HA7.out.later HX.out)
                        have HA3 := Lib.hid (HA3.out.later HX.out)
                        have HA10 := Lib.hid (HA10.out.later HX.out)
                        have HRX := Lib.hid (HRX.out.later HX.out)
                        have HR8 := Lib.hid (HR8.out.later HX.out)
                        have HRY := Lib.hid h1
                        refine hK.out _ _ (K3.out _ HB_z47.out) (fun hHeld => ?_)
                        clear hK K HX h1 h5
                        try simp only [Act.put, List.setIfInBounds_toArray, List.set_cons_zero, List.set_cons_succ]
                        refine wpAnyH_take (i := 12) (oi := { dst := some 7, op := Op.assign (Operand.tmp 45), type := 42, pos := "law.go:206", after := #[{ on := 4, ground := Ground.data }, { on := 11, ground := Ground.chain }, { on := 0, ground := Ground.phase }, { on := 1, ground := Ground.phase }, { on := 2, ground := Ground.phase }, { on := 3, ground := Ground.phase }, { on := 4, ground := Ground.phase }, { on := 5, ground := Ground.textOnly Departure.lateStores }, { on := 6, ground := Ground.textOnly Departure.lateStores }, { on := 7, ground := Ground.textOnly Departure.lateStores }, { on := 8, ground := Ground.textOnly Departure.lateStoresUnsure }, { on := 9, ground := Ground.textOnly Departure.lateStores }, { on := 10, ground := Ground.textOnly Departure.lateStores }, { on := 11, ground := Ground.textOnly Departure.lateStoresUnsure }], guard := none }) (v := ?_) rfl (by kernel_rfl) (by kernel_rfl) (by kernel_rfl) (fun _ _ _ h => h) (Or.inl ⟨by rfl, ?_⟩) (by assumption) ?_
                        rotate_left
                        · intro w hSw
                          try dsimp only at hSw
                          go_simp
                          try with_reducible rfl
                        try simp only [Act.put, List.setIfInBounds_toArray, List.set_cons_zero, List.set_cons_succ]
                        refine wpAnyH_take (i := 13) (oi := { dst := some 8, op := Op.assign (Operand.tmp 52), type := 42, pos := "law.go:206", after := #[{ on := 11, ground := Ground.data }, { on := 12, ground := Ground.chain }, { on := 0, ground := Ground.phase }, { on := 1, ground := Ground.phase }, { on := 2, ground := Ground.phase }, { on := 3, ground := Ground.phase }, { on := 4, ground := Ground.phase }, { on := 5, ground := Ground.phase }, { on := 6, ground := Ground.phase }, { on := 7, ground := Ground.phase }, { on := 8, ground := Ground.phase }, { on := 9, ground := Ground.phase }, { on := 10, ground := Ground.phase }, { on := 11, ground := Ground.phase }, { on := 12, ground := Ground.phase }], guard := none }) (v := ?_) rfl (by kernel_rfl) (by kernel_rfl) (by kernel_rfl) (fun _ _ _ h => h) (Or.inl ⟨by rfl, ?_⟩) (by assumption) ?_
                        rotate_left
                        · intro w hSw
                          try dsimp only at hSw
                          go_simp
                          try with_reducible rfl
                        try simp only [Act.put, List.setIfInBounds_toArray, List.set_cons_zero, List.set_cons_succ]
                        refine wpAnyH_done (by kernel_rfl) ?_ _
                        go_wp2_with fail
                        go_meet
                        exact ⟨rX, rY, rfl, rfl, HRX.out, HRY.out, HB_z47.out⟩
              · go_simp
                have HX : Hid (Below z35.heap.size z35 (z35.alloc (.cells #[.string ka, .int .u64 (na : Int), .bool ga] 61))) := Lib.hid (blAlloc (Below.refl _ _) _)
                have HB_z48 : Hid (Below w2.heap.size w2 (z35.alloc (.cells #[.string ka, .int .u64 (na : Int), .bool ga] 61))) := Lib.hid (blThen HB_z35.out HX.out)
                have HA10 : Hid (SlG eW (z35.alloc (.cells #[.string ka, .int .u64 (na : Int), .bool ga] 61)) (.slice (some ⟨z35.heap.size, 0, none⟩) 1 1) [(ka, na, ga)]) := Lib.hid (list_G eW z35 _ [(ka, na, ga)] _ 1 _ rfl rfl rfl)
                have HD := Lib.hid (HD.out.later HX.out)
                have HA7 := Lib.hid (HA7.out.later HX.out)
                refine hK.out _ _ (K3.out _ HB_z48.out) (fun hHeld => ?_)
                clear hK K HX
                try simp only [Act.put, List.setIfInBounds_toArray, List.set_cons_zero, List.set_cons_succ]
                generalize (z35.alloc (.cells #[.string ka, .int .u64 (na : Int), .bool ga] 61)) = z48 at *
                refine wpAnyH_ready (rs := [3]) (by kernel_rfl) (by simp) ?_
                refine (AllReadyH.cons (o := { dst := some 44, op := Op.buildSlice 45 2 #[(0, Operand.tmp 42), (1, Operand.tmp 43)], type := 45, pos := "law.go:206", after := #[{ on := 1, ground := Ground.data }, { on := 2, ground := Ground.data }], guard := none }) rfl (fun K hK => ?_) AllReadyH.nil)
                · go_simp
                  have HX : Hid (Below z48.heap.size z48 (z48.alloc (.cells #[.string ka, .int .u64 (na : Int), .bool ga, .string kb, .int .u64 (nb : Int), .bool gb] 61))) := Lib.hid (blAlloc (Below.refl _ _) _)
                  have HB_z49 : Hid (Below w2.heap.size w2 (z48.alloc (.cells #[.string ka, .int .u64 (na : Int), .bool ga, .string kb, .int .u64 (nb : Int), .bool gb] 61))) := Lib.hid (blThen HB_z48.out HX.out)
                  have HA3 : Hid (SlG eW (z48.alloc (.cells #[.string ka, .int .u64 (na : Int), .bool ga, .string kb, .int .u64 (nb : Int), .bool gb] 61)) (.slice (some ⟨z48.heap.size, 0, none⟩) 2 2) [(ka, na, ga), (kb, nb, gb)]) := Lib.hid (list_G eW z48 _ [(ka, na, ga), (kb, nb, gb)] _ 2 _ rfl rfl rfl)
                  have HD := Lib.hid (HD.out.later HX.out)
                  have HA7 := Lib.hid (HA7.out.later HX.out)
                  have HA10 := Lib.hid (HA10.out.later HX.out)
                  refine hK.out _ _ (K3.out _ HB_z49.out) (fun hHeld => ?_)
                  clear hK K HX
                  try simp only [Act.put, List.setIfInBounds_toArray, List.set_cons_zero, List.set_cons_succ]
                  generalize (z48.alloc (.cells #[.string ka, .int .u64 (na : Int), .bool ga, .string kb, .int .u64 (nb : Int), .bool gb] 61)) = z49 at *
                  refine wpAnyH_ready (rs := [4]) (by kernel_rfl) (by simp) ?_
                  refine (AllReadyH.cons (o := { dst := some 45, op := Op.call { callee := Callee.value (Operand.func 41), args := #[Operand.tmp 41, Operand.tmp 44], argTypes := #[42, 45] }, type := 42, pos := "law.go:206", after := #[{ on := 0, ground := Ground.data }, { on := 3, ground := Ground.data }], guard := none }) rfl (fun K hK => ?_) AllReadyH.nil)
                  · go_simp
                    go_at_call 41
                    refine (ap_any vd _ d [(ka, na, ga), (kb, nb, gb)] z49 HDT.out (by omega) (by simp) HKS2.out HD.out HA3.out).mono ?_
                    rintro e z50 ⟨rX, rfl, h1, h5⟩
                    have HX : Hid (Below z49.heap.size z49 z50) := Lib.hid h5
                    have HB_z50 : Hid (Below w2.heap.size w2 z50) := Lib.hid (blThen HB_z49.out HX.out)
                    have HD := Lib.hid (HD.out.later HX.out)
                    have HA7 := Lib.hid (HA7.out.later HX.out)
                    have HA10 := Lib.hid (HA10.out.later HX.out)
                    have HA3 := Lib.hid (HA3.out.later HX.out)
                    have HRX := Lib.hid h1
                    refine hK.out _ _ (K3.out _ HB_z50.out) (fun hHeld => ?_)
                    clear hK K HX h1 h5
                    try simp only [Act.put, List.setIfInBounds_toArray, List.set_cons_zero, List.set_cons_succ]
                    refine wpAnyH_ready (rs := [8]) (by kernel_rfl) (by simp) ?_
                    refine (AllReadyH.cons (o := { dst := some 49, op := Op.call { callee := Callee.value (Operand.func 41), args := #[Operand.tmp 46, Operand.tmp 48], argTypes := #[42, 45] }, type := 42, pos := "law.go:206", after := #[{ on := 5, ground := Ground.data }, { on := 7, ground := Ground.data }, { on := 4, ground := Ground.chain }], guard := none }) rfl (fun K hK => ?_) AllReadyH.nil)
                    · go_simp
                      go_at_call 41
                      refine (ap_any vd _ d [(kb, nb, gb)] z50 HDT.out (by omega) (by simp) HKSB.out HD.out HA7.out).mono ?_
                      rintro e z51 ⟨r8, rfl, h1, h5⟩
                      have HX : Hid (Below z50.heap.size z50 z51) := Lib.hid h5
                      have HB_z51 : Hid (Below w2.heap.size w2 z51) := Lib.hid (blThen HB_z50.out HX.out)
                      have HD := Lib.hid (HD.out.later HX.out)
                      have HA7 := Lib.hid (HA7.out.later HX.out)
                      have HA10 := Lib.hid (HA10.out.later HX.out)
                      have HA3 := Lib.hid (HA3.out.later HX.out)
                      have HRX := Lib.hid (HRX.out.later HX.out)
                      have HR8 := Lib.hid h1
                      refine hK.out _ _ (K3.out _ HB_z51.out) (fun hHeld => ?_)
                      clear hK K HX h1 h5
                      try simp only [Act.put, List.setIfInBounds_toArray, List.set_cons_zero, List.set_cons_succ]
                      refine wpAnyH_ready (rs := [11]) (by kernel_rfl) (by simp) ?_
                      refine (AllReadyH.cons (o := { dst := some 52, op := Op.call { callee := Callee.value (Operand.func 41), args := #[Operand.tmp 49, Operand.tmp 51], argTypes := #[42, 45] }, type := 42, pos := "law.go:206", after := #[{ on := 8, ground := Ground.data }, { on := 10, ground := Ground.data }, { on := 8, ground := Ground.chain }], guard := none }) rfl (fun K hK => ?_) AllReadyH.nil)
                      · go_simp
                        go_at_call 41
                        refine (ap_any r8 _ (applyP d [(kb, nb, gb)]) [(ka, na, ga)] z51 HDB.out (by omega) (by simp) HKSA.out HR8.out HA10.out).mono ?_
                        rintro e z52 ⟨rY, rfl, h1, h5⟩
                        have HX : Hid (Below z51.heap.size z51 z52) := Lib.hid h5
                        have HB_z52 : Hid (Below w2.heap.size w2 z52) := Lib.hid (blThen HB_z51.out HX.out)
                        have HD := Lib.hid (HD.out.later HX.out)
                        have HA7 := Lib.hid (HA7.out.later HX.out)
                        have HA10 := Lib.hid (HA10.out.later HX.out)
                        have HA3 := Lib.hid (HA3.out.later HX.out)
                        have HRX := Lib.hid (HRX.out.later HX.out)
                        have HR8 := Lib.hid (HR8.out.later HX.out)
                        have HRY := Lib.hid h1
                        refine hK.out _ _ (K3.out _ HB_z52.out) (fun hHeld => ?_)
                        clear hK K HX h1 h5
                        try simp only [Act.put, List.setIfInBounds_toArray, List.set_cons_zero, List.set_cons_succ]
                        refine wpAnyH_take (i := 12) (oi := { dst := some 7, op := Op.assign (Operand.tmp 45), type := 42, pos := "law.go:206", after := #[{ on := 4, ground := Ground.data }, { on := 11, ground := Ground.chain }, { on := 0, ground := Ground.phase }, { on := 1, ground := Ground.phase }, { on := 2, ground := Ground.phase }, { on := 3, ground := Ground.phase }, { on := 4, ground := Ground.phase }, { on := 5, ground := Ground.textOnly Departure.lateStores }, { on := 6, ground := Ground.textOnly Departure.lateStores }, { on := 7, ground := Ground.textOnly Departure.lateStores }, { on := 8, ground := Ground.textOnly Departure.lateStoresUnsure }, { on := 9, ground := Ground.textOnly Departure.lateStores }, { on := 10, ground := Ground.textOnly Departure.lateStores }, { on := 11, ground := Ground.textOnly Departure.lateStoresUnsure }], guard := none }) (v := ?_) rfl (by kernel_rfl) (by kernel_rfl) (by kernel_rfl) (fun _ _ _ h => h) (Or.inl ⟨by rfl, ?_⟩) (by assumption) ?_
                        rotate_left
                        · intro w hSw
                          try dsimp only at hSw
                          go_simp
                          try with_reducible rfl
                        try simp only [Act.put, List.setIfInBounds_toArray, List.set_cons_zero, List.set_cons_succ]
                        refine wpAnyH_take (i := 13) (oi := { dst := some 8, op := Op.assign (Operand.tmp 52), type := 42, pos := "law.go:206", after := #[{ on := 11, ground := Ground.data }, { on := 12, ground := Ground.chain }, { on := 0, ground := Ground.phase }, { on := 1, ground := Ground.phase }, { on := 2, ground := Ground.phase }, { on := 3, ground := Ground.phase }, { on := 4, ground := Ground.phase }, { on := 5, ground := Ground.phase }, { on := 6, ground := Ground.phase }, { on := 7, ground := Ground.phase }, { on := 8, ground := Ground.phase }, { on := 9, ground := Ground.phase }, { on := 10, ground := Ground.phase }, { on := 11, ground := Ground.phase }, { on := 12, ground := Ground.phase }], guard := none }) (v := ?_) rfl (by kernel_rfl) (by kernel_rfl) (by kernel_rfl) (fun _ _ _ h => h) (Or.inl ⟨by rfl, ?_⟩) (by assumption) ?_
                        rotate_left
                        · intro w hSw
                          try dsimp only at hSw
                          go_simp
                          try with_reducible rfl
                        try simp only [Act.put, List.setIfInBounds_toArray, List.set_cons_zero, List.set_cons_succ]
                        refine wpAnyH_done (by kernel_rfl) ?_ _
                        go_wp2_with fail
                        go_meet
                        exact ⟨rX, rY, rfl, rfl, HRX.out, HRY.out, HB_z52.out⟩
            · go_simp
              have HX : Hid (Below z0.heap.size z0 (z0.alloc (.cells #[.string ka, .int .u64 (na : Int), .bool ga] 61))) := Lib.hid (blAlloc (Below.refl _ _) _)
              have HB_z53 : Hid (Below w2.heap.size w2 (z0.alloc (.cells #[.string ka, .int .u64 (na : Int), .bool ga] 61))) := Lib.hid (blThen HB_z0.out HX.out)
              have HA10 : Hid (SlG eW (z0.alloc (.cells #[.string ka, .int .u64 (na : Int), .bool ga] 61)) (.slice (some ⟨z0.heap.size, 0, none⟩) 1 1) [(ka, na, ga)]) := Lib.hid (list_G eW z0 _ [(ka, na, ga)] _ 1 _ rfl rfl rfl)
              have HD := Lib.hid (HD.out.later HX.out)
              refine hK.out _ _ (K3.out _ HB_z53.out) (fun hHeld => ?_)
              clear hK K HX
              try simp only [Act.put, List.setIfInBounds_toArray, List.set_cons_zero, List.set_cons_succ]
              generalize (z0.alloc (.cells #[.string ka, .int .u64 (na : Int), .bool ga] 61)) = z53 at *
              refine wpAnyH_ready (rs := [3, 7]) (by kernel_rfl) (by simp) ?_
              refine (AllReadyH.cons (o := { dst := some 44, op := Op.buildSlice 45 2 #[(0, Operand.tmp 42), (1, Operand.tmp 43)], type := 45, pos := "law.go:206", after := #[{ on := 1, ground := Ground.data }, { on := 2, ground := Ground.data }], guard := none }) rfl (fun K hK => ?_) (AllReadyH.cons (o := { dst := some 48, op := Op.buildSlice 45 1 #[(0, Operand.tmp 47)], type := 45, pos := "law.go:206", after := #[{ on := 6, ground := Ground.data }], guard := none }) rfl (fun K hK => ?_) AllReadyH.nil))
              · go_simp
                have HX : Hid (Below z53.heap.size z53 (z53.alloc (.cells #[.string ka, .int .u64 (na : Int), .bool ga, .string kb, .int .u64 (nb : Int), .bool gb] 61))) := Lib.hid (blAlloc (Below.refl _ _) _)
                have HB_z54 : Hid (Below w2.heap.size w2 (z53.alloc (.cells #[.string ka, .int .u64 (na : Int), .bool ga, .string kb, .int .u64 (nb : Int), .bool gb] 61))) := Lib.hid (blThen HB_z53.out HX.out)
                have HA3 : Hid (SlG eW (z53.alloc (.cells #[.string ka, .int .u64 (na : Int), .bool ga, .string kb, .int .u64 (nb : Int), .bool gb] 61)) (.slice (some ⟨z53.heap.size, 0, none⟩) 2 2) [(ka, na, ga), (kb, nb, gb)]) := Lib.hid (list_G eW z53 _ [(ka, na, ga), (kb, nb, gb)] _ 2 _ rfl rfl rfl)
                have HD := Lib.hid (HD.out.later HX.out)
                have HA10 := Lib.hid (HA10.out.later HX.out)
                refine hK.out _ _ (K3.out _ HB_z54.out) (fun hHeld => ?_)
                clear hK K HX
                try simp only [Act.put, List.setIfInBounds_toArray, List.set_cons_zero, List.set_cons_succ]
                generalize (z53.alloc (.cells #[.string ka, .int .u64 (na : Int), .bool ga, .string kb, .int .u64 (nb : Int), .bool gb] 61)) = z54 at *
                refine wpAnyH_ready (rs := [4, 7]) (by kernel_rfl) (by simp) ?_
                refine (AllReadyH.cons (o := { dst := some 45, op := Op.call { callee := Callee.value (Operand.func 41), args := #[Operand.tmp 41, Operand.tmp 44], argTypes := #[42, 45] }, type := 42, pos := "law.go:206", after := #[{ on := 0, ground := Ground.data }, { on := 3, ground := Ground.data }], guard := none }) rfl (fun K hK => ?_) (AllReadyH.cons (o := { dst := some 48, op := Op.buildSlice 45 1 #[(0, Operand.tmp 47)], type := 45, pos := "law.go:206", after := #[{ on := 6, ground := Ground.data }], guard := none }) rfl (fun K hK => ?_) AllReadyH.nil))
                · go_simp
                  go_at_call 41
                  refine (ap_any vd _ d [(ka, na, ga), (kb, nb, gb)] z54 HDT.out (by omega) (by simp) HKS2.out HD.out HA3.out).mono ?_
                  rintro e z55 ⟨rX, rfl, h1, h5⟩
                  have HX : Hid (Below z54.heap.size z54 z55) := Lib.hid h5
                  have HB_z55 : Hid (Below w2.heap.size w2 z55) := Lib.hid (blThen HB_z54.out HX.out)
                  have HD := Lib.hid (HD.out.later HX.out)
                  have HA10 := Lib.hid (HA10.out.later HX.out)
                  have HA3 := Lib.hid (HA3.out.later HX.out)
                  have HRX := Lib.hid h1
                  refine hK.out _ _ (K3.out _ HB_z55.out) (fun hHeld => ?_)
                  clear hK K HX h1 h5
                  try simp only [Act.put, List.setIfInBounds_toArray, List.set_cons_zero, List.set_cons_succ]
                  refine wpAnyH_ready (rs := [7]) (by kernel_rfl) (by simp) ?_
                  refine (AllReadyH.cons (o := { dst := some 48, op := Op.buildSlice 45 1 #[(0, Operand.tmp 47)], type := 45, pos := "law.go:206", after := #[{ on := 6, ground := Ground.data }], guard := none }) rfl (fun K hK => ?_) AllReadyH.nil)
                  · go_simp
                    have HX : Hid (Below z55.heap.size z55 (z55.alloc (.cells #[.string kb, .int .u64 (nb : Int), .bool gb] 61))) := Lib.hid (blAlloc (Below.refl _ _) _)
                    have HB_z56 : Hid (Below w2.heap.size w2 (z55.alloc (.cells #[.string kb, .int .u64 (nb : Int), .bool gb] 61))) := Lib.hid (blThen HB_z55.out HX.out)
                    have HA7 : Hid (SlG eW (z55.alloc (.cells #[.string kb, .int .u64 (nb : Int), .bool gb] 61)) (.slice (some ⟨z55.heap.size, 0, none⟩) 1 1) [(kb, nb, gb)]) := Lib.hid (list_G eW z55 _ [(kb, nb, gb)] _ 1 _ rfl rfl rfl)
                    have HD := Lib.hid (HD.out.later HX.out)
                    have HA10 := Lib.hid (HA10.out.later HX.out)
                    have HA3 := Lib.hid (HA3.out.later HX.out)
                    have HRX := Lib.hid (HRX.out.later HX.out)
                    refine hK.out _ _ (K3.out _ HB_z56.out) (fun hHeld => ?_)
                    clear hK K HX
                    try simp only [Act.put, List.setIfInBounds_toArray, List.set_cons_zero, List.set_cons_succ]
                    generalize (z55.alloc (.cells #[.string kb, .int .u64 (nb : Int), .bool gb] 61)) = z56 at *
                    refine wpAnyH_ready (rs := [8]) (by kernel_rfl) (by simp) ?_
                    refine (AllReadyH.cons (o := { dst := some 49, op := Op.call { callee := Callee.value (Operand.func 41), args := #[Operand.tmp 46, Operand.tmp 48], argTypes := #[42, 45] }, type := 42, pos := "law.go:206", after := #[{ on := 5, ground := Ground.data }, { on := 7, ground := Ground.data }, { on := 4, ground := Ground.chain }], guard := none }) rfl (fun K hK => ?_) AllReadyH.nil)
                    · go_simp
                      go_at_call 41
                      refine (ap_any vd _ d [(kb, nb, gb)] z56 HDT.out (by omega) (by simp) HKSB.out HD.out HA7.out).mono ?_
                      rintro e z57 ⟨r8, rfl, h1, h5⟩
                      have HX : Hid (Below z56.heap.size z56 z57) := Lib.hid h5
                      have HB_z57 : Hid (Below w2.heap.size w2 z57) := Lib.hid (blThen HB_z56.out HX.out)
                      have HD := Lib.hid (HD.out.later HX.out)
                      have HA10 := Lib.hid (HA10.out.later HX.out)
                      have HA3 := Lib.hid (HA3.out.later HX.out)
                      have HRX := Lib.hid (HRX.out.later HX.out)
                      have HA7 := Lib.hid (HA7.out.later HX.out)
                      have HR8 := Lib.hid h1
                      refine hK.out _ _ (K3.out _ HB_z57.out) (fun hHeld => ?_)
                      clear hK K HX h1 h5
                      try simp only [Act.put, List.setIfInBounds_toArray, List.set_cons_zero, List.set_cons_succ]
                      refine wpAnyH_ready (rs := [11]) (by kernel_rfl) (by simp) ?_
                      refine (AllReadyH.cons (o := { dst := some 52, op := Op.call { callee := Callee.value (Operand.func 41), args := #[Operand.tmp 49, Operand.tmp 51], argTypes := #[42, 45] }, type := 42, pos := "law.go:206", after := #[{ on := 8, ground := Ground.data }, { on := 10, ground := Ground.data }, { on := 8, ground := Ground.chain }], guard := none }) rfl (fun K hK => ?_) AllReadyH.nil)
                      · go_simp
                        go_at_call 41
                        refine (ap_any r8 _ (applyP d [(kb, nb, gb)]) [(ka, na, ga)] z57 HDB.out (by omega) (by simp) HKSA.out HR8.out HA10.out).mono ?_
                        rintro e z58 ⟨rY, rfl, h1, h5⟩
                        have HX : Hid (Below z57.heap.size z57 z58) := Lib.hid h5
                        have HB_z58 : Hid (Below w2.heap.size w2 z58) := Lib.hid (blThen HB_z57.out HX.out)
                        have HD := Lib.hid (HD.out.later HX.out)
                        have HA10 := Lib.hid (HA10.out.later HX.out)
                        have HA3 := Lib.hid (HA3.out.later HX.out)
                        have HRX := Lib.hid (HRX.out.later HX.out)
                        have HA7 := Lib.hid (HA7.out.later HX.out)
                        have HR8 := Lib.hid (HR8.out.later HX.out)
                        have HRY := Lib.hid h1
                        refine hK.out _ _ (K3.out _ HB_z58.out) (fun hHeld => ?_)
                        clear hK K HX h1 h5
                        try simp only [Act.put, List.setIfInBounds_toArray, List.set_cons_zero, List.set_cons_succ]
                        refine wpAnyH_take (i := 12) (oi := { dst := some 7, op := Op.assign (Operand.tmp 45), type := 42, pos := "law.go:206", after := #[{ on := 4, ground := Ground.data }, { on := 11, ground := Ground.chain }, { on := 0, ground := Ground.phase }, { on := 1, ground := Ground.phase }, { on := 2, ground := Ground.phase }, { on := 3, ground := Ground.phase }, { on := 4, ground := Ground.phase }, { on := 5, ground := Ground.textOnly Departure.lateStores }, { on := 6, ground := Ground.textOnly Departure.lateStores }, { on := 7, ground := Ground.textOnly Departure.lateStores }, { on := 8, ground := Ground.textOnly Departure.lateStoresUnsure }, { on := 9, ground := Ground.textOnly Departure.lateStores }, { on := 10, ground := Ground.textOnly Departure.lateStores }, { on := 11, ground := Ground.textOnly Departure.lateStoresUnsure }], guard := none }) (v := ?_) rfl (by kernel_rfl) (by kernel_rfl) (by kernel_rfl) (fun _ _ _ h => h) (Or.inl ⟨by rfl, ?_⟩) (by assumption) ?_
                        rotate_left
                        · intro w hSw
                          try dsimp only at hSw
                          go_simp
                          try with_reducible rfl
                        try simp only [Act.put, List.setIfInBounds_toArray, List.set_cons_zero, List.set_cons_succ]
                        refine wpAnyH_take (i := 13) (oi := { dst := some 8, op := Op.assign (Operand.tmp 52), type := 42, pos := "law.go:206", after := #[{ on := 11, ground := Ground.data }, { on := 12, ground := Ground.chain }, { on := 0, ground := Ground.phase }, { on := 1, ground := Ground.phase }, { on := 2, ground := Ground.phase }, { on := 3, ground := Ground.phase }, { on := 4, ground := Ground.phase }, { on := 5, ground := Ground.phase }, { on := 6, ground := Ground.phase }, { on := 7, ground := Ground.phase }, { on := 8, ground := Ground.phase }, { on := 9, ground := Ground.phase }, { on := 10, ground := Ground.phase }, { on := 11, ground := Ground.phase }, { on := 12, ground := Ground.phase }], guard := none }) (v := ?_) rfl (by kernel_rfl) (by kernel_rfl) (by kernel_rfl) (fun _ _ _ h => h) (Or.inl ⟨by rfl, ?_⟩) (by assumption) ?_
                        rotate_left
                        · intro w hSw
                          try dsimp only at hSw
                          go_simp
                          try with_reducible rfl
                        try simp only [Act.put, List.setIfInBounds_toArray, List.set_cons_zero, List.set_cons_succ]
                        refine wpAnyH_done (by kernel_rfl) ?_ _
                        go_wp2_with fail
                        go_meet
                        exact ⟨rX, rY, rfl, rfl, HRX.out, HRY.out, HB_z58.out⟩
                · go_simp
                  have HX : Hid (Below z54.heap.size z54 (z54.alloc (.cells #[.string kb, .int .u64 (nb : Int), .bool gb] 61))) := Lib.hid (blAlloc (Below.refl _ _) _)
                  have HB_z59 : Hid (Below w2.heap.size w2 (z54.alloc (.cells #[.string kb, .int .u64 (nb : Int), .bool gb] 61))) := Lib.hid (blThen HB_z54.out HX.out)
                  have HA7 : Hid (SlG eW (z54.alloc (.cells #[.string kb, .int .u64 (nb : Int), .bool gb] 61)) (.slice (some ⟨z54.heap.size, 0, none⟩) 1 1) [(kb, nb, gb)]) := Lib.hid (list_G eW z54 _ [(kb, nb, gb)] _ 1 _ rfl rfl rfl)
                  have HD := Lib.hid (HD.out.later HX.out)
                  have HA10 := Lib.hid (HA10.out.later HX.out)
                  have HA3 := Lib.hid (HA3.out.later HX.out)
                  refine hK.out _ _ (K3.out _ HB_z59.out) (fun hHeld => ?_)
                  clear hK K HX
                  try simp only [Act.put, List.setIfInBounds_toArray, List.set_cons_zero, List.set_cons_succ]
                  generalize (z54.alloc (.cells #[.string kb, .int .u64 (nb : Int), .bool gb] 61)) = z59 at *
                  refine wpAnyH_ready (rs := [4]) (by kernel_rfl) (by simp) ?_
                  refine (AllReadyH.cons (o := { dst := some 45, op := Op.call { callee := Callee.value (Operand.func 41), args := #[Operand.tmp 41, Operand.tmp 44], argTypes := #[42, 45] }, type := 42, pos := "law.go:206", after := #[{ on := 0, ground := Ground.data }, { on := 3, ground := Ground.data }], guard := none }) rfl (fun K hK => ?_) AllReadyH.nil)
                  · go_simp
                    go_at_call 41
                    refine (ap_any vd _ d [(ka, na, ga), (kb, nb, gb)] z59 HDT.out (by omega) (by simp) HKS2.out HD.out HA3.out).mono ?_
                    rintro e z60 ⟨rX, rfl, h1, h5⟩
                    have HX : Hid (Below z59.heap.size z59 z60) := Lib.hid h5
                    have HB_z60 : Hid (Below w2.heap.size w2 z60) := Lib.hid (blThen HB_z59.out HX.out)
                    have HD := Lib.hid (HD.out.later HX.out)
                    have HA10 := Lib.hid (HA10.out.later HX.out)
                    have HA3 := Lib.hid (HA3.out.later HX.out)
                    have HA7 := Lib.hid (HA7.out.later HX.out)
                    have HRX := Lib.hid h1
                    refine hK.out _ _ (K3.out _ HB_z60.out) (fun hHeld => ?_)
                    clear hK K HX h1 h5
                    try simp only [Act.put, List.setIfInBounds_toArray, List.set_cons_zero, List.set_cons_succ]
                    refine wpAnyH_ready (rs := [8]) (by kernel_rfl) (by simp) ?_
                    refine (AllReadyH.cons (o := { dst := some 49, op := Op.call { callee := Callee.value (Operand.func 41), args := #[Operand.tmp 46, Operand.tmp 48], argTypes := #[42, 45] }, type := 42, pos := "law.go:206", after := #[{ on := 5, ground := Ground.data }, { on := 7, ground := Ground.data }, { on := 4, ground := Ground.chain }], guard := none }) rfl (fun K hK => ?_) AllReadyH.nil)
                    · go_simp
                      go_at_call 41
                      refine (ap_any vd _ d [(kb, nb, gb)] z60 HDT.out (by omega) (by simp) HKSB.out HD.out HA7.out).mono ?_
                      rintro e z61 ⟨r8, rfl, h1, h5⟩
                      have HX : Hid (Below z60.heap.size z60 z61) := Lib.hid h5
                      have HB_z61 : Hid (Below w2.heap.size w2 z61) := Lib.hid (blThen HB_z60.out HX.out)
                      have HD := Lib.hid (HD.out.later HX.out)
                      have HA10 := Lib.hid (HA10.out.later HX.out)
                      have HA3 := Lib.hid (HA3.out.later HX.out)
                      have HA7 := Lib.hid (HA7.out.later HX.out)
                      have HRX := Lib.hid (HRX.out.later HX.out)
                      have HR8 := Lib.hid h1
                      refine hK.out _ _ (K3.out _ HB_z61.out) (fun hHeld => ?_)
                      clear hK K HX h1 h5
                      try simp only [Act.put, List.setIfInBounds_toArray, List.set_cons_zero, List.set_cons_succ]
                      refine wpAnyH_ready (rs := [11]) (by kernel_rfl) (by simp) ?_
                      refine (AllReadyH.cons (o := { dst := some 52, op := Op.call { callee := Callee.value (Operand.func 41), args := #[Operand.tmp 49, Operand.tmp 51], argTypes := #[42, 45] }, type := 42, pos := "law.go:206", after := #[{ on := 8, ground := Ground.data }, { on := 10, ground := Ground.data }, { on := 8, ground := Ground.chain }], guard := none }) rfl (fun K hK => ?_) AllReadyH.nil)
                      · go_simp
                        go_at_call 41
                        refine (ap_any r8 _ (applyP d [(kb, nb, gb)]) [(ka, na, ga)] z61 HDB.out (by omega) (by simp) HKSA.out HR8.out HA10.out).mono ?_
                        rintro e z62 ⟨rY, rfl, h1, h5⟩
                        have HX : Hid (Below z61.heap.size z61 z62) := Lib.hid h5
                        have HB_z62 : Hid (Below w2.heap.size w2 z62) := Lib.hid (blThen HB_z61.out HX.out)
                        have HD := Lib.hid (HD.out.later HX.out)
                        have HA10 := Lib.hid (HA10.out.later HX.out)
                        have HA3 := Lib.hid (HA3.out.later HX.out)
                        have HA7 := Lib.hid (HA7.out.later HX.out)
                        have HRX := Lib.hid (HRX.out.later HX.out)
                        have HR8 := Lib.hid (HR8.out.later HX.out)
                        have HRY := Lib.hid h1
                        refine hK.out _ _ (K3.out _ HB_z62.out) (fun hHeld => ?_)
                        clear hK K HX h1 h5
                        try simp only [Act.put, List.setIfInBounds_toArray, List.set_cons_zero, List.set_cons_succ]
                        refine wpAnyH_take (i := 12) (oi := { dst := some 7, op := Op.assign (Operand.tmp 45), type := 42, pos := "law.go:206", after := #[{ on := 4, ground := Ground.data }, { on := 11, ground := Ground.chain }, { on := 0, ground := Ground.phase }, { on := 1, ground := Ground.phase }, { on := 2, ground := Ground.phase }, { on := 3, ground := Ground.phase }, { on := 4, ground := Ground.phase }, { on := 5, ground := Ground.textOnly Departure.lateStores }, { on := 6, ground := Ground.textOnly Departure.lateStores }, { on := 7, ground := Ground.textOnly Departure.lateStores }, { on := 8, ground := Ground.textOnly Departure.lateStoresUnsure }, { on := 9, ground := Ground.textOnly Departure.lateStores }, { on := 10, ground := Ground.textOnly Departure.lateStores }, { on := 11, ground := Ground.textOnly Departure.lateStoresUnsure }], guard := none }) (v := ?_) rfl (by kernel_rfl) (by kernel_rfl) (by kernel_rfl) (fun _ _ _ h => h) (Or.inl ⟨by rfl, ?_⟩) (by assumption) ?_
                        rotate_left
                        · intro w hSw
                          try dsimp only at hSw
                          go_simp
                          try with_reducible rfl
                        try simp only [Act.put, List.setIfInBounds_toArray, List.set_cons_zero, List.set_cons_succ]
                        refine wpAnyH_take (i := 13) (oi := { dst := some 8, op := Op.assign (Operand.tmp 52), type := 42, pos := "law.go:206", after := #[{ on := 11, ground := Ground.data }, { on := 12, ground := Ground.chain }, { on := 0, ground := Ground.phase }, { on := 1, ground := Ground.phase }, { on := 2, ground := Ground.phase }, { on := 3, ground := Ground.phase }, { on := 4, ground := Ground.phase }, { on := 5, ground := Ground.phase }, { on := 6, ground := Ground.phase }, { on := 7, ground := Ground.phase }, { on := 8, ground := Ground.phase }, { on := 9, ground := Ground.phase }, { on := 10, ground := Ground.phase }, { on := 11, ground := Ground.phase }, { on := 12, ground := Ground.phase }], guard := none }) (v := ?_) rfl (by kernel_rfl) (by kernel_rfl) (by kernel_rfl) (fun _ _ _ h => h) (Or.inl ⟨by rfl, ?_⟩) (by assumption) ?_
                        rotate_left
                        · intro w hSw
                          try dsimp only at hSw
                          go_simp
                          try with_reducible rfl
                        try simp only [Act.put, List.setIfInBounds_toArray, List.set_cons_zero, List.set_cons_succ]
                        refine wpAnyH_done (by kernel_rfl) ?_ _
                        go_wp2_with fail
                        go_meet
                        exact ⟨rX, rY, rfl, rfl, HRX.out, HRY.out, HB_z62.out⟩
              · go_simp
                have HX : Hid (Below z53.heap.size z53 (z53.alloc (.cells #[.string kb, .int .u64 (nb : Int), .bool gb] 61))) := Lib.hid (blAlloc (Below.refl _ _) _)
                have HB_z63 : Hid (Below w2.heap.size w2 (z53.alloc (.cells #[.string kb, .int .u64 (nb : Int), .bool gb] 61))) := Lib.hid (blThen HB_z53.out HX.out)
                have HA7 : Hid (SlG eW (z53.alloc (.cells #[.string kb, .int .u64 (nb : Int), .bool gb] 61)) (.slice (some ⟨z53.heap.size, 0, none⟩) 1 1) [(kb, nb, gb)]) := Lib.hid (list_G eW z53 _ [(kb, nb, gb)] _ 1 _ rfl rfl rfl)
                have HD := Lib.hid (HD.out.later HX.out)
                have HA10 := Lib.hid (HA10.out.later HX.out)
                refine hK.out _ _ (K3.out _ HB_z63.out) (fun hHeld => ?_)
                clear hK K HX
                try simp only [Act.put, List.setIfInBounds_toArray, List.set_cons_zero, List.set_cons_succ]
                generalize (z53.alloc (.cells #[.string kb, .int .u64 (nb : Int), .bool gb] 61)) = z63 at *
                refine wpAnyH_ready (rs := [3]) (by kernel_rfl) (by simp) ?_
                refine (AllReadyH.cons (o := { dst := some 44, op := Op.buildSlice 45 2 #[(0, Operand.tmp 42), (1, Operand.tmp 43)], type := 45, pos := "law.go:206", after := #[{ on := 1, ground := Ground.data }, { on := 2, ground := Ground.data }], guard := none }) rfl (fun K hK => ?_) AllReadyH.nil)
                · go_simp
                  have HX : Hid (Below z63.heap.size z63 (z63.alloc (.cells #[.string ka, .int .u64 (na : Int), .bool ga, .string kb, .int .u64 (nb : Int), .bool gb] 61))) := Lib.hid (blAlloc (Below.refl _ _) _)
                  have HB_z64 : Hid (Below w2.heap.size w2 (z63.alloc (.cells #[.string ka, .int .u64 (na : Int), .bool ga, .string kb, .int .u64 (nb : Int), .bool gb] 61))) := Lib.hid (blThen HB_z63.out HX.out)
                  have HA3 : Hid (SlG eW (z63.alloc (.cells #[.string ka, .int .u64 (na : Int), .bool ga, .string kb, .int .u64 (nb : Int), .bool gb] 61)) (.slice (some ⟨z63.heap.size, 0, none⟩) 2 2) [(ka, na, ga), (kb, nb, gb)]) := Lib.hid (list_G eW z63 _ [(ka, na, ga), (kb, nb, gb)] _ 2 _ rfl rfl rfl)
                  have HD := Lib.hid (HD.out.later HX.out)
                  have HA10 := Lib.hid (HA10.out.later HX.out)
                  have HA7 := Lib.hid (HA7.out.later HX.out)
                  refine hK.out _ _ (K3.out _ HB_z64.out) (fun hHeld => ?_)
                  clear hK K HX
                  try simp only [Act.put, List.setIfInBounds_toArray, List.set_cons_zero, List.set_cons_succ]
                  generalize (z63.alloc (.cells #[.string ka, .int .u64 (na : Int), .bool ga, .string kb, .int .u64 (nb : Int), .bool gb] 61)) = z64 at *
                  refine wpAnyH_ready (rs := [4]) (by kernel_rfl) (by simp) ?_
                  refine (AllReadyH.cons (o := { dst := some 45, op := Op.call { callee := Callee.value (Operand.func 41), args := #[Operand.tmp 41, Operand.tmp 44], argTypes := #[42, 45] }, type := 42, pos := "law.go:206", after := #[{ on := 0, ground := Ground.data }, { on := 3, ground := Ground.data }], guard := none }) rfl (fun K hK => ?_) AllReadyH.nil)
                  · go_simp
                    go_at_call 41
                    refine (ap_any vd _ d [(ka, na, ga), (kb, nb, gb)] z64 HDT.out (by omega) (by simp) HKS2.out HD.out HA3.out).mono ?_
                    rintro e z65 ⟨rX, rfl, h1, h5⟩
                    have HX : Hid (Below z64.heap.size z64 z65) := Lib.hid h5
                    have HB_z65 : Hid (Below w2.heap.size w2 z65) := Lib.hid (blThen HB_z64.out HX.out)
                    have HD := Lib.hid (HD.out.later HX.out)
                    have HA10 := Lib.hid (HA10.out.later HX.out)
                    have HA7 := Lib.hid (HA7.out.later HX.out)
                    have HA3 := Lib.hid (HA3.out.later HX.out)
                    have HRX := Lib.hid h1
                    refine hK.out _ _ (K3.out _ HB_z65.out) (fun hHeld => ?_)
                    clear hK K HX h1 h5
                    try simp only [Act.put, List.setIfInBounds_toArray, List.set_cons_zero, List.set_cons_succ]
                    refine wpAnyH_ready (rs := [8]) (by kernel_rfl) (by simp) ?_
                    refine (AllReadyH.cons (o := { dst := some 49, op := Op.call { callee := Callee.value (Operand.func 41), args := #[Operand.tmp 46, Operand.tmp 48], argTypes := #[42, 45] }, type := 42, pos := "law.go:206", after := #[{ on := 5, ground := Ground.data }, { on := 7, ground := Ground.data }, { on := 4, ground := Ground.chain }], guard := none }) rfl (fun K hK => ?_) AllReadyH.nil)
                    · go_simp
                      go_at_call 41
                      refine (ap_any vd _ d [(kb, nb, gb)] z65 HDT.out (by omega) (by simp) HKSB.out HD.out HA7.out).mono ?_
                      rintro e z66 ⟨r8, rfl, h1, h5⟩
                      have HX : Hid (Below z65.heap.size z65 z66) := Lib.hid h5
                      have HB_z66 : Hid (Below w2.heap.size w2 z66) := Lib.hid (blThen HB_z65.out HX.out)
                      have HD := Lib.hid (HD.out.later HX.out)
                      have HA10 := Lib.hid (HA10.out.later HX.out)
                      have HA7 := Lib.hid (HA7.out.later HX.out)
                      have HA3 := Lib.hid (HA3.out.later HX.out)
                      have HRX := Lib.hid (HRX.out.later HX.out)
                      have HR8 := Lib.hid h1
                      refine hK.out _ _ (K3.out _ HB_z66.out) (fun hHeld => ?_)
                      clear hK K HX h1 h5
                      try simp only [Act.put, List.setIfInBounds_toArray, List.set_cons_zero, List.set_cons_succ]
                      refine wpAnyH_ready (rs := [11]) (by kernel_rfl) (by simp) ?_
                      refine (AllReadyH.cons (o := { dst := some 52, op := Op.call { callee := Callee.value (Operand.func 41), args := #[Operand.tmp 49, Operand.tmp 51], argTypes := #[42, 45] }, type := 42, pos := "law.go:206", after := #[{ on := 8, ground := Ground.data }, { on := 10, ground := Ground.data }, { on := 8, ground := Ground.chain }], guard := none }) rfl (fun K hK => ?_) AllReadyH.nil)
                      · go_simp
                        go_at_call 41
                        refine (ap_any r8 _ (applyP d [(kb, nb, gb)]) [(ka, na, ga)] z66 HDB.out (by omega) (by simp) HKSA.out HR8.out HA10.out).mono ?_
                        rintro e z67 ⟨rY, rfl, h1, h5⟩
                        have HX : Hid (Below z66.heap.size z66 z67) := Lib.hid h5
                        have HB_z67 : Hid (Below w2.heap.size w2 z67) := Lib.hid (blThen HB_z66.out HX.out)
                        have HD := Lib.hid (HD.out.later HX.out)
                        have HA10 := Lib.hid (HA10.out.later HX.out)
                        have HA7 := Lib.hid (HA7.out.later HX.out)
                        have HA3 := Lib.hid (HA3.out.later HX.out)
                        have HRX := Lib.hid (HRX.out.later HX.out)
                        have HR8 := Lib.hid (HR8.out.later HX.out)
                        have HRY := Lib.hid h1
                        refine hK.out _ _ (K3.out _ HB_z67.out) (fun hHeld => ?_)
                        clear hK K HX h1 h5
                        try simp only [Act.put, List.setIfInBounds_toArray, List.set_cons_zero, List.set_cons_succ]
                        refine wpAnyH_take (i := 12) (oi := { dst := some 7, op := Op.assign (Operand.tmp 45), type := 42, pos := "law.go:206", after := #[{ on := 4, ground := Ground.data }, { on := 11, ground := Ground.chain }, { on := 0, ground := Ground.phase }, { on := 1, ground := Ground.phase }, { on := 2, ground := Ground.phase }, { on := 3, ground := Ground.phase }, { on := 4, ground := Ground.phase }, { on := 5, ground := Ground.textOnly Departure.lateStores }, { on := 6, ground := Ground.textOnly Departure.lateStores }, { on := 7, ground := Ground.textOnly Departure.lateStores }, { on := 8, ground := Ground.textOnly Departure.lateStoresUnsure }, { on := 9, ground := Ground.textOnly Departure.lateStores }, { on := 10, ground := Ground.textOnly Departure.lateStores }, { on := 11, ground := Ground.textOnly Departure.lateStoresUnsure }], guard := none }) (v := ?_) rfl (by kernel_rfl) (by kernel_rfl) (by kernel_rfl) (fun _ _ _ h => h) (Or.inl ⟨by rfl, ?_⟩) (by assumption) ?_
                        rotate_left
                        · intro w hSw
                          try dsimp only at hSw
                          go_simp
                          try with_reducible rfl
                        try simp only [Act.put, List.setIfInBounds_toArray, List.set_cons_zero, List.set_cons_succ]
                        refine wpAnyH_take (i := 13) (oi := { dst := some 8, op := Op.assign (Operand.tmp 52), type := 42, pos := "law.go:206", after := #[{ on := 11, ground := Ground.data }, { on := 12, ground := Ground.chain }, { on := 0, ground := Ground.phase }, { on := 1, ground := Ground.phase }, { on := 2, ground := Ground.phase }, { on := 3, ground := Ground.phase }, { on := 4, ground := Ground.phase }, { on := 5, ground := Ground.phase }, { on := 6, ground := Ground.phase }, { on := 7, ground := Ground.phase }, { on := 8, ground := Ground.phase }, { on := 9, ground := Ground.phase }, { on := 10, ground := Ground.phase }, { on := 11, ground := Ground.phase }, { on := 12, ground := Ground.phase }], guard := none }) (v := ?_) rfl (by kernel_rfl) (by kernel_rfl) (by kernel_rfl) (fun _ _ _ h => h) (Or.inl ⟨by rfl, ?_⟩) (by assumption) ?_
                        rotate_left
                        · intro w hSw
                          try dsimp only at hSw
                          go_simp
                          try with_reducible rfl
                        try simp only [Act.put, List.setIfInBounds_toArray, List.set_cons_zero, List.set_cons_succ]
                        refine wpAnyH_done (by kernel_rfl) ?_ _
                        go_wp2_with fail
                        go_meet
                        exact ⟨rX, rY, rfl, rfl, HRX.out, HRY.out, HB_z67.out⟩
          case rest =>
            obtain ⟨rX, rY, e7, e8, hX, hY, hb⟩ := hcut
            rename World => wx
            rw [e7, e8]
            clear e7 e8
            have HXX := Lib.hid hX
            have HYY := Lib.hid hY
            have HB_wx := Lib.hid (blThen HB_w2.out hb)
            have Ad := Lib.hid (Ad.out.later hb)
            clear hX hY hb K3
            by_cases hab : ka = kb
            · have t5 : (ka.toList == kb.toList) = true := by rw [hab]; exact beq_self_eq_true _
              have HSAME : Hid (applyP d [(ka, na, ga), (kb, nb, gb)] = applyP d [(kb, nb, gb)]) := Lib.hid (do_same HDT.out.1 (ka, na, ga) (kb, nb, gb) hab)
              clear hab
              obtain ⟨ca0, ca1, ca2, cb0, cb1, cb2⟩ := KA.out _ HB_wx.out
              go_wp2_with fail
              refine (ap_any vd _ d [(kb, nb, gb)] _ HDT.out (by omega) (by simp) HKSB.out (Ad.out.later (by repeat (first | with_reducible exact Below.refl _ _ | with_reducible refine blAlloc ?_ _ | with_reducible refine Below.drew ?_))) (list_G eW wx _ [(kb, nb, gb)] _ 1 _ rfl rfl rfl)).mono ?_
              rintro e w1 ⟨p6, rfl, h1, h5⟩
              have HX : Hid (Below wx.heap.size wx w1) := blThen (by repeat (first | with_reducible exact Below.refl _ _ | with_reducible refine blAlloc ?_ _ | with_reducible refine Below.drew ?_)) h5
              have HB_w1 := Lib.hid (blThen HB_wx.out HX.out)
              have Ad := Lib.hid (Ad.out.later HX.out)
              have HXX := Lib.hid (HXX.out.later HX.out)
              have HYY := Lib.hid (HYY.out.later HX.out)
              have HONE := Lib.hid h1
              clear h5 HX h1
              have K7 := Lib.hid (fun (Y : World) (hY : Below w1.heap.size w1 Y) => KA.out Y (blThen HB_w1.out hY))
              cases gb
              · have HPK1 : Hid (¬ (inA (memL [ptS kb]) (applyP d [(kb, nb, false)])).length = 0) := Lib.hid (fun h => by have h2 := HPICK.out.1 (List.eq_nil_of_length_eq_zero h); cases h2)
                have hq1 : decide (((inA (memL [ptS kb]) (applyP d [(kb, nb, false)])).length : Int) = 0) = false := decide_eq_false (by have := HPK1.out; omega)
                have hq2 : (((inA (memL [ptS kb]) (applyP d [(kb, nb, false)])).length : Int) == 0) = false := by have := HPK1.out; simpa using this
                go_wp2_with fail
                refine wp_region_held_drew (S := fun Y => Y.cell? ⟨w.heap.size, 0, none⟩ = some (.string ka) ∧ Y.cell? ⟨w.heap.size, 1, none⟩ = some (.int .u64 (na : Int)) ∧ Y.cell? ⟨w.heap.size, 2, none⟩ = some (.bool ga) ∧ Y.cell? ⟨w.heap.size + 1, 0, none⟩ = some (.string kb) ∧ Y.cell? ⟨w.heap.size + 1, 1, none⟩ = some (.int .u64 (nb : Int)) ∧ Y.cell? ⟨w.heap.size + 1, 2, none⟩ = some (.bool false)) (by kernel_rfl) (K7.out _ (Below.refl w1.heap.size w1).drew) (fun hHeld => ?_)
                refine wpAnyH_take (i := 0) (oi := { dst := some 68, op := Op.fieldAddr 61 (Operand.tmp 4) 0, type := 0, pos := "law.go:211", after := #[], guard := none }) (v := ?_) rfl (by kernel_rfl) (by kernel_rfl) (by kernel_rfl) (fun _ _ _ h => h) (Or.inl ⟨by rfl, ?_⟩) (by assumption) ?_
                rotate_left
                · intro w hSw
                  try dsimp only at hSw
                  go_simp
                  try with_reducible rfl
                try simp only [Act.put, List.setIfInBounds_toArray, List.set_cons_zero, List.set_cons_succ]
                refine wpAnyH_take (i := 1) (oi := { dst := some 69, op := Op.load 9 (Operand.tmp 68), type := 9, pos := "law.go:211", after := #[{ on := 0, ground := Ground.data }], guard := none }) (v := ?_) rfl (by kernel_rfl) (by kernel_rfl) (by kernel_rfl) (fun _ _ _ h => h) (Or.inl ⟨by rfl, ?_⟩) (by assumption) ?_
                rotate_left
                · intro w hSw
                  try dsimp only at hSw
                  go_simp
                  try with_reducible rfl
                try simp only [Act.put, List.setIfInBounds_toArray, List.set_cons_zero, List.set_cons_succ]
                refine wpAnyH_take (i := 2) (oi := { dst := some 70, op := Op.fieldAddr 61 (Operand.tmp 5) 0, type := 0, pos := "law.go:211", after := #[], guard := none }) (v := ?_) rfl (by kernel_rfl) (by kernel_rfl) (by kernel_rfl) (fun _ _ _ h => h) (Or.inl ⟨by rfl, ?_⟩) (by assumption) ?_
                rotate_left
                · intro w hSw
                  try dsimp only at hSw
                  go_simp
                  try with_reducible rfl
                try simp only [Act.put, List.setIfInBounds_toArray, List.set_cons_zero, List.set_cons_succ]
                refine wpAnyH_take (i := 3) (oi := { dst := some 71, op := Op.load 9 (Operand.tmp 70), type := 9, pos := "law.go:211", after := #[{ on := 2, ground := Ground.data }], guard := none }) (v := ?_) rfl (by kernel_rfl) (by kernel_rfl) (by kernel_rfl) (fun _ _ _ h => h) (Or.inl ⟨by rfl, ?_⟩) (by assumption) ?_
                rotate_left
                · intro w hSw
                  try dsimp only at hSw
                  go_simp
                  try with_reducible rfl
                try simp only [Act.put, List.setIfInBounds_toArray, List.set_cons_zero, List.set_cons_succ]
                refine wpAnyH_take (i := 4) (oi := { dst := some 72, op := Op.binOp BinOp.neq 9 (Operand.tmp 69) (Operand.tmp 71) 9, type := 4, pos := "law.go:211", after := #[{ on := 1, ground := Ground.data }, { on := 3, ground := Ground.data }], guard := none }) (v := ?_) rfl (by kernel_rfl) (by kernel_rfl) (by kernel_rfl) (fun _ _ _ h => h) (Or.inl ⟨by rfl, ?_⟩) (by assumption) ?_
                rotate_left
                · intro w hSw
                  try dsimp only at hSw
                  go_simp
                  try with_reducible rfl
                try simp only [Act.put, List.setIfInBounds_toArray, List.set_cons_zero, List.set_cons_succ]
                refine wpAnyH_take (i := 5) (oi := { dst := some 73, op := Op.move (Operand.tmp 72), type := 4, pos := "law.go:211", after := #[{ on := 4, ground := Ground.data }], guard := none }) (v := ?_) rfl (by kernel_rfl) (by kernel_rfl) (by kernel_rfl) (fun _ _ _ h => h) (Or.inl ⟨by rfl, ?_⟩) (by assumption) ?_
                rotate_left
                · intro w hSw
                  try dsimp only at hSw
                  go_simp
                  try with_reducible rfl
                try simp only [Act.put, List.setIfInBounds_toArray, List.set_cons_zero, List.set_cons_succ]
                refine wpAnyH_take (i := 6) (oi := { dst := some 74, op := Op.move (Operand.tmp 7), type := 42, pos := "law.go:211", after := #[{ on := 5, ground := Ground.guard }], guard := some (5, false) }) (v := ?_) rfl (by kernel_rfl) (by kernel_rfl) (by kernel_rfl) (fun _ _ _ h => h) (Or.inl ⟨by rfl, ?_⟩) (by assumption) ?_
                rotate_left
                · intro w hSw
                  try dsimp only at hSw
                  go_simp
                  try with_reducible rfl
                try simp only [Act.put, List.setIfInBounds_toArray, List.set_cons_zero, List.set_cons_succ]
                refine wpAnyH_take (i := 7) (oi := { dst := some 75, op := Op.move (Operand.tmp 9), type := 42, pos := "law.go:211", after := #[{ on := 5, ground := Ground.guard }], guard := some (5, false) }) (v := ?_) rfl (by kernel_rfl) (by kernel_rfl) (by kernel_rfl) (fun _ _ _ h => h) (Or.inl ⟨by rfl, ?_⟩) (by assumption) ?_
                rotate_left
                · intro w hSw
                  try dsimp only at hSw
                  go_simp
                  try with_reducible rfl
                try simp only [Act.put, List.setIfInBounds_toArray, List.set_cons_zero, List.set_cons_succ]
                refine wpAnyH_ready (rs := [8]) (by kernel_rfl) (by simp) ?_
                refine AllReadyH.cons (o := { dst := some 76, op := Op.call { callee := Callee.value (Operand.func 40), args := #[Operand.tmp 74, Operand.tmp 75], argTypes := #[42, 42] }, type := 4, pos := "law.go:211", after := #[{ on := 6, ground := Ground.data }, { on := 7, ground := Ground.data }, { on := 5, ground := Ground.chain }, { on := 5, ground := Ground.guard }], guard := some (5, false) }) rfl (fun K hK => ?_) ?_
                rotate_left
                · exact AllReadyH.nil
                go_simp
                have h9 := prsame_any rX p6 (applyP d [(ka, na, ga), (kb, nb, false)]) (applyP d [(kb, nb, false)]) w1.drew HNX.out HNO.out (HXX.out.later (by repeat (first | with_reducible exact Below.refl _ _ | with_reducible refine blAlloc ?_ _ | with_reducible refine Below.drew ?_))) (HONE.out.later (by repeat (first | with_reducible exact Below.refl _ _ | with_reducible refine blAlloc ?_ _ | with_reducible refine Below.drew ?_)))
                rw [decide_eq_true HSAME.out] at h9
                go_at_call 40
                refine (h9).mono ?_
                rintro e y1 ⟨rfl, h5⟩
                have HX : Hid (Below w1.heap.size w1 y1) := Lib.hid (blThen (by repeat (first | with_reducible exact Below.refl _ _ | with_reducible refine blAlloc ?_ _ | with_reducible refine Below.drew ?_)) h5)
                have HB_y1 : Hid (Below w1.heap.size w1 y1) := Lib.hid (HX.out)
                have HONE := Lib.hid (HONE.out.later HX.out)
                have HXX := Lib.hid (HXX.out.later HX.out)
                have Ad := Lib.hid (Ad.out.later HX.out)
                clear h5 HX h9
                refine hK.out _ _ (K7.out _ HB_y1.out) (fun hHeld => ?_)
                clear hK K
                try simp only [Act.put, List.setIfInBounds_toArray, List.set_cons_zero, List.set_cons_succ]
                refine wpAnyH_take (i := 9) (oi := { dst := some 77, op := Op.pick (Operand.tmp 73) (Operand.const (Value.bool true)) (Operand.tmp 76), type := 4, pos := "law.go:211", after := #[{ on := 5, ground := Ground.data }, { on := 8, ground := Ground.data }], guard := none }) (v := ?_) rfl (by kernel_rfl) (by kernel_rfl) (by kernel_rfl) (fun _ _ _ h => h) (Or.inl ⟨by rfl, ?_⟩) (by assumption) ?_
                rotate_left
                · intro w hSw
                  try dsimp only at hSw
                  go_simp
                  try with_reducible rfl
                try simp only [Act.put, List.setIfInBounds_toArray, List.set_cons_zero, List.set_cons_succ]
                refine wpAnyH_take (i := 10) (oi := { dst := some 78, op := Op.move (Operand.tmp 77), type := 4, pos := "law.go:211", after := #[{ on := 9, ground := Ground.data }, { on := 8, ground := Ground.chain }], guard := none }) (v := ?_) rfl (by kernel_rfl) (by kernel_rfl) (by kernel_rfl) (fun _ _ _ h => h) (Or.inl ⟨by rfl, ?_⟩) (by assumption) ?_
                rotate_left
                · intro w hSw
                  try dsimp only at hSw
                  go_simp
                  try with_reducible rfl
                try simp only [Act.put, List.setIfInBounds_toArray, List.set_cons_zero, List.set_cons_succ]
                refine wpAnyH_take (i := 11) (oi := { dst := some 79, op := Op.move (Operand.tmp 9), type := 42, pos := "law.go:211", after := #[{ on := 10, ground := Ground.guard }], guard := some (10, true) }) (v := ?_) rfl (by kernel_rfl) (by kernel_rfl) (by kernel_rfl) (fun _ _ _ h => h) (Or.inl ⟨by rfl, ?_⟩) (by assumption) ?_
                rotate_left
                · intro w hSw
                  try dsimp only at hSw
                  go_simp
                  try with_reducible rfl
                try simp only [Act.put, List.setIfInBounds_toArray, List.set_cons_zero, List.set_cons_succ]
                refine wpAnyH_take (i := 12) (oi := { dst := some 80, op := Op.load 61 (Operand.tmp 5), type := 61, pos := "law.go:211", after := #[{ on := 10, ground := Ground.guard }], guard := some (10, true) }) (v := ?_) rfl (by kernel_rfl) (by kernel_rfl) (by kernel_rfl) (fun _ _ _ h => h) (Or.inl ⟨by rfl, ?_⟩) (by assumption) ?_
                rotate_left
                · intro w hSw
                  try dsimp only at hSw
                  go_simp
                  try with_reducible rfl
                try simp only [Act.put, List.setIfInBounds_toArray, List.set_cons_zero, List.set_cons_succ]
                refine wpAnyH_take (i := 15) (oi := { dst := some 83, op := Op.move (Operand.tmp 9), type := 42, pos := "law.go:211", after := #[{ on := 10, ground := Ground.guard }], guard := some (10, true) }) (v := ?_) rfl (by kernel_rfl) (by kernel_rfl) (by kernel_rfl) (fun _ _ _ h => h) (Or.inl ⟨by rfl, ?_⟩) (by assumption) ?_
                rotate_left
                · intro w hSw
                  try dsimp only at hSw
                  go_simp
                  try with_reducible rfl
                try simp only [Act.put, List.setIfInBounds_toArray, List.set_cons_zero, List.set_cons_succ]
                refine wpAnyH_ready (rs := [13]) (by kernel_rfl) (by simp) ?_
                refine AllReadyH.cons (o := { dst := some 81, op := Op.buildSlice 45 1 #[(0, Operand.tmp 80)], type := 45, pos := "law.go:211", after := #[{ on := 12, ground := Ground.data }, { on := 10, ground := Ground.guard }], guard := some (10, true) }) rfl (fun K hK => ?_) ?_
                rotate_left
                · exact AllReadyH.nil
                go_simp
                refine hK.out _ _ (K7.out _ (by repeat (first | with_reducible exact HB_y1.out | with_reducible exact Below.refl _ _ | with_reducible refine blAlloc ?_ _ | with_reducible refine Below.drew ?_))) (fun hHeld => ?_)
                clear hK K
                try simp only [Act.put, List.setIfInBounds_toArray, List.set_cons_zero, List.set_cons_succ]
                refine wpAnyH_ready (rs := [14]) (by kernel_rfl) (by simp) ?_
                refine AllReadyH.cons (o := { dst := some 82, op := Op.call { callee := Callee.value (Operand.func 41), args := #[Operand.tmp 79, Operand.tmp 81], argTypes := #[42, 45] }, type := 42, pos := "law.go:211", after := #[{ on := 11, ground := Ground.data }, { on := 13, ground := Ground.data }, { on := 10, ground := Ground.chain }, { on := 10, ground := Ground.guard }], guard := some (10, true) }) rfl (fun K hK => ?_) ?_
                rotate_left
                · exact AllReadyH.nil
                go_simp
                go_at_call 41
                refine (ap_any p6 _ (applyP d [(kb, nb, false)]) [(kb, nb, false)] _ HDB.out (by omega) (by simp) HKSB.out (HONE.out.later (by repeat (first | with_reducible exact Below.refl _ _ | with_reducible refine blAlloc ?_ _ | with_reducible refine Below.drew ?_))) (list_G eW y1 _ [(kb, nb, false)] _ 1 _ rfl rfl rfl)).mono ?_
                rintro e y2 ⟨x14, rfl, h1, h5⟩
                have HX : Hid (Below y1.heap.size y1 y2) := Lib.hid (blThen (by repeat (first | with_reducible exact Below.refl _ _ | with_reducible refine blAlloc ?_ _ | with_reducible refine Below.drew ?_)) h5)
                have HB_y2 : Hid (Below w1.heap.size w1 y2) := Lib.hid (blThen HB_y1.out HX.out)
                have HONE := Lib.hid (HONE.out.later HX.out)
                have HXX := Lib.hid (HXX.out.later HX.out)
                have Ad := Lib.hid (Ad.out.later HX.out)
                have HX14 := Lib.hid h1
                clear h5 HX h1
                refine hK.out _ _ (K7.out _ HB_y2.out) (fun hHeld => ?_)
                clear hK K
                try simp only [Act.put, List.setIfInBounds_toArray, List.set_cons_zero, List.set_cons_succ]
                refine wpAnyH_ready (rs := [16]) (by kernel_rfl) (by simp) ?_
                refine AllReadyH.cons (o := { dst := some 84, op := Op.call { callee := Callee.value (Operand.func 40), args := #[Operand.tmp 82, Operand.tmp 83], argTypes := #[42, 42] }, type := 4, pos := "law.go:211", after := #[{ on := 14, ground := Ground.data }, { on := 15, ground := Ground.data }, { on := 14, ground := Ground.chain }, { on := 10, ground := Ground.guard }], guard := some (10, true) }) rfl (fun K hK => ?_) ?_
                rotate_left
                · exact AllReadyH.nil
                go_simp
                have h9 := prsame_any x14 p6 (applyP (applyP d [(kb, nb, false)]) [(kb, nb, false)]) (applyP d [(kb, nb, false)]) y2 HNT.out HNO.out HX14.out HONE.out
                rw [decide_eq_true HTWICE.out] at h9
                go_at_call 40
                refine (h9).mono ?_
                rintro e y3 ⟨rfl, h5⟩
                have HX : Hid (Below y2.heap.size y2 y3) := Lib.hid (blThen (by repeat (first | with_reducible exact Below.refl _ _ | with_reducible refine blAlloc ?_ _ | with_reducible refine Below.drew ?_)) h5)
                have HB_y3 : Hid (Below w1.heap.size w1 y3) := Lib.hid (blThen HB_y2.out HX.out)
                have HONE := Lib.hid (HONE.out.later HX.out)
                have HXX := Lib.hid (HXX.out.later HX.out)
                have Ad := Lib.hid (Ad.out.later HX.out)
                have HX14 := Lib.hid (HX14.out.later HX.out)
                clear h5 HX h9
                refine hK.out _ _ (K7.out _ HB_y3.out) (fun hHeld => ?_)
                clear hK K
                try simp only [Act.put, List.setIfInBounds_toArray, List.set_cons_zero, List.set_cons_succ]
                refine wpAnyH_take (i := 17) (oi := { dst := some 85, op := Op.pick (Operand.tmp 78) (Operand.tmp 84) (Operand.const (Value.bool false)), type := 4, pos := "law.go:211", after := #[{ on := 10, ground := Ground.data }, { on := 16, ground := Ground.data }], guard := none }) (v := ?_) rfl (by kernel_rfl) (by kernel_rfl) (by kernel_rfl) (fun _ _ _ h => h) (Or.inl ⟨by rfl, ?_⟩) (by assumption) ?_
                rotate_left
                · intro w hSw
                  try dsimp only at hSw
                  go_simp
                  try with_reducible rfl
                try simp only [Act.put, List.setIfInBounds_toArray, List.set_cons_zero, List.set_cons_succ]
                refine wpAnyH_take (i := 18) (oi := { dst := some 86, op := Op.move (Operand.tmp 85), type := 4, pos := "law.go:211", after := #[{ on := 17, ground := Ground.data }, { on := 16, ground := Ground.chain }], guard := none }) (v := ?_) rfl (by kernel_rfl) (by kernel_rfl) (by kernel_rfl) (fun _ _ _ h => h) (Or.inl ⟨by rfl, ?_⟩) (by assumption) ?_
                rotate_left
                · intro w hSw
                  try dsimp only at hSw
                  go_simp
                  try with_reducible rfl
                try simp only [Act.put, List.setIfInBounds_toArray, List.set_cons_zero, List.set_cons_succ]
                refine wpAnyH_take (i := 19) (oi := { dst := some 87, op := Op.move (Operand.tmp 9), type := 42, pos := "law.go:211", after := #[{ on := 18, ground := Ground.guard }], guard := some (18, true) }) (v := ?_) rfl (by kernel_rfl) (by kernel_rfl) (by kernel_rfl) (fun _ _ _ h => h) (Or.inl ⟨by rfl, ?_⟩) (by assumption) ?_
                rotate_left
                · intro w hSw
                  try dsimp only at hSw
                  go_simp
                  try with_reducible rfl
                try simp only [Act.put, List.setIfInBounds_toArray, List.set_cons_zero, List.set_cons_succ]
                refine wpAnyH_take (i := 20) (oi := { dst := some 88, op := Op.fieldAddr 61 (Operand.tmp 5) 0, type := 0, pos := "law.go:211", after := #[{ on := 18, ground := Ground.guard }], guard := some (18, true) }) (v := ?_) rfl (by kernel_rfl) (by kernel_rfl) (by kernel_rfl) (fun _ _ _ h => h) (Or.inl ⟨by rfl, ?_⟩) (by assumption) ?_
                rotate_left
                · intro w hSw
                  try dsimp only at hSw
                  go_simp
                  try with_reducible rfl
                try simp only [Act.put, List.setIfInBounds_toArray, List.set_cons_zero, List.set_cons_succ]
                refine wpAnyH_take (i := 21) (oi := { dst := some 89, op := Op.load 9 (Operand.tmp 88), type := 9, pos := "law.go:211", after := #[{ on := 20, ground := Ground.data }, { on := 18, ground := Ground.guard }], guard := some (18, true) }) (v := ?_) rfl (by kernel_rfl) (by kernel_rfl) (by kernel_rfl) (fun _ _ _ h => h) (Or.inl ⟨by rfl, ?_⟩) (by assumption) ?_
                rotate_left
                · intro w hSw
                  try dsimp only at hSw
                  go_simp
                  try with_reducible rfl
                try simp only [Act.put, List.setIfInBounds_toArray, List.set_cons_zero, List.set_cons_succ]
                refine wpAnyH_take (i := 22) (oi := { dst := some 90, op := Op.fieldAddr 61 (Operand.tmp 5) 0, type := 0, pos := "law.go:211", after := #[{ on := 18, ground := Ground.guard }], guard := some (18, true) }) (v := ?_) rfl (by kernel_rfl) (by kernel_rfl) (by kernel_rfl) (fun _ _ _ h => h) (Or.inl ⟨by rfl, ?_⟩) (by assumption) ?_
                rotate_left
                · intro w hSw
                  try dsimp only at hSw
                  go_simp
                  try with_reducible rfl
                try simp only [Act.put, List.setIfInBounds_toArray, List.set_cons_zero, List.set_cons_succ]
                refine wpAnyH_take (i := 23) (oi := { dst := some 91, op := Op.load 9 (Operand.tmp 90), type := 9, pos := "law.go:211", after := #[{ on := 22, ground := Ground.data }, { on := 18, ground := Ground.guard }], guard := some (18, true) }) (v := ?_) rfl (by kernel_rfl) (by kernel_rfl) (by kernel_rfl) (fun _ _ _ h => h) (Or.inl ⟨by rfl, ?_⟩) (by assumption) ?_
                rotate_left
                · intro w hSw
                  try dsimp only at hSw
                  go_simp
                  try with_reducible rfl
                try simp only [Act.put, List.setIfInBounds_toArray, List.set_cons_zero, List.set_cons_succ]
                refine wpAnyH_take (i := 24) (oi := { dst := some 92, op := Op.binOp BinOp.add 9 (Operand.tmp 91) (Operand.const (Value.string { data := #[0] })) 9, type := 9, pos := "law.go:211", after := #[{ on := 23, ground := Ground.data }, { on := 18, ground := Ground.guard }], guard := some (18, true) }) (v := ?_) rfl (by kernel_rfl) (by kernel_rfl) (by kernel_rfl) (fun _ _ _ h => h) (Or.inl ⟨by rfl, ?_⟩) (by assumption) ?_
                rotate_left
                · intro w hSw
                  try dsimp only at hSw
                  go_simp
                  try with_reducible rfl
                try simp only [Act.put, List.setIfInBounds_toArray, List.set_cons_zero, List.set_cons_succ]
                refine wpAnyH_take (i := 25) (oi := { dst := some 93, op := Op.build 75 #[(0, Operand.tmp 89), (1, Operand.tmp 92)], type := 75, pos := "law.go:211", after := #[{ on := 21, ground := Ground.data }, { on := 24, ground := Ground.data }, { on := 18, ground := Ground.guard }], guard := some (18, true) }) (v := ?_) rfl (by kernel_rfl) (by kernel_rfl) (by kernel_rfl) (fun _ _ _ h => h) (Or.inl ⟨by rfl, ?_⟩) (by assumption) ?_
                rotate_left
                · intro w hSw
                  try dsimp only at hSw
                  go_simp
                  try with_reducible rfl
                try simp only [Act.put, List.setIfInBounds_toArray, List.set_cons_zero, List.set_cons_succ]
                refine wpAnyH_take (i := 30) (oi := { dst := some 98, op := Op.fieldAddr 61 (Operand.tmp 5) 2, type := 0, pos := "law.go:211", after := #[{ on := 18, ground := Ground.guard }], guard := some (18, true) }) (v := ?_) rfl (by kernel_rfl) (by kernel_rfl) (by kernel_rfl) (fun _ _ _ h => h) (Or.inl ⟨by rfl, ?_⟩) (by assumption) ?_
                rotate_left
                · intro w hSw
                  try dsimp only at hSw
                  go_simp
                  try with_reducible rfl
                try simp only [Act.put, List.setIfInBounds_toArray, List.set_cons_zero, List.set_cons_succ]
                refine wpAnyH_take (i := 31) (oi := { dst := some 99, op := Op.load 4 (Operand.tmp 98), type := 4, pos := "law.go:211", after := #[{ on := 30, ground := Ground.data }, { on := 18, ground := Ground.guard }], guard := some (18, true) }) (v := ?_) rfl (by kernel_rfl) (by kernel_rfl) (by kernel_rfl) (fun _ _ _ h => h) (Or.inl ⟨by rfl, ?_⟩) (by assumption) ?_
                rotate_left
                · intro w hSw
                  try dsimp only at hSw
                  go_simp
                  try with_reducible rfl
                try simp only [Act.put, List.setIfInBounds_toArray, List.set_cons_zero, List.set_cons_succ]
                refine wpAnyH_ready (rs := [26]) (by kernel_rfl) (by simp) ?_
                refine AllReadyH.cons (o := { dst := some 94, op := Op.buildSlice 40 1 #[(0, Operand.tmp 93)], type := 40, pos := "law.go:211", after := #[{ on := 25, ground := Ground.data }, { on := 18, ground := Ground.guard }], guard := some (18, true) }) rfl (fun K hK => ?_) ?_
                rotate_left
                · exact AllReadyH.nil
                go_simp
                refine hK.out _ _ (K7.out _ (by repeat (first | with_reducible exact HB_y3.out | with_reducible exact Below.refl _ _ | with_reducible refine blAlloc ?_ _ | with_reducible refine Below.drew ?_))) (fun hHeld => ?_)
                clear hK K
                try simp only [Act.put, List.setIfInBounds_toArray, List.set_cons_zero, List.set_cons_succ]
                refine wpAnyH_ready (rs := [27]) (by kernel_rfl) (by simp) ?_
                refine AllReadyH.cons (o := { dst := some 95, op := Op.call { callee := Callee.value (Operand.func 43), args := #[Operand.tmp 87, Operand.tmp 94], argTypes := #[42, 40] }, type := 42, pos := "law.go:211", after := #[{ on := 19, ground := Ground.data }, { on := 26, ground := Ground.data }, { on := 18, ground := Ground.chain }, { on := 18, ground := Ground.guard }], guard := some (18, true) }) rfl (fun K hK => ?_) ?_
                rotate_left
                · exact AllReadyH.nil
                go_simp
                go_at_call 43
                refine (pk_any p6 _ (applyP d [(kb, nb, false)]) [ptS kb] _ HDB.out (by omega) (by simp) HSET.out (HONE.out.later (by repeat (first | with_reducible exact Below.refl _ _ | with_reducible refine blAlloc ?_ _ | with_reducible refine Below.drew ?_))) (row1sp y3 (ptS kb) _ rfl)).mono ?_
                rintro e y4 ⟨x27, rfl, h1, h5⟩
                obtain ⟨ax, cx, rfl⟩ := h1.form
                have HX : Hid (Below y3.heap.size y3 y4) := Lib.hid (blThen (by repeat (first | with_reducible exact Below.refl _ _ | with_reducible refine blAlloc ?_ _ | with_reducible refine Below.drew ?_)) h5)
                have HB_y4 : Hid (Below w1.heap.size w1 y4) := Lib.hid (blThen HB_y3.out HX.out)
                have HONE := Lib.hid (HONE.out.later HX.out)
                have HXX := Lib.hid (HXX.out.later HX.out)
                have Ad := Lib.hid (Ad.out.later HX.out)
                have HX14 := Lib.hid (HX14.out.later HX.out)
                clear h5 HX h1
                refine hK.out _ _ (K7.out _ HB_y4.out) (fun hHeld => ?_)
                clear hK K
                try simp only [Act.put, List.setIfInBounds_toArray, List.set_cons_zero, List.set_cons_succ]
                refine wpAnyH_take (i := 28) (oi := { dst := some 96, op := Op.call { callee := Callee.builtin Builtin.len, args := #[Operand.tmp 95], argTypes := #[42] }, type := 3, pos := "law.go:211", after := #[{ on := 27, ground := Ground.data }, { on := 18, ground := Ground.guard }], guard := some (18, true) }) (v := ?_) rfl (by kernel_rfl) (by kernel_rfl) (by kernel_rfl) (fun _ _ _ h => h) (Or.inl ⟨by rfl, ?_⟩) (by assumption) ?_
                rotate_left
                · intro w hSw
                  try dsimp only at hSw
                  go_simp
                  try with_reducible rfl
                try simp only [Act.put, List.setIfInBounds_toArray, List.set_cons_zero, List.set_cons_succ]
                refine wpAnyH_take (i := 29) (oi := { dst := some 97, op := Op.binOp BinOp.eql 3 (Operand.tmp 96) (Operand.const (Value.int IntKind.i64 0)) 3, type := 4, pos := "law.go:211", after := #[{ on := 28, ground := Ground.data }, { on := 18, ground := Ground.guard }], guard := some (18, true) }) (v := ?_) rfl (by kernel_rfl) (by kernel_rfl) (by kernel_rfl) (fun _ _ _ h => h) (Or.inl ⟨by rfl, ?_⟩) (by assumption) ?_
                rotate_left
                · intro w hSw
                  try dsimp only at hSw
                  go_simp
                  try with_reducible rfl
                try simp only [Act.put, List.setIfInBounds_toArray, List.set_cons_zero, List.set_cons_succ]
                refine wpAnyH_take (i := 32) (oi := { dst := some 100, op := Op.binOp BinOp.eql 4 (Operand.tmp 97) (Operand.tmp 99) 4, type := 4, pos := "law.go:211", after := #[{ on := 29, ground := Ground.data }, { on := 31, ground := Ground.data }, { on := 18, ground := Ground.guard }], guard := some (18, true) }) (v := ?_) rfl (by kernel_rfl) (by kernel_rfl) (by kernel_rfl) (fun _ _ _ h => h) (Or.inl ⟨by rfl, ?_⟩) (by assumption) ?_
                rotate_left
                · intro w hSw
                  try dsimp only at hSw
                  go_simp
                  try with_reducible rfl
                try simp only [Act.put, List.setIfInBounds_toArray, List.set_cons_zero, List.set_cons_succ]
                refine wpAnyH_take (i := 33) (oi := { dst := some 101, op := Op.pick (Operand.tmp 86) (Operand.tmp 100) (Operand.const (Value.bool false)), type := 4, pos := "law.go:211", after := #[{ on := 18, ground := Ground.data }, { on := 32, ground := Ground.data }], guard := none }) (v := ?_) rfl (by kernel_rfl) (by kernel_rfl) (by kernel_rfl) (fun _ _ _ h => h) (Or.inl ⟨by rfl, ?_⟩) (by assumption) ?_
                rotate_left
                · intro w hSw
                  try dsimp only at hSw
                  go_simp
                  try with_reducible rfl
                try simp only [Act.put, List.setIfInBounds_toArray, List.set_cons_zero, List.set_cons_succ]
                refine wpAnyH_take (i := 34) (oi := { dst := some 102, op := Op.move (Operand.tmp 101), type := 4, pos := "law.go:211", after := #[{ on := 33, ground := Ground.data }, { on := 27, ground := Ground.chain }], guard := none }) (v := ?_) rfl (by kernel_rfl) (by kernel_rfl) (by kernel_rfl) (fun _ _ _ h => h) (Or.inl ⟨by rfl, ?_⟩) (by assumption) ?_
                rotate_left
                · intro w hSw
                  try dsimp only at hSw
                  go_simp
                  try with_reducible rfl
                try simp only [Act.put, List.setIfInBounds_toArray, List.set_cons_zero, List.set_cons_succ]
                refine wpAnyH_ready (rs := [35]) (by kernel_rfl) (by simp) ?_
                refine AllReadyH.cons (o := { dst := some 103, op := Op.call { callee := Callee.value (Operand.func 14), args := #[], argTypes := #[] }, type := 4, pos := "law.go:211", after := #[{ on := 34, ground := Ground.chain }, { on := 34, ground := Ground.guard }], guard := some (34, true) }) rfl (fun K hK => ?_) ?_
                rotate_left
                · exact AllReadyH.nil
                go_simp
                go_at_call 14
                refine (live8_any y4).mono ?_
                rintro e y5 ⟨rfl, h5⟩
                have HX : Hid (Below y4.heap.size y4 y5) := Lib.hid (blThen (by repeat (first | with_reducible exact Below.refl _ _ | with_reducible refine blAlloc ?_ _ | with_reducible refine Below.drew ?_)) h5)
                have HB_y5 : Hid (Below w1.heap.size w1 y5) := Lib.hid (blThen HB_y4.out HX.out)
                have HONE := Lib.hid (HONE.out.later HX.out)
                have HXX := Lib.hid (HXX.out.later HX.out)
                have Ad := Lib.hid (Ad.out.later HX.out)
                have HX14 := Lib.hid (HX14.out.later HX.out)
                clear h5 HX
                refine hK.out _ _ (K7.out _ HB_y5.out) (fun hHeld => ?_)
                clear hK K
                try simp only [Act.put, List.setIfInBounds_toArray, List.set_cons_zero, List.set_cons_succ]
                refine wpAnyH_take (i := 36) (oi := { dst := some 104, op := Op.pick (Operand.tmp 102) (Operand.tmp 103) (Operand.const (Value.bool false)), type := 4, pos := "law.go:211", after := #[{ on := 34, ground := Ground.data }, { on := 35, ground := Ground.data }], guard := none }) (v := ?_) rfl (by kernel_rfl) (by kernel_rfl) (by kernel_rfl) (fun _ _ _ h => h) (Or.inl ⟨by rfl, ?_⟩) (by assumption) ?_
                rotate_left
                · intro w hSw
                  try dsimp only at hSw
                  go_simp
                  try with_reducible rfl
                try simp only [Act.put, List.setIfInBounds_toArray, List.set_cons_zero, List.set_cons_succ]
                refine wpAnyH_take (i := 37) (oi := { dst := some 6, op := Op.assign (Operand.tmp 104), type := 4, pos := "law.go:211", after := #[{ on := 36, ground := Ground.data }, { on := 35, ground := Ground.chain }, { on := 0, ground := Ground.phase }, { on := 1, ground := Ground.phase }, { on := 2, ground := Ground.phase }, { on := 3, ground := Ground.phase }, { on := 4, ground := Ground.phase }, { on := 5, ground := Ground.phase }, { on := 6, ground := Ground.phase }, { on := 7, ground := Ground.phase }, { on := 8, ground := Ground.phase }, { on := 9, ground := Ground.phase }, { on := 10, ground := Ground.phase }, { on := 11, ground := Ground.phase }, { on := 12, ground := Ground.phase }, { on := 13, ground := Ground.phase }, { on := 14, ground := Ground.phase }, { on := 15, ground := Ground.phase }, { on := 16, ground := Ground.phase }, { on := 17, ground := Ground.phase }, { on := 18, ground := Ground.phase }, { on := 19, ground := Ground.phase }, { on := 20, ground := Ground.phase }, { on := 21, ground := Ground.phase }, { on := 22, ground := Ground.phase }, { on := 23, ground := Ground.phase }, { on := 24, ground := Ground.phase }, { on := 25, ground := Ground.phase }, { on := 26, ground := Ground.phase }, { on := 27, ground := Ground.phase }, { on := 28, ground := Ground.phase }, { on := 29, ground := Ground.phase }, { on := 30, ground := Ground.phase }, { on := 31, ground := Ground.phase }, { on := 32, ground := Ground.phase }, { on := 33, ground := Ground.phase }, { on := 34, ground := Ground.phase }, { on := 35, ground := Ground.phase }, { on := 36, ground := Ground.phase }], guard := none }) (v := ?_) rfl (by kernel_rfl) (by kernel_rfl) (by kernel_rfl) (fun _ _ _ h => h) (Or.inl ⟨by rfl, ?_⟩) (by assumption) ?_
                rotate_left
                · intro w hSw
                  try dsimp only at hSw
                  go_simp
                  try with_reducible rfl
                try simp only [Act.put, List.setIfInBounds_toArray, List.set_cons_zero, List.set_cons_succ]
                refine wpAnyH_done (by kernel_rfl) ?_ _
                go_wp2
                go_ret
                exact ⟨rfl, blThen HB0.out (blThen HB_w1.out HB_y5.out)⟩
              · have HPK0 : Hid ((inA (memL [ptS kb]) (applyP d [(kb, nb, true)])).length = 0) := Lib.hid (by have h2 := HPICK.out.2 rfl; show List.length (inA (memL [ptS kb]) (doW d (kb, nb, true))) = 0; rw [h2]; rfl)
                go_wp2_with fail
                refine wp_region_held_drew (S := fun Y => Y.cell? ⟨w.heap.size, 0, none⟩ = some (.string ka) ∧ Y.cell? ⟨w.heap.size, 1, none⟩ = some (.int .u64 (na : Int)) ∧ Y.cell? ⟨w.heap.size, 2, none⟩ = some (.bool ga) ∧ Y.cell? ⟨w.heap.size + 1, 0, none⟩ = some (.string kb) ∧ Y.cell? ⟨w.heap.size + 1, 1, none⟩ = some (.int .u64 (nb : Int)) ∧ Y.cell? ⟨w.heap.size + 1, 2, none⟩ = some (.bool true)) (by kernel_rfl) (K7.out _ (Below.refl w1.heap.size w1).drew) (fun hHeld => ?_)
                refine wpAnyH_take (i := 0) (oi := { dst := some 68, op := Op.fieldAddr 61 (Operand.tmp 4) 0, type := 0, pos := "law.go:211", after := #[], guard := none }) (v := ?_) rfl (by kernel_rfl) (by kernel_rfl) (by kernel_rfl) (fun _ _ _ h => h) (Or.inl ⟨by rfl, ?_⟩) (by assumption) ?_
                rotate_left
                · intro w hSw
                  try dsimp only at hSw
                  go_simp
                  try with_reducible rfl
                try simp only [Act.put, List.setIfInBounds_toArray, List.set_cons_zero, List.set_cons_succ]
                refine wpAnyH_take (i := 1) (oi := { dst := some 69, op := Op.load 9 (Operand.tmp 68), type := 9, pos := "law.go:211", after := #[{ on := 0, ground := Ground.data }], guard := none }) (v := ?_) rfl (by kernel_rfl) (by kernel_rfl) (by kernel_rfl) (fun _ _ _ h => h) (Or.inl ⟨by rfl, ?_⟩) (by assumption) ?_
                rotate_left
                · intro w hSw
                  try dsimp only at hSw
                  go_simp
                  try with_reducible rfl
                try simp only [Act.put, List.setIfInBounds_toArray, List.set_cons_zero, List.set_cons_succ]
                refine wpAnyH_take (i := 2) (oi := { dst := some 70, op := Op.fieldAddr 61 (Operand.tmp 5) 0, type := 0, pos := "law.go:211", after := #[], guard := none }) (v := ?_) rfl (by kernel_rfl) (by kernel_rfl) (by kernel_rfl) (fun _ _ _ h => h) (Or.inl ⟨by rfl, ?_⟩) (by assumption) ?_
                rotate_left
                · intro w hSw
                  try dsimp only at hSw
                  go_simp
                  try with_reducible rfl
                try simp only [Act.put, List.setIfInBounds_toArray, List.set_cons_zero, List.set_cons_succ]
                refine wpAnyH_take (i := 3) (oi := { dst := some 71, op := Op.load 9 (Operand.tmp 70), type := 9, pos := "law.go:211", after := #[{ on := 2, ground := Ground.data }], guard := none }) (v := ?_) rfl (by kernel_rfl) (by kernel_rfl) (by kernel_rfl) (fun _ _ _ h => h) (Or.inl ⟨by rfl, ?_⟩) (by assumption) ?_
                rotate_left
                · intro w hSw
                  try dsimp only at hSw
                  go_simp
                  try with_reducible rfl
                try simp only [Act.put, List.setIfInBounds_toArray, List.set_cons_zero, List.set_cons_succ]
                refine wpAnyH_take (i := 4) (oi := { dst := some 72, op := Op.binOp BinOp.neq 9 (Operand.tmp 69) (Operand.tmp 71) 9, type := 4, pos := "law.go:211", after := #[{ on := 1, ground := Ground.data }, { on := 3, ground := Ground.data }], guard := none }) (v := ?_) rfl (by kernel_rfl) (by kernel_rfl) (by kernel_rfl) (fun _ _ _ h => h) (Or.inl ⟨by rfl, ?_⟩) (by assumption) ?_
                rotate_left
                · intro w hSw
                  try dsimp only at hSw
                  go_simp
                  try with_reducible rfl
                try simp only [Act.put, List.setIfInBounds_toArray, List.set_cons_zero, List.set_cons_succ]
                refine wpAnyH_take (i := 5) (oi := { dst := some 73, op := Op.move (Operand.tmp 72), type := 4, pos := "law.go:211", after := #[{ on := 4, ground := Ground.data }], guard := none }) (v := ?_) rfl (by kernel_rfl) (by kernel_rfl) (by kernel_rfl) (fun _ _ _ h => h) (Or.inl ⟨by rfl, ?_⟩) (by assumption) ?_
                rotate_left
                · intro w hSw
                  try dsimp only at hSw
                  go_simp
                  try with_reducible rfl
                try simp only [Act.put, List.setIfInBounds_toArray, List.set_cons_zero, List.set_cons_succ]
                refine wpAnyH_take (i := 6) (oi := { dst := some 74, op := Op.move (Operand.tmp 7), type := 42, pos := "law.go:211", after := #[{ on := 5, ground := Ground.guard }], guard := some (5, false) }) (v := ?_) rfl (by kernel_rfl) (by kernel_rfl) (by kernel_rfl) (fun _ _ _ h => h) (Or.inl ⟨by rfl, ?_⟩) (by assumption) ?_
                rotate_left
                · intro w hSw
                  try dsimp only at hSw
                  go_simp
                  try with_reducible rfl
                try simp only [Act.put, List.setIfInBounds_toArray, List.set_cons_zero, List.set_cons_succ]
                refine wpAnyH_take (i := 7) (oi := { dst := some 75, op := Op.move (Operand.tmp 9), type := 42, pos := "law.go:211", after := #[{ on := 5, ground := Ground.guard }], guard := some (5, false) }) (v := ?_) rfl (by kernel_rfl) (by kernel_rfl) (by kernel_rfl) (fun _ _ _ h => h) (Or.inl ⟨by rfl, ?_⟩) (by assumption) ?_
                rotate_left
                · intro w hSw
                  try dsimp only at hSw
                  go_simp
                  try with_reducible rfl
                try simp only [Act.put, List.setIfInBounds_toArray, List.set_cons_zero, List.set_cons_succ]
                refine wpAnyH_ready (rs := [8]) (by kernel_rfl) (by simp) ?_
                refine AllReadyH.cons (o := { dst := some 76, op := Op.call { callee := Callee.value (Operand.func 40), args := #[Operand.tmp 74, Operand.tmp 75], argTypes := #[42, 42] }, type := 4, pos := "law.go:211", after := #[{ on := 6, ground := Ground.data }, { on := 7, ground := Ground.data }, { on := 5, ground := Ground.chain }, { on := 5, ground := Ground.guard }], guard := some (5, false) }) rfl (fun K hK => ?_) ?_
                rotate_left
                · exact AllReadyH.nil
                go_simp
                have h9 := prsame_any rX p6 (applyP d [(ka, na, ga), (kb, nb, true)]) (applyP d [(kb, nb, true)]) w1.drew HNX.out HNO.out (HXX.out.later (by repeat (first | with_reducible exact Below.refl _ _ | with_reducible refine blAlloc ?_ _ | with_reducible refine Below.drew ?_))) (HONE.out.later (by repeat (first | with_reducible exact Below.refl _ _ | with_reducible refine blAlloc ?_ _ | with_reducible refine Below.drew ?_)))
                rw [decide_eq_true HSAME.out] at h9
                go_at_call 40
                refine (h9).mono ?_
                rintro e y1 ⟨rfl, h5⟩
                have HX : Hid (Below w1.heap.size w1 y1) := Lib.hid (blThen (by repeat (first | with_reducible exact Below.refl _ _ | with_reducible refine blAlloc ?_ _ | with_reducible refine Below.drew ?_)) h5)
                have HB_y1 : Hid (Below w1.heap.size w1 y1) := Lib.hid (HX.out)
                have HONE := Lib.hid (HONE.out.later HX.out)
                have HXX := Lib.hid (HXX.out.later HX.out)
                have Ad := Lib.hid (Ad.out.later HX.out)
                clear h5 HX h9
                refine hK.out _ _ (K7.out _ HB_y1.out) (fun hHeld => ?_)
                clear hK K
                try simp only [Act.put, List.setIfInBounds_toArray, List.set_cons_zero, List.set_cons_succ]
                refine wpAnyH_take (i := 9) (oi := { dst := some 77, op := Op.pick (Operand.tmp 73) (Operand.const (Value.bool true)) (Operand.tmp 76), type := 4, pos := "law.go:211", after := #[{ on := 5, ground := Ground.data }, { on := 8, ground := Ground.data }], guard := none }) (v := ?_) rfl (by kernel_rfl) (by kernel_rfl) (by kernel_rfl) (fun _ _ _ h => h) (Or.inl ⟨by rfl, ?_⟩) (by assumption) ?_
                rotate_left
                · intro w hSw
                  try dsimp only at hSw
                  go_simp
                  try with_reducible rfl
                try simp only [Act.put, List.setIfInBounds_toArray, List.set_cons_zero, List.set_cons_succ]
                refine wpAnyH_take (i := 10) (oi := { dst := some 78, op := Op.move (Operand.tmp 77), type := 4, pos := "law.go:211", after := #[{ on := 9, ground := Ground.data }, { on := 8, ground := Ground.chain }], guard := none }) (v := ?_) rfl (by kernel_rfl) (by kernel_rfl) (by kernel_rfl) (fun _ _ _ h => h) (Or.inl ⟨by rfl, ?_⟩) (by assumption) ?_
                rotate_left
                · intro w hSw
                  try dsimp only at hSw
                  go_simp
                  try with_reducible rfl
                try simp only [Act.put, List.setIfInBounds_toArray, List.set_cons_zero, List.set_cons_succ]
                refine wpAnyH_take (i := 11) (oi := { dst := some 79, op := Op.move (Operand.tmp 9), type := 42, pos := "law.go:211", after := #[{ on := 10, ground := Ground.guard }], guard := some (10, true) }) (v := ?_) rfl (by kernel_rfl) (by kernel_rfl) (by kernel_rfl) (fun _ _ _ h => h) (Or.inl ⟨by rfl, ?_⟩) (by assumption) ?_
                rotate_left
                · intro w hSw
                  try dsimp only at hSw
                  go_simp
                  try with_reducible rfl
                try simp only [Act.put, List.setIfInBounds_toArray, List.set_cons_zero, List.set_cons_succ]
                refine wpAnyH_take (i := 12) (oi := { dst := some 80, op := Op.load 61 (Operand.tmp 5), type := 61, pos := "law.go:211", after := #[{ on := 10, ground := Ground.guard }], guard := some (10, true) }) (v := ?_) rfl (by kernel_rfl) (by kernel_rfl) (by kernel_rfl) (fun _ _ _ h => h) (Or.inl ⟨by rfl, ?_⟩) (by assumption) ?_
                rotate_left
                · intro w hSw
                  try dsimp only at hSw
                  go_simp
                  try with_reducible rfl
                try simp only [Act.put, List.setIfInBounds_toArray, List.set_cons_zero, List.set_cons_succ]
                refine wpAnyH_take (i := 15) (oi := { dst := some 83, op := Op.move (Operand.tmp 9), type := 42, pos := "law.go:211", after := #[{ on := 10, ground := Ground.guard }], guard := some (10, true) }) (v := ?_) rfl (by kernel_rfl) (by kernel_rfl) (by kernel_rfl) (fun _ _ _ h => h) (Or.inl ⟨by rfl, ?_⟩) (by assumption) ?_
                rotate_left
                · intro w hSw
                  try dsimp only at hSw
                  go_simp
                  try with_reducible rfl
                try simp only [Act.put, List.setIfInBounds_toArray, List.set_cons_zero, List.set_cons_succ]
                refine wpAnyH_ready (rs := [13]) (by kernel_rfl) (by simp) ?_
                refine AllReadyH.cons (o := { dst := some 81, op := Op.buildSlice 45 1 #[(0, Operand.tmp 80)], type := 45, pos := "law.go:211", after := #[{ on := 12, ground := Ground.data }, { on := 10, ground := Ground.guard }], guard := some (10, true) }) rfl (fun K hK => ?_) ?_
                rotate_left
                · exact AllReadyH.nil
                go_simp
                refine hK.out _ _ (K7.out _ (by repeat (first | with_reducible exact HB_y1.out | with_reducible exact Below.refl _ _ | with_reducible refine blAlloc ?_ _ | with_reducible refine Below.drew ?_))) (fun hHeld => ?_)
                clear hK K
                try simp only [Act.put, List.setIfInBounds_toArray, List.set_cons_zero, List.set_cons_succ]
                refine wpAnyH_ready (rs := [14]) (by kernel_rfl) (by simp) ?_
                refine AllReadyH.cons (o := { dst := some 82, op := Op.call { callee := Callee.value (Operand.func 41), args := #[Operand.tmp 79, Operand.tmp 81], argTypes := #[42, 45] }, type := 42, pos := "law.go:211", after := #[{ on := 11, ground := Ground.data }, { on := 13, ground := Ground.data }, { on := 10, ground := Ground.chain }, { on := 10, ground := Ground.guard }], guard := some (10, true) }) rfl (fun K hK => ?_) ?_
                rotate_left
                · exact AllReadyH.nil
                go_simp
                go_at_call 41
                refine (ap_any p6 _ (applyP d [(kb, nb, true)]) [(kb, nb, true)] _ HDB.out (by omega) (by simp) HKSB.out (HONE.out.later (by repeat (first | with_reducible exact Below.refl _ _ | with_reducible refine blAlloc ?_ _ | with_reducible refine Below.drew ?_))) (list_G eW y1 _ [(kb, nb, true)] _ 1 _ rfl rfl rfl)).mono ?_
                rintro e y2 ⟨x14, rfl, h1, h5⟩
                have HX : Hid (Below y1.heap.size y1 y2) := Lib.hid (blThen (by repeat (first | with_reducible exact Below.refl _ _ | with_reducible refine blAlloc ?_ _ | with_reducible refine Below.drew ?_)) h5)
                have HB_y2 : Hid (Below w1.heap.size w1 y2) := Lib.hid (blThen HB_y1.out HX.out)
                have HONE := Lib.hid (HONE.out.later HX.out)
                have HXX := Lib.hid (HXX.out.later HX.out)
                have Ad := Lib.hid (Ad.out.later HX.out)
                have HX14 := Lib.hid h1
                clear h5 HX h1
                refine hK.out _ _ (K7.out _ HB_y2.out) (fun hHeld => ?_)
                clear hK K
                try simp only [Act.put, List.setIfInBounds_toArray, List.set_cons_zero, List.set_cons_succ]
                refine wpAnyH_ready (rs := [16]) (by kernel_rfl) (by simp) ?_
                refine AllReadyH.cons (o := { dst := some 84, op := Op.call { callee := Callee.value (Operand.func 40), args := #[Operand.tmp 82, Operand.tmp 83], argTypes := #[42, 42] }, type := 4, pos := "law.go:211", after := #[{ on := 14, ground := Ground.data }, { on := 15, ground := Ground.data }, { on := 14, ground := Ground.chain }, { on := 10, ground := Ground.guard }], guard := some (10, true) }) rfl (fun K hK => ?_) ?_
                rotate_left
                · exact AllReadyH.nil
                go_simp
                have h9 := prsame_any x14 p6 (applyP (applyP d [(kb, nb, true)]) [(kb, nb, true)]) (applyP d [(kb, nb, true)]) y2 HNT.out HNO.out HX14.out HONE.out
                rw [decide_eq_true HTWICE.out] at h9
                go_at_call 40
                refine (h9).mono ?_
                rintro e y3 ⟨rfl, h5⟩
                have HX : Hid (Below y2.heap.size y2 y3) := Lib.hid (blThen (by repeat (first | with_reducible exact Below.refl _ _ | with_reducible refine blAlloc ?_ _ | with_reducible refine Below.drew ?_)) h5)
                have HB_y3 : Hid (Below w1.heap.size w1 y3) := Lib.hid (blThen HB_y2.out HX.out)
                have HONE := Lib.hid (HONE.out.later HX.out)
                have HXX := Lib.hid (HXX.out.later HX.out)
                have Ad := Lib.hid (Ad.out.later HX.out)
                have HX14 := Lib.hid (HX14.out.later HX.out)
                clear h5 HX h9
                refine hK.out _ _ (K7.out _ HB_y3.out) (fun hHeld => ?_)
                clear hK K
                try simp only [Act.put, List.setIfInBounds_toArray, List.set_cons_zero, List.set_cons_succ]
                refine wpAnyH_take (i := 17) (oi := { dst := some 85, op := Op.pick (Operand.tmp 78) (Operand.tmp 84) (Operand.const (Value.bool false)), type := 4, pos := "law.go:211", after := #[{ on := 10, ground := Ground.data }, { on := 16, ground := Ground.data }], guard := none }) (v := ?_) rfl (by kernel_rfl) (by kernel_rfl) (by kernel_rfl) (fun _ _ _ h => h) (Or.inl ⟨by rfl, ?_⟩) (by assumption) ?_
                rotate_left
                · intro w hSw
                  try dsimp only at hSw
                  go_simp
                  try with_reducible rfl
                try simp only [Act.put, List.setIfInBounds_toArray, List.set_cons_zero, List.set_cons_succ]
                refine wpAnyH_take (i := 18) (oi := { dst := some 86, op := Op.move (Operand.tmp 85), type := 4, pos := "law.go:211", after := #[{ on := 17, ground := Ground.data }, { on := 16, ground := Ground.chain }], guard := none }) (v := ?_) rfl (by kernel_rfl) (by kernel_rfl) (by kernel_rfl) (fun _ _ _ h => h) (Or.inl ⟨by rfl, ?_⟩) (by assumption) ?_
                rotate_left
                · intro w hSw
                  try dsimp only at hSw
                  go_simp
                  try with_reducible rfl
                try simp only [Act.put, List.setIfInBounds_toArray, List.set_cons_zero, List.set_cons_succ]
                refine wpAnyH_take (i := 19) (oi := { dst := some 87, op := Op.move (Operand.tmp 9), type := 42, pos := "law.go:211", after := #[{ on := 18, ground := Ground.guard }], guard := some (18, true) }) (v := ?_) rfl (by kernel_rfl) (by kernel_rfl) (by kernel_rfl) (fun _ _ _ h => h) (Or.inl ⟨by rfl, ?_⟩) (by assumption) ?_
                rotate_left
                · intro w hSw
                  try dsimp only at hSw
                  go_simp
                  try with_reducible rfl
                try simp only [Act.put, List.setIfInBounds_toArray, List.set_cons_zero, List.set_cons_succ]
                refine wpAnyH_take (i := 20) (oi := { dst := some 88, op := Op.fieldAddr 61 (Operand.tmp 5) 0, type := 0, pos := "law.go:211", after := #[{ on := 18, ground := Ground.guard }], guard := some (18, true) }) (v := ?_) rfl (by kernel_rfl) (by kernel_rfl) (by kernel_rfl) (fun _ _ _ h => h) (Or.inl ⟨by rfl, ?_⟩) (by assumption) ?_
                rotate_left
                · intro w hSw
                  try dsimp only at hSw
                  go_simp
                  try with_reducible rfl
                try simp only [Act.put, List.setIfInBounds_toArray, List.set_cons_zero, List.set_cons_succ]
                refine wpAnyH_take (i := 21) (oi := { dst := some 89, op := Op.load 9 (Operand.tmp 88), type := 9, pos := "law.go:211", after := #[{ on := 20, ground := Ground.data }, { on := 18, ground := Ground.guard }], guard := some (18, true) }) (v := ?_) rfl (by kernel_rfl) (by kernel_rfl) (by kernel_rfl) (fun _ _ _ h => h) (Or.inl ⟨by rfl, ?_⟩) (by assumption) ?_
                rotate_left
                · intro w hSw
                  try dsimp only at hSw
                  go_simp
                  try with_reducible rfl
                try simp only [Act.put, List.setIfInBounds_toArray, List.set_cons_zero, List.set_cons_succ]
                refine wpAnyH_take (i := 22) (oi := { dst := some 90, op := Op.fieldAddr 61 (Operand.tmp 5) 0, type := 0, pos := "law.go:211", after := #[{ on := 18, ground := Ground.guard }], guard := some (18, true) }) (v := ?_) rfl (by kernel_rfl) (by kernel_rfl) (by kernel_rfl) (fun _ _ _ h => h) (Or.inl ⟨by rfl, ?_⟩) (by assumption) ?_
                rotate_left
                · intro w hSw
                  try dsimp only at hSw
                  go_simp
                  try with_reducible rfl
                try simp only [Act.put, List.setIfInBounds_toArray, List.set_cons_zero, List.set_cons_succ]
                refine wpAnyH_take (i := 23) (oi := { dst := some 91, op := Op.load 9 (Operand.tmp 90), type := 9, pos := "law.go:211", after := #[{ on := 22, ground := Ground.data }, { on := 18, ground := Ground.guard }], guard := some (18, true) }) (v := ?_) rfl (by kernel_rfl) (by kernel_rfl) (by kernel_rfl) (fun _ _ _ h => h) (Or.inl ⟨by rfl, ?_⟩) (by assumption) ?_
                rotate_left
                · intro w hSw
                  try dsimp only at hSw
                  go_simp
                  try with_reducible rfl
                try simp only [Act.put, List.setIfInBounds_toArray, List.set_cons_zero, List.set_cons_succ]
                refine wpAnyH_take (i := 24) (oi := { dst := some 92, op := Op.binOp BinOp.add 9 (Operand.tmp 91) (Operand.const (Value.string { data := #[0] })) 9, type := 9, pos := "law.go:211", after := #[{ on := 23, ground := Ground.data }, { on := 18, ground := Ground.guard }], guard := some (18, true) }) (v := ?_) rfl (by kernel_rfl) (by kernel_rfl) (by kernel_rfl) (fun _ _ _ h => h) (Or.inl ⟨by rfl, ?_⟩) (by assumption) ?_
                rotate_left
                · intro w hSw
                  try dsimp only at hSw
                  go_simp
                  try with_reducible rfl
                try simp only [Act.put, List.setIfInBounds_toArray, List.set_cons_zero, List.set_cons_succ]
                refine wpAnyH_take (i := 25) (oi := { dst := some 93, op := Op.build 75 #[(0, Operand.tmp 89), (1, Operand.tmp 92)], type := 75, pos := "law.go:211", after := #[{ on := 21, ground := Ground.data }, { on := 24, ground := Ground.data }, { on := 18, ground := Ground.guard }], guard := some (18, true) }) (v := ?_) rfl (by kernel_rfl) (by kernel_rfl) (by kernel_rfl) (fun _ _ _ h => h) (Or.inl ⟨by rfl, ?_⟩) (by assumption) ?_
                rotate_left
                · intro w hSw
                  try dsimp only at hSw
                  go_simp
                  try with_reducible rfl
                try simp only [Act.put, List.setIfInBounds_toArray, List.set_cons_zero, List.set_cons_succ]
                refine wpAnyH_take (i := 30) (oi := { dst := some 98, op := Op.fieldAddr 61 (Operand.tmp 5) 2, type := 0, pos := "law.go:211", after := #[{ on := 18, ground := Ground.guard }], guard := some (18, true) }) (v := ?_) rfl (by kernel_rfl) (by kernel_rfl) (by kernel_rfl) (fun _ _ _ h => h) (Or.inl ⟨by rfl, ?_⟩) (by assumption) ?_
                rotate_left
                · intro w hSw
                  try dsimp only at hSw
                  go_simp
                  try with_reducible rfl
                try simp only [Act.put, List.setIfInBounds_toArray, List.set_cons_zero, List.set_cons_succ]
                refine wpAnyH_take (i := 31) (oi := { dst := some 99, op := Op.load 4 (Operand.tmp 98), type := 4, pos := "law.go:211", after := #[{ on := 30, ground := Ground.data }, { on := 18, ground := Ground.guard }], guard := some (18, true) }) (v := ?_) rfl (by kernel_rfl) (by kernel_rfl) (by kernel_rfl) (fun _ _ _ h => h) (Or.inl ⟨by rfl, ?_⟩) (by assumption) ?_
                rotate_left
                · intro w hSw
                  try dsimp only at hSw
                  go_simp
                  try with_reducible rfl
                try simp only [Act.put, List.setIfInBounds_toArray, List.set_cons_zero, List.set_cons_succ]
                refine wpAnyH_ready (rs := [26]) (by kernel_rfl) (by simp) ?_
                refine AllReadyH.cons (o := { dst := some 94, op := Op.buildSlice 40 1 #[(0, Operand.tmp 93)], type := 40, pos := "law.go:211", after := #[{ on := 25, ground := Ground.data }, { on := 18, ground := Ground.guard }], guard := some (18, true) }) rfl (fun K hK => ?_) ?_
                rotate_left
                · exact AllReadyH.nil
                go_simp
                refine hK.out _ _ (K7.out _ (by repeat (first | with_reducible exact HB_y3.out | with_reducible exact Below.refl _ _ | with_reducible refine blAlloc ?_ _ | with_reducible refine Below.drew ?_))) (fun hHeld => ?_)
                clear hK K
                try simp only [Act.put, List.setIfInBounds_toArray, List.set_cons_zero, List.set_cons_succ]
                refine wpAnyH_ready (rs := [27]) (by kernel_rfl) (by simp) ?_
                refine AllReadyH.cons (o := { dst := some 95, op := Op.call { callee := Callee.value (Operand.func 43), args := #[Operand.tmp 87, Operand.tmp 94], argTypes := #[42, 40] }, type := 42, pos := "law.go:211", after := #[{ on := 19, ground := Ground.data }, { on := 26, ground := Ground.data }, { on := 18, ground := Ground.chain }, { on := 18, ground := Ground.guard }], guard := some (18, true) }) rfl (fun K hK => ?_) ?_
                rotate_left
                · exact AllReadyH.nil
                go_simp
                go_at_call 43
                refine (pk_any p6 _ (applyP d [(kb, nb, true)]) [ptS kb] _ HDB.out (by omega) (by simp) HSET.out (HONE.out.later (by repeat (first | with_reducible exact Below.refl _ _ | with_reducible refine blAlloc ?_ _ | with_reducible refine Below.drew ?_))) (row1sp y3 (ptS kb) _ rfl)).mono ?_
                rintro e y4 ⟨x27, rfl, h1, h5⟩
                obtain ⟨ax, cx, rfl⟩ := h1.form
                rw [HPK0.out]
                have HX : Hid (Below y3.heap.size y3 y4) := Lib.hid (blThen (by repeat (first | with_reducible exact Below.refl _ _ | with_reducible refine blAlloc ?_ _ | with_reducible refine Below.drew ?_)) h5)
                have HB_y4 : Hid (Below w1.heap.size w1 y4) := Lib.hid (blThen HB_y3.out HX.out)
                have HONE := Lib.hid (HONE.out.later HX.out)
                have HXX := Lib.hid (HXX.out.later HX.out)
                have Ad := Lib.hid (Ad.out.later HX.out)
                have HX14 := Lib.hid (HX14.out.later HX.out)
                clear h5 HX h1
                refine hK.out _ _ (K7.out _ HB_y4.out) (fun hHeld => ?_)
                clear hK K
                try simp only [Act.put, List.setIfInBounds_toArray, List.set_cons_zero, List.set_cons_succ]
                refine wpAnyH_take (i := 28) (oi := { dst := some 96, op := Op.call { callee := Callee.builtin Builtin.len, args := #[Operand.tmp 95], argTypes := #[42] }, type := 3, pos := "law.go:211", after := #[{ on := 27, ground := Ground.data }, { on := 18, ground := Ground.guard }], guard := some (18, true) }) (v := ?_) rfl (by kernel_rfl) (by kernel_rfl) (by kernel_rfl) (fun _ _ _ h => h) (Or.inl ⟨by rfl, ?_⟩) (by assumption) ?_
                rotate_left
                · intro w hSw
                  try dsimp only at hSw
                  go_simp
                  try with_reducible rfl
                try simp only [Act.put, List.setIfInBounds_toArray, List.set_cons_zero, List.set_cons_succ]
                refine wpAnyH_take (i := 29) (oi := { dst := some 97, op := Op.binOp BinOp.eql 3 (Operand.tmp 96) (Operand.const (Value.int IntKind.i64 0)) 3, type := 4, pos := "law.go:211", after := #[{ on := 28, ground := Ground.data }, { on := 18, ground := Ground.guard }], guard := some (18, true) }) (v := ?_) rfl (by kernel_rfl) (by kernel_rfl) (by kernel_rfl) (fun _ _ _ h => h) (Or.inl ⟨by rfl, ?_⟩) (by assumption) ?_
                rotate_left
                · intro w hSw
                  try dsimp only at hSw
                  go_simp
                  try with_reducible rfl
                try simp only [Act.put, List.setIfInBounds_toArray, List.set_cons_zero, List.set_cons_succ]
                refine wpAnyH_take (i := 32) (oi := { dst := some 100, op := Op.binOp BinOp.eql 4 (Operand.tmp 97) (Operand.tmp 99) 4, type := 4, pos := "law.go:211", after := #[{ on := 29, ground := Ground.data }, { on := 31, ground := Ground.data }, { on := 18, ground := Ground.guard }], guard := some (18, true) }) (v := ?_) rfl (by kernel_rfl) (by kernel_rfl) (by kernel_rfl) (fun _ _ _ h => h) (Or.inl ⟨by rfl, ?_⟩) (by assumption) ?_
                rotate_left
                · intro w hSw
                  try dsimp only at hSw
                  go_simp
                  try with_reducible rfl
                try simp only [Act.put, List.setIfInBounds_toArray, List.set_cons_zero, List.set_cons_succ]
                refine wpAnyH_take (i := 33) (oi := { dst := some 101, op := Op.pick (Operand.tmp 86) (Operand.tmp 100) (Operand.const (Value.bool false)), type := 4, pos := "law.go:211", after := #[{ on := 18, ground := Ground.data }, { on := 32, ground := Ground.data }], guard := none }) (v := ?_) rfl (by kernel_rfl) (by kernel_rfl) (by kernel_rfl) (fun _ _ _ h => h) (Or.inl ⟨by rfl, ?_⟩) (by assumption) ?_
                rotate_left
                · intro w hSw
                  try dsimp only at hSw
                  go_simp
                  try with_reducible rfl
                try simp only [Act.put, List.setIfInBounds_toArray, List.set_cons_zero, List.set_cons_succ]
                refine wpAnyH_take (i := 34) (oi := { dst := some 102, op := Op.move (Operand.tmp 101), type := 4, pos := "law.go:211", after := #[{ on := 33, ground := Ground.data }, { on := 27, ground := Ground.chain }], guard := none }) (v := ?_) rfl (by kernel_rfl) (by kernel_rfl) (by kernel_rfl) (fun _ _ _ h => h) (Or.inl ⟨by rfl, ?_⟩) (by assumption) ?_
                rotate_left
                · intro w hSw
                  try dsimp only at hSw
                  go_simp
                  try with_reducible rfl
                try simp only [Act.put, List.setIfInBounds_toArray, List.set_cons_zero, List.set_cons_succ]
                refine wpAnyH_ready (rs := [35]) (by kernel_rfl) (by simp) ?_
                refine AllReadyH.cons (o := { dst := some 103, op := Op.call { callee := Callee.value (Operand.func 14), args := #[], argTypes := #[] }, type := 4, pos := "law.go:211", after := #[{ on := 34, ground := Ground.chain }, { on := 34, ground := Ground.guard }], guard := some (34, true) }) rfl (fun K hK => ?_) ?_
                rotate_left
                · exact AllReadyH.nil
                go_simp
                go_at_call 14
                refine (live8_any y4).mono ?_
                rintro e y5 ⟨rfl, h5⟩
                have HX : Hid (Below y4.heap.size y4 y5) := Lib.hid (blThen (by repeat (first | with_reducible exact Below.refl _ _ | with_reducible refine blAlloc ?_ _ | with_reducible refine Below.drew ?_)) h5)
                have HB_y5 : Hid (Below w1.heap.size w1 y5) := Lib.hid (blThen HB_y4.out HX.out)
                have HONE := Lib.hid (HONE.out.later HX.out)
                have HXX := Lib.hid (HXX.out.later HX.out)
                have Ad := Lib.hid (Ad.out.later HX.out)
                have HX14 := Lib.hid (HX14.out.later HX.out)
                clear h5 HX
                refine hK.out _ _ (K7.out _ HB_y5.out) (fun hHeld => ?_)
                clear hK K
                try simp only [Act.put, List.setIfInBounds_toArray, List.set_cons_zero, List.set_cons_succ]
                refine wpAnyH_take (i := 36) (oi := { dst := some 104, op := Op.pick (Operand.tmp 102) (Operand.tmp 103) (Operand.const (Value.bool false)), type := 4, pos := "law.go:211", after := #[{ on := 34, ground := Ground.data }, { on := 35, ground := Ground.data }], guard := none }) (v := ?_) rfl (by kernel_rfl) (by kernel_rfl) (by kernel_rfl) (fun _ _ _ h => h) (Or.inl ⟨by rfl, ?_⟩) (by assumption) ?_
                rotate_left
                · intro w hSw
                  try dsimp only at hSw
                  go_simp
                  try with_reducible rfl
                try simp only [Act.put, List.setIfInBounds_toArray, List.set_cons_zero, List.set_cons_succ]
                refine wpAnyH_take (i := 37) (oi := { dst := some 6, op := Op.assign (Operand.tmp 104), type := 4, pos := "law.go:211", after := #[{ on := 36, ground := Ground.data }, { on := 35, ground := Ground.chain }, { on := 0, ground := Ground.phase }, { on := 1, ground := Ground.phase }, { on := 2, ground := Ground.phase }, { on := 3, ground := Ground.phase }, { on := 4, ground := Ground.phase }, { on := 5, ground := Ground.phase }, { on := 6, ground := Ground.phase }, { on := 7, ground := Ground.phase }, { on := 8, ground := Ground.phase }, { on := 9, ground := Ground.phase }, { on := 10, ground := Ground.phase }, { on := 11, ground := Ground.phase }, { on := 12, ground := Ground.phase }, { on := 13, ground := Ground.phase }, { on := 14, ground := Ground.phase }, { on := 15, ground := Ground.phase }, { on := 16, ground := Ground.phase }, { on := 17, ground := Ground.phase }, { on := 18, ground := Ground.phase }, { on := 19, ground := Ground.phase }, { on := 20, ground := Ground.phase }, { on := 21, ground := Ground.phase }, { on := 22, ground := Ground.phase }, { on := 23, ground := Ground.phase }, { on := 24, ground := Ground.phase }, { on := 25, ground := Ground.phase }, { on := 26, ground := Ground.phase }, { on := 27, ground := Ground.phase }, { on := 28, ground := Ground.phase }, { on := 29, ground := Ground.phase }, { on := 30, ground := Ground.phase }, { on := 31, ground := Ground.phase }, { on := 32, ground := Ground.phase }, { on := 33, ground := Ground.phase }, { on := 34, ground := Ground.phase }, { on := 35, ground := Ground.phase }, { on := 36, ground := Ground.phase }], guard := none }) (v := ?_) rfl (by kernel_rfl) (by kernel_rfl) (by kernel_rfl) (fun _ _ _ h => h) (Or.inl ⟨by rfl, ?_⟩) (by assumption) ?_
                rotate_left
                · intro w hSw
                  try dsimp only at hSw
                  go_simp
                  try with_reducible rfl
                try simp only [Act.put, List.setIfInBounds_toArray, List.set_cons_zero, List.set_cons_succ]
                refine wpAnyH_done (by kernel_rfl) ?_ _
                go_wp2
                go_ret
                exact ⟨rfl, blThen HB0.out (blThen HB_w1.out HB_y5.out)⟩
            · have t5 : (ka.toList == kb.toList) = false := by rw [beq_eq_false_iff_ne]; exact fun e => hab (text_ext e)
              have HSAME2 : Hid (applyP d [(ka, na, ga), (kb, nb, gb)] = applyP (applyP d [(kb, nb, gb)]) [(ka, na, ga)]) := Lib.hid (do_comm HDT.out.1 (ka, na, ga) (kb, nb, gb) hab)
              clear hab
              obtain ⟨ca0, ca1, ca2, cb0, cb1, cb2⟩ := KA.out _ HB_wx.out
              go_wp2_with fail
              have h9 := prsame_any rX rY (applyP d [(ka, na, ga), (kb, nb, gb)]) (applyP (applyP d [(kb, nb, gb)]) [(ka, na, ga)]) wx HNX.out HNY.out HXX.out HYY.out
              rw [decide_eq_true HSAME2.out] at h9
              refine (h9).mono ?_
              rintro e w1 ⟨rfl, h5⟩
              have HX : Hid (Below wx.heap.size wx w1) := blThen (by repeat (first | with_reducible exact Below.refl _ _ | with_reducible refine blAlloc ?_ _ | with_reducible refine Below.drew ?_)) h5
              have HB_w1 := Lib.hid (blThen HB_wx.out HX.out)
              have Ad := Lib.hid (Ad.out.later HX.out)
              have HXX := Lib.hid (HXX.out.later HX.out)
              have HYY := Lib.hid (HYY.out.later HX.out)
              clear h5 HX h9
              obtain ⟨ca0, ca1, ca2, cb0, cb1, cb2⟩ := KA.out _ HB_w1.out
              go_wp2_with fail
              refine (ap_any vd _ d [(kb, nb, gb)] _ HDT.out (by omega) (by simp) HKSB.out (Ad.out.later (by repeat (first | with_reducible exact Below.refl _ _ | with_reducible refine blAlloc ?_ _ | with_reducible refine Below.drew ?_))) (list_G eW w1 _ [(kb, nb, gb)] _ 1 _ rfl rfl rfl)).mono ?_
              rintro e w2 ⟨p6, rfl, h1, h5⟩
              have HX : Hid (Below w1.heap.size w1 w2) := blThen (by repeat (first | with_reducible exact Below.refl _ _ | with_reducible refine blAlloc ?_ _ | with_reducible refine Below.drew ?_)) h5
              have HB_w2 := Lib.hid (blThen HB_w1.out HX.out)
              have Ad := Lib.hid (Ad.out.later HX.out)
              have HXX := Lib.hid (HXX.out.later HX.out)
              have HYY := Lib.hid (HYY.out.later HX.out)
              have HONE := Lib.hid h1
              clear h5 HX h1
              have K7 := Lib.hid (fun (Y : World) (hY : Below w2.heap.size w2 Y) => KA.out Y (blThen HB_w2.out hY))
              cases gb
              · have HPK1 : Hid (¬ (inA (memL [ptS kb]) (applyP d [(kb, nb, false)])).length = 0) := Lib.hid (fun h => by have h2 := HPICK.out.1 (List.eq_nil_of_length_eq_zero h); cases h2)
                have hq1 : decide (((inA (memL [ptS kb]) (applyP d [(kb, nb, false)])).length : Int) = 0) = false := decide_eq_false (by have := HPK1.out; omega)
                have hq2 : (((inA (memL [ptS kb]) (applyP d [(kb, nb, false)])).length : Int) == 0) = false := by have := HPK1.out; simpa using this
                go_wp2_with fail
                refine wp_region_held_drew (S := fun Y => Y.cell? ⟨w.heap.size, 0, none⟩ = some (.string ka) ∧ Y.cell? ⟨w.heap.size, 1, none⟩ = some (.int .u64 (na : Int)) ∧ Y.cell? ⟨w.heap.size, 2, none⟩ = some (.bool ga) ∧ Y.cell? ⟨w.heap.size + 1, 0, none⟩ = some (.string kb) ∧ Y.cell? ⟨w.heap.size + 1, 1, none⟩ = some (.int .u64 (nb : Int)) ∧ Y.cell? ⟨w.heap.size + 1, 2, none⟩ = some (.bool false)) (by kernel_rfl) (K7.out _ (Below.refl w2.heap.size w2).drew) (fun hHeld => ?_)
                refine wpAnyH_take (i := 0) (oi := { dst := some 68, op := Op.fieldAddr 61 (Operand.tmp 4) 0, type := 0, pos := "law.go:211", after := #[], guard := none }) (v := ?_) rfl (by kernel_rfl) (by kernel_rfl) (by kernel_rfl) (fun _ _ _ h => h) (Or.inl ⟨by rfl, ?_⟩) (by assumption) ?_
                rotate_left
                · intro w hSw
                  try dsimp only at hSw
                  go_simp
                  try with_reducible rfl
                try simp only [Act.put, List.setIfInBounds_toArray, List.set_cons_zero, List.set_cons_succ]
                refine wpAnyH_take (i := 1) (oi := { dst := some 69, op := Op.load 9 (Operand.tmp 68), type := 9, pos := "law.go:211", after := #[{ on := 0, ground := Ground.data }], guard := none }) (v := ?_) rfl (by kernel_rfl) (by kernel_rfl) (by kernel_rfl) (fun _ _ _ h => h) (Or.inl ⟨by rfl, ?_⟩) (by assumption) ?_
                rotate_left
                · intro w hSw
                  try dsimp only at hSw
                  go_simp
                  try with_reducible rfl
                try simp only [Act.put, List.setIfInBounds_toArray, List.set_cons_zero, List.set_cons_succ]
                refine wpAnyH_take (i := 2) (oi := { dst := some 70, op := Op.fieldAddr 61 (Operand.tmp 5) 0, type := 0, pos := "law.go:211", after := #[], guard := none }) (v := ?_) rfl (by kernel_rfl) (by kernel_rfl) (by kernel_rfl) (fun _ _ _ h => h) (Or.inl ⟨by rfl, ?_⟩) (by assumption) ?_
                rotate_left
                · intro w hSw
                  try dsimp only at hSw
                  go_simp
                  try with_reducible rfl
                try simp only [Act.put, List.setIfInBounds_toArray, List.set_cons_zero, List.set_cons_succ]
                refine wpAnyH_take (i := 3) (oi := { dst := some 71, op := Op.load 9 (Operand.tmp 70), type := 9, pos := "law.go:211", after := #[{ on := 2, ground := Ground.data }], guard := none }) (v := ?_) rfl (by kernel_rfl) (by kernel_rfl) (by kernel_rfl) (fun _ _ _ h => h) (Or.inl ⟨by rfl, ?_⟩) (by assumption) ?_
                rotate_left
                · intro w hSw
                  try dsimp only at hSw
                  go_simp
                  try with_reducible rfl
                try simp only [Act.put, List.setIfInBounds_toArray, List.set_cons_zero, List.set_cons_succ]
                refine wpAnyH_take (i := 4) (oi := { dst := some 72, op := Op.binOp BinOp.neq 9 (Operand.tmp 69) (Operand.tmp 71) 9, type := 4, pos := "law.go:211", after := #[{ on := 1, ground := Ground.data }, { on := 3, ground := Ground.data }], guard := none }) (v := ?_) rfl (by kernel_rfl) (by kernel_rfl) (by kernel_rfl) (fun _ _ _ h => h) (Or.inl ⟨by rfl, ?_⟩) (by assumption) ?_
                rotate_left
                · intro w hSw
                  try dsimp only at hSw
                  go_simp
                  try with_reducible rfl
                try simp only [Act.put, List.setIfInBounds_toArray, List.set_cons_zero, List.set_cons_succ]
                refine wpAnyH_take (i := 5) (oi := { dst := some 73, op := Op.move (Operand.tmp 72), type := 4, pos := "law.go:211", after := #[{ on := 4, ground := Ground.data }], guard := none }) (v := ?_) rfl (by kernel_rfl) (by kernel_rfl) (by kernel_rfl) (fun _ _ _ h => h) (Or.inl ⟨by rfl, ?_⟩) (by assumption) ?_
                rotate_left
                · intro w hSw
                  try dsimp only at hSw
                  go_simp
                  try with_reducible rfl
                try simp only [Act.put, List.setIfInBounds_toArray, List.set_cons_zero, List.set_cons_succ]
                refine wpAnyH_take (i := 6) (oi := { dst := some 74, op := Op.move (Operand.tmp 7), type := 42, pos := "law.go:211", after := #[{ on := 5, ground := Ground.guard }], guard := some (5, false) }) (v := undef) rfl (by kernel_rfl) (by kernel_rfl) (by kernel_rfl) (fun _ _ _ h => h) (Or.inr ⟨by rfl, rfl⟩) (by assumption) ?_
                try simp only [Act.put, List.setIfInBounds_toArray, List.set_cons_zero, List.set_cons_succ]
                refine wpAnyH_take (i := 7) (oi := { dst := some 75, op := Op.move (Operand.tmp 9), type := 42, pos := "law.go:211", after := #[{ on := 5, ground := Ground.guard }], guard := some (5, false) }) (v := undef) rfl (by kernel_rfl) (by kernel_rfl) (by kernel_rfl) (fun _ _ _ h => h) (Or.inr ⟨by rfl, rfl⟩) (by assumption) ?_
                try simp only [Act.put, List.setIfInBounds_toArray, List.set_cons_zero, List.set_cons_succ]
                refine wpAnyH_ready (rs := [8]) (by kernel_rfl) (by simp) ?_
                refine AllReadyH.cons (o := { dst := some 76, op := Op.call { callee := Callee.value (Operand.func 40), args := #[Operand.tmp 74, Operand.tmp 75], argTypes := #[42, 42] }, type := 4, pos := "law.go:211", after := #[{ on := 6, ground := Ground.data }, { on := 7, ground := Ground.data }, { on := 5, ground := Ground.chain }, { on := 5, ground := Ground.guard }], guard := some (5, false) }) rfl (fun K hK => ?_) ?_
                rotate_left
                · exact AllReadyH.nil
                refine ite_no (by rfl) ?_
                refine hK.out _ _ hHeld (fun hHeld => ?_)
                clear hK K
                try simp only [Act.put, List.setIfInBounds_toArray, List.set_cons_zero, List.set_cons_succ]
                refine wpAnyH_take (i := 9) (oi := { dst := some 77, op := Op.pick (Operand.tmp 73) (Operand.const (Value.bool true)) (Operand.tmp 76), type := 4, pos := "law.go:211", after := #[{ on := 5, ground := Ground.data }, { on := 8, ground := Ground.data }], guard := none }) (v := ?_) rfl (by kernel_rfl) (by kernel_rfl) (by kernel_rfl) (fun _ _ _ h => h) (Or.inl ⟨by rfl, ?_⟩) (by assumption) ?_
                rotate_left
                · intro w hSw
                  try dsimp only at hSw
                  go_simp
                  try with_reducible rfl
                try simp only [Act.put, List.setIfInBounds_toArray, List.set_cons_zero, List.set_cons_succ]
                refine wpAnyH_take (i := 10) (oi := { dst := some 78, op := Op.move (Operand.tmp 77), type := 4, pos := "law.go:211", after := #[{ on := 9, ground := Ground.data }, { on := 8, ground := Ground.chain }], guard := none }) (v := ?_) rfl (by kernel_rfl) (by kernel_rfl) (by kernel_rfl) (fun _ _ _ h => h) (Or.inl ⟨by rfl, ?_⟩) (by assumption) ?_
                rotate_left
                · intro w hSw
                  try dsimp only at hSw
                  go_simp
                  try with_reducible rfl
                try simp only [Act.put, List.setIfInBounds_toArray, List.set_cons_zero, List.set_cons_succ]
                refine wpAnyH_take (i := 11) (oi := { dst := some 79, op := Op.move (Operand.tmp 9), type := 42, pos := "law.go:211", after := #[{ on := 10, ground := Ground.guard }], guard := some (10, true) }) (v := ?_) rfl (by kernel_rfl) (by kernel_rfl) (by kernel_rfl) (fun _ _ _ h => h) (Or.inl ⟨by rfl, ?_⟩) (by assumption) ?_
                rotate_left
                · intro w hSw
                  try dsimp only at hSw
                  go_simp
                  try with_reducible rfl
                try simp only [Act.put, List.setIfInBounds_toArray, List.set_cons_zero, List.set_cons_succ]
                refine wpAnyH_take (i := 12) (oi := { dst := some 80, op := Op.load 61 (Operand.tmp 5), type := 61, pos := "law.go:211", after := #[{ on := 10, ground := Ground.guard }], guard := some (10, true) }) (v := ?_) rfl (by kernel_rfl) (by kernel_rfl) (by kernel_rfl) (fun _ _ _ h => h) (Or.inl ⟨by rfl, ?_⟩) (by assumption) ?_
                rotate_left
                · intro w hSw
                  try dsimp only at hSw
                  go_simp
                  try with_reducible rfl
                try simp only [Act.put, List.setIfInBounds_toArray, List.set_cons_zero, List.set_cons_succ]
                refine wpAnyH_take (i := 15) (oi := { dst := some 83, op := Op.move (Operand.tmp 9), type := 42, pos := "law.go:211", after := #[{ on := 10, ground := Ground.guard }], guard := some (10, true) }) (v := ?_) rfl (by kernel_rfl) (by kernel_rfl) (by kernel_rfl) (fun _ _ _ h => h) (Or.inl ⟨by rfl, ?_⟩) (by assumption) ?_
                rotate_left
                · intro w hSw
                  try dsimp only at hSw
                  go_simp
                  try with_reducible rfl
                try simp only [Act.put, List.setIfInBounds_toArray, List.set_cons_zero, List.set_cons_succ]
                refine wpAnyH_ready (rs := [13]) (by kernel_rfl) (by simp) ?_
                refine AllReadyH.cons (o := { dst := some 81, op := Op.buildSlice 45 1 #[(0, Operand.tmp 80)], type := 45, pos := "law.go:211", after := #[{ on := 12, ground := Ground.data }, { on := 10, ground := Ground.guard }], guard := some (10, true) }) rfl (fun K hK => ?_) ?_
                rotate_left
                · exact AllReadyH.nil
                go_simp
                refine hK.out _ _ (K7.out _ (by repeat (first | with_reducible exact Below.refl _ _ | with_reducible refine blAlloc ?_ _ | with_reducible refine Below.drew ?_))) (fun hHeld => ?_)
                clear hK K
                try simp only [Act.put, List.setIfInBounds_toArray, List.set_cons_zero, List.set_cons_succ]
                refine wpAnyH_ready (rs := [14]) (by kernel_rfl) (by simp) ?_
                refine AllReadyH.cons (o := { dst := some 82, op := Op.call { callee := Callee.value (Operand.func 41), args := #[Operand.tmp 79, Operand.tmp 81], argTypes := #[42, 45] }, type := 42, pos := "law.go:211", after := #[{ on := 11, ground := Ground.data }, { on := 13, ground := Ground.data }, { on := 10, ground := Ground.chain }, { on := 10, ground := Ground.guard }], guard := some (10, true) }) rfl (fun K hK => ?_) ?_
                rotate_left
                · exact AllReadyH.nil
                go_simp
                go_at_call 41
                refine (ap_any p6 _ (applyP d [(kb, nb, false)]) [(kb, nb, false)] _ HDB.out (by omega) (by simp) HKSB.out (HONE.out.later (by repeat (first | with_reducible exact Below.refl _ _ | with_reducible refine blAlloc ?_ _ | with_reducible refine Below.drew ?_))) (list_G eW w2.drew _ [(kb, nb, false)] _ 1 _ rfl rfl rfl)).mono ?_
                rintro e y1 ⟨x14, rfl, h1, h5⟩
                have HX : Hid (Below w2.heap.size w2 y1) := Lib.hid (blThen (by repeat (first | with_reducible exact Below.refl _ _ | with_reducible refine blAlloc ?_ _ | with_reducible refine Below.drew ?_)) h5)
                have HB_y1 : Hid (Below w2.heap.size w2 y1) := Lib.hid (HX.out)
                have HONE := Lib.hid (HONE.out.later HX.out)
                have HXX := Lib.hid (HXX.out.later HX.out)
                have Ad := Lib.hid (Ad.out.later HX.out)
                have HX14 := Lib.hid h1
                clear h5 HX h1
                refine hK.out _ _ (K7.out _ HB_y1.out) (fun hHeld => ?_)
                clear hK K
                try simp only [Act.put, List.setIfInBounds_toArray, List.set_cons_zero, List.set_cons_succ]
                refine wpAnyH_ready (rs := [16]) (by kernel_rfl) (by simp) ?_
                refine AllReadyH.cons (o := { dst := some 84, op := Op.call { callee := Callee.value (Operand.func 40), args := #[Operand.tmp 82, Operand.tmp 83], argTypes := #[42, 42] }, type := 4, pos := "law.go:211", after := #[{ on := 14, ground := Ground.data }, { on := 15, ground := Ground.data }, { on := 14, ground := Ground.chain }, { on := 10, ground := Ground.guard }], guard := some (10, true) }) rfl (fun K hK => ?_) ?_
                rotate_left
                · exact AllReadyH.nil
                go_simp
                have h9 := prsame_any x14 p6 (applyP (applyP d [(kb, nb, false)]) [(kb, nb, false)]) (applyP d [(kb, nb, false)]) y1 HNT.out HNO.out HX14.out HONE.out
                rw [decide_eq_true HTWICE.out] at h9
                go_at_call 40
                refine (h9).mono ?_
                rintro e y2 ⟨rfl, h5⟩
                have HX : Hid (Below y1.heap.size y1 y2) := Lib.hid (blThen (by repeat (first | with_reducible exact Below.refl _ _ | with_reducible refine blAlloc ?_ _ | with_reducible refine Below.drew ?_)) h5)
                have HB_y2 : Hid (Below w2.heap.size w2 y2) := Lib.hid (blThen HB_y1.out HX.out)
                have HONE := Lib.hid (HONE.out.later HX.out)
                have HXX := Lib.hid (HXX.out.later HX.out)
                have Ad := Lib.hid (Ad.out.later HX.out)
                have HX14 := Lib.hid (HX14.out.later HX.out)
                clear h5 HX h9
                refine hK.out _ _ (K7.out _ HB_y2.out) (fun hHeld => ?_)
                clear hK K
                try simp only [Act.put, List.setIfInBounds_toArray, List.set_cons_zero, List.set_cons_succ]
                refine wpAnyH_take (i := 17) (oi := { dst := some 85, op := Op.pick (Operand.tmp 78) (Operand.tmp 84) (Operand.const (Value.bool false)), type := 4, pos := "law.go:211", after := #[{ on := 10, ground := Ground.data }, { on := 16, ground := Ground.data }], guard := none }) (v := ?_) rfl (by kernel_rfl) (by kernel_rfl) (by kernel_rfl) (fun _ _ _ h => h) (Or.inl ⟨by rfl, ?_⟩) (by assumption) ?_
                rotate_left
                · intro w hSw
                  try dsimp only at hSw
                  go_simp
                  try with_reducible rfl
                try simp only [Act.put, List.setIfInBounds_toArray, List.set_cons_zero, List.set_cons_succ]
                refine wpAnyH_take (i := 18) (oi := { dst := some 86, op := Op.move (Operand.tmp 85), type := 4, pos := "law.go:211", after := #[{ on := 17, ground := Ground.data }, { on := 16, ground := Ground.chain }], guard := none }) (v := ?_) rfl (by kernel_rfl) (by kernel_rfl) (by kernel_rfl) (fun _ _ _ h => h) (Or.inl ⟨by rfl, ?_⟩) (by assumption) ?_
                rotate_left
                · intro w hSw
                  try dsimp only at hSw
                  go_simp
                  try with_reducible rfl
                try simp only [Act.put, List.setIfInBounds_toArray, List.set_cons_zero, List.set_cons_succ]
                refine wpAnyH_take (i := 19) (oi := { dst := some 87, op := Op.move (Operand.tmp 9), type := 42, pos := "law.go:211", after := #[{ on := 18, ground := Ground.guard }], guard := some (18, true) }) (v := ?_) rfl (by kernel_rfl) (by kernel_rfl) (by kernel_rfl) (fun _ _ _ h => h) (Or.inl ⟨by rfl, ?_⟩) (by assumption) ?_
                rotate_left
                · intro w hSw
                  try dsimp only at hSw
                  go_simp
                  try with_reducible rfl
                try simp only [Act.put, List.setIfInBounds_toArray, List.set_cons_zero, List.set_cons_succ]
                refine wpAnyH_take (i := 20) (oi := { dst := some 88, op := Op.fieldAddr 61 (Operand.tmp 5) 0, type := 0, pos := "law.go:211", after := #[{ on := 18, ground := Ground.guard }], guard := some (18, true) }) (v := ?_) rfl (by kernel_rfl) (by kernel_rfl) (by kernel_rfl) (fun _ _ _ h => h) (Or.inl ⟨by rfl, ?_⟩) (by assumption) ?_
                rotate_left
                · intro w hSw
                  try dsimp only at hSw
                  go_simp
                  try with_reducible rfl
                try simp only [Act.put, List.setIfInBounds_toArray, List.set_cons_zero, List.set_cons_succ]
                refine wpAnyH_take (i := 21) (oi := { dst := some 89, op := Op.load 9 (Operand.tmp 88), type := 9, pos := "law.go:211", after := #[{ on := 20, ground := Ground.data }, { on := 18, ground := Ground.guard }], guard := some (18, true) }) (v := ?_) rfl (by kernel_rfl) (by kernel_rfl) (by kernel_rfl) (fun _ _ _ h => h) (Or.inl ⟨by rfl, ?_⟩) (by assumption) ?_
                rotate_left
                · intro w hSw
                  try dsimp only at hSw
                  go_simp
                  try with_reducible rfl
                try simp only [Act.put, List.setIfInBounds_toArray, List.set_cons_zero, List.set_cons_succ]
                refine wpAnyH_take (i := 22) (oi := { dst := some 90, op := Op.fieldAddr 61 (Operand.tmp 5) 0, type := 0, pos := "law.go:211", after := #[{ on := 18, ground := Ground.guard }], guard := some (18, true) }) (v := ?_) rfl (by kernel_rfl) (by kernel_rfl) (by kernel_rfl) (fun _ _ _ h => h) (Or.inl ⟨by rfl, ?_⟩) (by assumption) ?_
                rotate_left
                · intro w hSw
                  try dsimp only at hSw
                  go_simp
                  try with_reducible rfl
                try simp only [Act.put, List.setIfInBounds_toArray, List.set_cons_zero, List.set_cons_succ]
                refine wpAnyH_take (i := 23) (oi := { dst := some 91, op := Op.load 9 (Operand.tmp 90), type := 9, pos := "law.go:211", after := #[{ on := 22, ground := Ground.data }, { on := 18, ground := Ground.guard }], guard := some (18, true) }) (v := ?_) rfl (by kernel_rfl) (by kernel_rfl) (by kernel_rfl) (fun _ _ _ h => h) (Or.inl ⟨by rfl, ?_⟩) (by assumption) ?_
                rotate_left
                · intro w hSw
                  try dsimp only at hSw
                  go_simp
                  try with_reducible rfl
                try simp only [Act.put, List.setIfInBounds_toArray, List.set_cons_zero, List.set_cons_succ]
                refine wpAnyH_take (i := 24) (oi := { dst := some 92, op := Op.binOp BinOp.add 9 (Operand.tmp 91) (Operand.const (Value.string { data := #[0] })) 9, type := 9, pos := "law.go:211", after := #[{ on := 23, ground := Ground.data }, { on := 18, ground := Ground.guard }], guard := some (18, true) }) (v := ?_) rfl (by kernel_rfl) (by kernel_rfl) (by kernel_rfl) (fun _ _ _ h => h) (Or.inl ⟨by rfl, ?_⟩) (by assumption) ?_
                rotate_left
                · intro w hSw
                  try dsimp only at hSw
                  go_simp
                  try with_reducible rfl
                try simp only [Act.put, List.setIfInBounds_toArray, List.set_cons_zero, List.set_cons_succ]
                refine wpAnyH_take (i := 25) (oi := { dst := some 93, op := Op.build 75 #[(0, Operand.tmp 89), (1, Operand.tmp 92)], type := 75, pos := "law.go:211", after := #[{ on := 21, ground := Ground.data }, { on := 24, ground := Ground.data }, { on := 18, ground := Ground.guard }], guard := some (18, true) }) (v := ?_) rfl (by kernel_rfl) (by kernel_rfl) (by kernel_rfl) (fun _ _ _ h => h) (Or.inl ⟨by rfl, ?_⟩) (by assumption) ?_
                rotate_left
                · intro w hSw
                  try dsimp only at hSw
                  go_simp
                  try with_reducible rfl
                try simp only [Act.put, List.setIfInBounds_toArray, List.set_cons_zero, List.set_cons_succ]
                refine wpAnyH_take (i := 30) (oi := { dst := some 98, op := Op.fieldAddr 61 (Operand.tmp 5) 2, type := 0, pos := "law.go:211", after := #[{ on := 18, ground := Ground.guard }], guard := some (18, true) }) (v := ?_) rfl (by kernel_rfl) (by kernel_rfl) (by kernel_rfl) (fun _ _ _ h => h) (Or.inl ⟨by rfl, ?_⟩) (by assumption) ?_
                rotate_left
                · intro w hSw
                  try dsimp only at hSw
                  go_simp
                  try with_reducible rfl
                try simp only [Act.put, List.setIfInBounds_toArray, List.set_cons_zero, List.set_cons_succ]
                refine wpAnyH_take (i := 31) (oi := { dst := some 99, op := Op.load 4 (Operand.tmp 98), type := 4, pos := "law.go:211", after := #[{ on := 30, ground := Ground.data }, { on := 18, ground := Ground.guard }], guard := some (18, true) }) (v := ?_) rfl (by kernel_rfl) (by kernel_rfl) (by kernel_rfl) (fun _ _ _ h => h) (Or.inl ⟨by rfl, ?_⟩) (by assumption) ?_
                rotate_left
                · intro w hSw
                  try dsimp only at hSw
                  go_simp
                  try with_reducible rfl
                try simp only [Act.put, List.setIfInBounds_toArray, List.set_cons_zero, List.set_cons_succ]
                refine wpAnyH_ready (rs := [26]) (by kernel_rfl) (by simp) ?_
                refine AllReadyH.cons (o := { dst := some 94, op := Op.buildSlice 40 1 #[(0, Operand.tmp 93)], type := 40, pos := "law.go:211", after := #[{ on := 25, ground := Ground.data }, { on := 18, ground := Ground.guard }], guard := some (18, true) }) rfl (fun K hK => ?_) ?_
                rotate_left
                · exact AllReadyH.nil
                go_simp
                refine hK.out _ _ (K7.out _ (by repeat (first | with_reducible exact HB_y2.out | with_reducible exact Below.refl _ _ | with_reducible refine blAlloc ?_ _ | with_reducible refine Below.drew ?_))) (fun hHeld => ?_)
                clear hK K
                try simp only [Act.put, List.setIfInBounds_toArray, List.set_cons_zero, List.set_cons_succ]
                refine wpAnyH_ready (rs := [27]) (by kernel_rfl) (by simp) ?_
                refine AllReadyH.cons (o := { dst := some 95, op := Op.call { callee := Callee.value (Operand.func 43), args := #[Operand.tmp 87, Operand.tmp 94], argTypes := #[42, 40] }, type := 42, pos := "law.go:211", after := #[{ on := 19, ground := Ground.data }, { on := 26, ground := Ground.data }, { on := 18, ground := Ground.chain }, { on := 18, ground := Ground.guard }], guard := some (18, true) }) rfl (fun K hK => ?_) ?_
                rotate_left
                · exact AllReadyH.nil
                go_simp
                go_at_call 43
                refine (pk_any p6 _ (applyP d [(kb, nb, false)]) [ptS kb] _ HDB.out (by omega) (by simp) HSET.out (HONE.out.later (by repeat (first | with_reducible exact Below.refl _ _ | with_reducible refine blAlloc ?_ _ | with_reducible refine Below.drew ?_))) (row1sp y2 (ptS kb) _ rfl)).mono ?_
                rintro e y3 ⟨x27, rfl, h1, h5⟩
                obtain ⟨ax, cx, rfl⟩ := h1.form
                have HX : Hid (Below y2.heap.size y2 y3) := Lib.hid (blThen (by repeat (first | with_reducible exact Below.refl _ _ | with_reducible refine blAlloc ?_ _ | with_reducible refine Below.drew ?_)) h5)
                have HB_y3 : Hid (Below w2.heap.size w2 y3) := Lib.hid (blThen HB_y2.out HX.out)
                have HONE := Lib.hid (HONE.out.later HX.out)
                have HXX := Lib.hid (HXX.out.later HX.out)
                have Ad := Lib.hid (Ad.out.later HX.out)
                have HX14 := Lib.hid (HX14.out.later HX.out)
                clear h5 HX h1
                refine hK.out _ _ (K7.out _ HB_y3.out) (fun hHeld => ?_)
                clear hK K
                try simp only [Act.put, List.setIfInBounds_toArray, List.set_cons_zero, List.set_cons_succ]
                refine wpAnyH_take (i := 28) (oi := { dst := some 96, op := Op.call { callee := Callee.builtin Builtin.len, args := #[Operand.tmp 95], argTypes := #[42] }, type := 3, pos := "law.go:211", after := #[{ on := 27, ground := Ground.data }, { on := 18, ground := Ground.guard }], guard := some (18, true) }) (v := ?_) rfl (by kernel_rfl) (by kernel_rfl) (by kernel_rfl) (fun _ _ _ h => h) (Or.inl ⟨by rfl, ?_⟩) (by assumption) ?_
                rotate_left
                · intro w hSw
                  try dsimp only at hSw
                  go_simp
                  try with_reducible rfl
                try simp only [Act.put, List.setIfInBounds_toArray, List.set_cons_zero, List.set_cons_succ]
                refine wpAnyH_take (i := 29) (oi := { dst := some 97, op := Op.binOp BinOp.eql 3 (Operand.tmp 96) (Operand.const (Value.int IntKind.i64 0)) 3, type := 4, pos := "law.go:211", after := #[{ on := 28, ground := Ground.data }, { on := 18, ground := Ground.guard }], guard := some (18, true) }) (v := ?_) rfl (by kernel_rfl) (by kernel_rfl) (by kernel_rfl) (fun _ _ _ h => h) (Or.inl ⟨by rfl, ?_⟩) (by assumption) ?_
                rotate_left
                · intro w hSw
                  try dsimp only at hSw
                  go_simp
                  try with_reducible rfl
                try simp only [Act.put, List.setIfInBounds_toArray, List.set_cons_zero, List.set_cons_succ]
                refine wpAnyH_take (i := 32) (oi := { dst := some 100, op := Op.binOp BinOp.eql 4 (Operand.tmp 97) (Operand.tmp 99) 4, type := 4, pos := "law.go:211", after := #[{ on := 29, ground := Ground.data }, { on := 31, ground := Ground.data }, { on := 18, ground := Ground.guard }], guard := some (18, true) }) (v := ?_) rfl (by kernel_rfl) (by kernel_rfl) (by kernel_rfl) (fun _ _ _ h => h) (Or.inl ⟨by rfl, ?_⟩) (by assumption) ?_
                rotate_left
                · intro w hSw
                  try dsimp only at hSw
                  go_simp
                  try with_reducible rfl
                try simp only [Act.put, List.setIfInBounds_toArray, List.set_cons_zero, List.set_cons_succ]
                refine wpAnyH_take (i := 33) (oi := { dst := some 101, op := Op.pick (Operand.tmp 86) (Operand.tmp 100) (Operand.const (Value.bool false)), type := 4, pos := "law.go:211", after := #[{ on := 18, ground := Ground.data }, { on := 32, ground := Ground.data }], guard := none }) (v := ?_) rfl (by kernel_rfl) (by kernel_rfl) (by kernel_rfl) (fun _ _ _ h => h) (Or.inl ⟨by rfl, ?_⟩) (by assumption) ?_
                rotate_left
                · intro w hSw
                  try dsimp only at hSw
                  go_simp
                  try with_reducible rfl
                try simp only [Act.put, List.setIfInBounds_toArray, List.set_cons_zero, List.set_cons_succ]
                refine wpAnyH_take (i := 34) (oi := { dst := some 102, op := Op.move (Operand.tmp 101), type := 4, pos := "law.go:211", after := #[{ on := 33, ground := Ground.data }, { on := 27, ground := Ground.chain }], guard := none }) (v := ?_) rfl (by kernel_rfl) (by kernel_rfl) (by kernel_rfl) (fun _ _ _ h => h) (Or.inl ⟨by rfl, ?_⟩) (by assumption) ?_
                rotate_left
                · intro w hSw
                  try dsimp only at hSw
                  go_simp
                  try with_reducible rfl
                try simp only [Act.put, List.setIfInBounds_toArray, List.set_cons_zero, List.set_cons_succ]
                refine wpAnyH_ready (rs := [35]) (by kernel_rfl) (by simp) ?_
                refine AllReadyH.cons (o := { dst := some 103, op := Op.call { callee := Callee.value (Operand.func 14), args := #[], argTypes := #[] }, type := 4, pos := "law.go:211", after := #[{ on := 34, ground := Ground.chain }, { on := 34, ground := Ground.guard }], guard := some (34, true) }) rfl (fun K hK => ?_) ?_
                rotate_left
                · exact AllReadyH.nil
                go_simp
                go_at_call 14
                refine (live8_any y3).mono ?_
                rintro e y4 ⟨rfl, h5⟩
                have HX : Hid (Below y3.heap.size y3 y4) := Lib.hid (blThen (by repeat (first | with_reducible exact Below.refl _ _ | with_reducible refine blAlloc ?_ _ | with_reducible refine Below.drew ?_)) h5)
                have HB_y4 : Hid (Below w2.heap.size w2 y4) := Lib.hid (blThen HB_y3.out HX.out)
                have HONE := Lib.hid (HONE.out.later HX.out)
                have HXX := Lib.hid (HXX.out.later HX.out)
                have Ad := Lib.hid (Ad.out.later HX.out)
                have HX14 := Lib.hid (HX14.out.later HX.out)
                clear h5 HX
                refine hK.out _ _ (K7.out _ HB_y4.out) (fun hHeld => ?_)
                clear hK K
                try simp only [Act.put, List.setIfInBounds_toArray, List.set_cons_zero, List.set_cons_succ]
                refine wpAnyH_take (i := 36) (oi := { dst := some 104, op := Op.pick (Operand.tmp 102) (Operand.tmp 103) (Operand.const (Value.bool false)), type := 4, pos := "law.go:211", after := #[{ on := 34, ground := Ground.data }, { on := 35, ground := Ground.data }], guard := none }) (v := ?_) rfl (by kernel_rfl) (by kernel_rfl) (by kernel_rfl) (fun _ _ _ h => h) (Or.inl ⟨by rfl, ?_⟩) (by assumption) ?_
                rotate_left
                · intro w hSw
                  try dsimp only at hSw
                  go_simp
                  try with_reducible rfl
                try simp only [Act.put, List.setIfInBounds_toArray, List.set_cons_zero, List.set_cons_succ]
                refine wpAnyH_take (i := 37) (oi := { dst := some 6, op := Op.assign (Operand.tmp 104), type := 4, pos := "law.go:211", after := #[{ on := 36, ground := Ground.data }, { on := 35, ground := Ground.chain }, { on := 0, ground := Ground.phase }, { on := 1, ground := Ground.phase }, { on := 2, ground := Ground.phase }, { on := 3, ground := Ground.phase }, { on := 4, ground := Ground.phase }, { on := 5, ground := Ground.phase }, { on := 6, ground := Ground.phase }, { on := 7, ground := Ground.phase }, { on := 8, ground := Ground.phase }, { on := 9, ground := Ground.phase }, { on := 10, ground := Ground.phase }, { on := 11, ground := Ground.phase }, { on := 12, ground := Ground.phase }, { on := 13, ground := Ground.phase }, { on := 14, ground := Ground.phase }, { on := 15, ground := Ground.phase }, { on := 16, ground := Ground.phase }, { on := 17, ground := Ground.phase }, { on := 18, ground := Ground.phase }, { on := 19, ground := Ground.phase }, { on := 20, ground := Ground.phase }, { on := 21, ground := Ground.phase }, { on := 22, ground := Ground.phase }, { on := 23, ground := Ground.phase }, { on := 24, ground := Ground.phase }, { on := 25, ground := Ground.phase }, { on := 26, ground := Ground.phase }, { on := 27, ground := Ground.phase }, { on := 28, ground := Ground.phase }, { on := 29, ground := Ground.phase }, { on := 30, ground := Ground.phase }, { on := 31, ground := Ground.phase }, { on := 32, ground := Ground.phase }, { on := 33, ground := Ground.phase }, { on := 34, ground := Ground.phase }, { on := 35, ground := Ground.phase }, { on := 36, ground := Ground.phase }], guard := none }) (v := ?_) rfl (by kernel_rfl) (by kernel_rfl) (by kernel_rfl) (fun _ _ _ h => h) (Or.inl ⟨by rfl, ?_⟩) (by assumption) ?_
                rotate_left
                · intro w hSw
                  try dsimp only at hSw
                  go_simp
                  try with_reducible rfl
                try simp only [Act.put, List.setIfInBounds_toArray, List.set_cons_zero, List.set_cons_succ]
                refine wpAnyH_done (by kernel_rfl) ?_ _
                go_wp2
                go_ret
                exact ⟨rfl, blThen HB0.out (blThen HB_w2.out HB_y4.out)⟩
              · have HPK0 : Hid ((inA (memL [ptS kb]) (applyP d [(kb, nb, true)])).length = 0) := Lib.hid (by have h2 := HPICK.out.2 rfl; show List.length (inA (memL [ptS kb]) (doW d (kb, nb, true))) = 0; rw [h2]; rfl)
                go_wp2_with fail
                refine wp_region_held_drew (S := fun Y => Y.cell? ⟨w.heap.size, 0, none⟩ = some (.string ka) ∧ Y.cell? ⟨w.heap.size, 1, none⟩ = some (.int .u64 (na : Int)) ∧ Y.cell? ⟨w.heap.size, 2, none⟩ = some (.bool ga) ∧ Y.cell? ⟨w.heap.size + 1, 0, none⟩ = some (.string kb) ∧ Y.cell? ⟨w.heap.size + 1, 1, none⟩ = some (.int .u64 (nb : Int)) ∧ Y.cell? ⟨w.heap.size + 1, 2, none⟩ = some (.bool true)) (by kernel_rfl) (K7.out _ (Below.refl w2.heap.size w2).drew) (fun hHeld => ?_)
                refine wpAnyH_take (i := 0) (oi := { dst := some 68, op := Op.fieldAddr 61 (Operand.tmp 4) 0, type := 0, pos := "law.go:211", after := #[], guard := none }) (v := ?_) rfl (by kernel_rfl) (by kernel_rfl) (by kernel_rfl) (fun _ _ _ h => h) (Or.inl ⟨by rfl, ?_⟩) (by assumption) ?_
                rotate_left
                · intro w hSw
                  try dsimp only at hSw
                  go_simp
                  try with_reducible rfl
                try simp only [Act.put, List.setIfInBounds_toArray, List.set_cons_zero, List.set_cons_succ]
                refine wpAnyH_take (i := 1) (oi := { dst := some 69, op := Op.load 9 (Operand.tmp 68), type := 9, pos := "law.go:211", after := #[{ on := 0, ground := Ground.data }], guard := none }) (v := ?_) rfl (by kernel_rfl) (by kernel_rfl) (by kernel_rfl) (fun _ _ _ h => h) (Or.inl ⟨by rfl, ?_⟩) (by assumption) ?_
                rotate_left
                · intro w hSw
                  try dsimp only at hSw
                  go_simp
                  try with_reducible rfl
                try simp only [Act.put, List.setIfInBounds_toArray, List.set_cons_zero, List.set_cons_succ]
                refine wpAnyH_take (i := 2) (oi := { dst := some 70, op := Op.fieldAddr 61 (Operand.tmp 5) 0, type := 0, pos := "law.go:211", after := #[], guard := none }) (v := ?_) rfl (by kernel_rfl) (by kernel_rfl) (by kernel_rfl) (fun _ _ _ h => h) (Or.inl ⟨by rfl, ?_⟩) (by assumption) ?_
                rotate_left
                · intro w hSw
                  try dsimp only at hSw
                  go_simp
                  try with_reducible rfl
                try simp only [Act.put, List.setIfInBounds_toArray, List.set_cons_zero, List.set_cons_succ]
                refine wpAnyH_take (i := 3) (oi := { dst := some 71, op := Op.load 9 (Operand.tmp 70), type := 9, pos := "law.go:211", after := #[{ on := 2, ground := Ground.data }], guard := none }) (v := ?_) rfl (by kernel_rfl) (by kernel_rfl) (by kernel_rfl) (fun _ _ _ h => h) (Or.inl ⟨by rfl, ?_⟩) (by assumption) ?_
                rotate_left
                · intro w hSw
                  try dsimp only at hSw
                  go_simp
                  try with_reducible rfl
                try simp only [Act.put, List.setIfInBounds_toArray, List.set_cons_zero, List.set_cons_succ]
                refine wpAnyH_take (i := 4) (oi := { dst := some 72, op := Op.binOp BinOp.neq 9 (Operand.tmp 69) (Operand.tmp 71) 9, type := 4, pos := "law.go:211", after := #[{ on := 1, ground := Ground.data }, { on := 3, ground := Ground.data }], guard := none }) (v := ?_) rfl (by kernel_rfl) (by kernel_rfl) (by kernel_rfl) (fun _ _ _ h => h) (Or.inl ⟨by rfl, ?_⟩) (by assumption) ?_
                rotate_left
                · intro w hSw
                  try dsimp only at hSw
                  go_simp
                  try with_reducible rfl
                try simp only [Act.put, List.setIfInBounds_toArray, List.set_cons_zero, List.set_cons_succ]
                refine wpAnyH_take (i := 5) (oi := { dst := some 73, op := Op.move (Operand.tmp 72), type := 4, pos := "law.go:211", after := #[{ on := 4, ground := Ground.data }], guard := none }) (v := ?_) rfl (by kernel_rfl) (by kernel_rfl) (by kernel_rfl) (fun _ _ _ h => h) (Or.inl ⟨by rfl, ?_⟩) (by assumption) ?_
                rotate_left
                · intro w hSw
                  try dsimp only at hSw
                  go_simp
                  try with_reducible rfl
                try simp only [Act.put, List.setIfInBounds_toArray, List.set_cons_zero, List.set_cons_succ]
                refine wpAnyH_take (i := 6) (oi := { dst := some 74, op := Op.move (Operand.tmp 7), type := 42, pos := "law.go:211", after := #[{ on := 5, ground := Ground.guard }], guard := some (5, false) }) (v := undef) rfl (by kernel_rfl) (by kernel_rfl) (by kernel_rfl) (fun _ _ _ h => h) (Or.inr ⟨by rfl, rfl⟩) (by assumption) ?_
                try simp only [Act.put, List.setIfInBounds_toArray, List.set_cons_zero, List.set_cons_succ]
                refine wpAnyH_take (i := 7) (oi := { dst := some 75, op := Op.move (Operand.tmp 9), type := 42, pos := "law.go:211", after := #[{ on := 5, ground := Ground.guard }], guard := some (5, false) }) (v := undef) rfl (by kernel_rfl) (by kernel_rfl) (by kernel_rfl) (fun _ _ _ h => h) (Or.inr ⟨by rfl, rfl⟩) (by assumption) ?_
                try simp only [Act.put, List.setIfInBounds_toArray, List.set_cons_zero, List.set_cons_succ]
                refine wpAnyH_ready (rs := [8]) (by kernel_rfl) (by simp) ?_
                refine AllReadyH.cons (o := { dst := some 76, op := Op.call { callee := Callee.value (Operand.func 40), args := #[Operand.tmp 74, Operand.tmp 75], argTypes := #[42, 42] }, type := 4, pos := "law.go:211", after := #[{ on := 6, ground := Ground.data }, { on := 7, ground := Ground.data }, { on := 5, ground := Ground.chain }, { on := 5, ground := Ground.guard }], guard := some (5, false) }) rfl (fun K hK => ?_) ?_
                rotate_left
                · exact AllReadyH.nil
                refine ite_no (by rfl) ?_
                refine hK.out _ _ hHeld (fun hHeld => ?_)
                clear hK K
                try simp only [Act.put, List.setIfInBounds_toArray, List.set_cons_zero, List.set_cons_succ]
                refine wpAnyH_take (i := 9) (oi := { dst := some 77, op := Op.pick (Operand.tmp 73) (Operand.const (Value.bool true)) (Operand.tmp 76), type := 4, pos := "law.go:211", after := #[{ on := 5, ground := Ground.data }, { on := 8, ground := Ground.data }], guard := none }) (v := ?_) rfl (by kernel_rfl) (by kernel_rfl) (by kernel_rfl) (fun _ _ _ h => h) (Or.inl ⟨by rfl, ?_⟩) (by assumption) ?_
                rotate_left
                · intro w hSw
                  try dsimp only at hSw
                  go_simp
                  try with_reducible rfl
                try simp only [Act.put, List.setIfInBounds_toArray, List.set_cons_zero, List.set_cons_succ]
                refine wpAnyH_take (i := 10) (oi := { dst := some 78, op := Op.move (Operand.tmp 77), type := 4, pos := "law.go:211", after := #[{ on := 9, ground := Ground.data }, { on := 8, ground := Ground.chain }], guard := none }) (v := ?_) rfl (by kernel_rfl) (by kernel_rfl) (by kernel_rfl) (fun _ _ _ h => h) (Or.inl ⟨by rfl, ?_⟩) (by assumption) ?_
                rotate_left
                · intro w hSw
                  try dsimp only at hSw
                  go_simp
                  try with_reducible rfl
                try simp only [Act.put, List.setIfInBounds_toArray, List.set_cons_zero, List.set_cons_succ]
                refine wpAnyH_take (i := 11) (oi := { dst := some 79, op := Op.move (Operand.tmp 9), type := 42, pos := "law.go:211", after := #[{ on := 10, ground := Ground.guard }], guard := some (10, true) }) (v := ?_) rfl (by kernel_rfl) (by kernel_rfl) (by kernel_rfl) (fun _ _ _ h => h) (Or.inl ⟨by rfl, ?_⟩) (by assumption) ?_
                rotate_left
                · intro w hSw
                  try dsimp only at hSw
                  go_simp
                  try with_reducible rfl
                try simp only [Act.put, List.setIfInBounds_toArray, List.set_cons_zero, List.set_cons_succ]
                refine wpAnyH_take (i := 12) (oi := { dst := some 80, op := Op.load 61 (Operand.tmp 5), type := 61, pos := "law.go:211", after := #[{ on := 10, ground := Ground.guard }], guard := some (10, true) }) (v := ?_) rfl (by kernel_rfl) (by kernel_rfl) (by kernel_rfl) (fun _ _ _ h => h) (Or.inl ⟨by rfl, ?_⟩) (by assumption) ?_
                rotate_left
                · intro w hSw
                  try dsimp only at hSw
                  go_simp
                  try with_reducible rfl
                try simp only [Act.put, List.setIfInBounds_toArray, List.set_cons_zero, List.set_cons_succ]
                refine wpAnyH_take (i := 15) (oi := { dst := some 83, op := Op.move (Operand.tmp 9), type := 42, pos := "law.go:211", after := #[{ on := 10, ground := Ground.guard }], guard := some (10, true) }) (v := ?_) rfl (by kernel_rfl) (by kernel_rfl) (by kernel_rfl) (fun _ _ _ h => h) (Or.inl ⟨by rfl, ?_⟩) (by assumption) ?_
                rotate_left
                · intro w hSw
                  try dsimp only at hSw
                  go_simp
                  try with_reducible rfl
                try simp only [Act.put, List.setIfInBounds_toArray, List.set_cons_zero, List.set_cons_succ]
                refine wpAnyH_ready (rs := [13]) (by kernel_rfl) (by simp) ?_
                refine AllReadyH.cons (o := { dst := some 81, op := Op.buildSlice 45 1 #[(0, Operand.tmp 80)], type := 45, pos := "law.go:211", after := #[{ on := 12, ground := Ground.data }, { on := 10, ground := Ground.guard }], guard := some (10, true) }) rfl (fun K hK => ?_) ?_
                rotate_left
                · exact AllReadyH.nil
                go_simp
                refine hK.out _ _ (K7.out _ (by repeat (first | with_reducible exact Below.refl _ _ | with_reducible refine blAlloc ?_ _ | with_reducible refine Below.drew ?_))) (fun hHeld => ?_)
                clear hK K
                try simp only [Act.put, List.setIfInBounds_toArray, List.set_cons_zero, List.set_cons_succ]
                refine wpAnyH_ready (rs := [14]) (by kernel_rfl) (by simp) ?_
                refine AllReadyH.cons (o := { dst := some 82, op := Op.call { callee := Callee.value (Operand.func 41), args := #[Operand.tmp 79, Operand.tmp 81], argTypes := #[42, 45] }, type := 42, pos := "law.go:211", after := #[{ on := 11, ground := Ground.data }, { on := 13, ground := Ground.data }, { on := 10, ground := Ground.chain }, { on := 10, ground := Ground.guard }], guard := some (10, true) }) rfl (fun K hK => ?_) ?_
                rotate_left
                · exact AllReadyH.nil
                go_simp
                go_at_call 41
                refine (ap_any p6 _ (applyP d [(kb, nb, true)]) [(kb, nb, true)] _ HDB.out (by omega) (by simp) HKSB.out (HONE.out.later (by repeat (first | with_reducible exact Below.refl _ _ | with_reducible refine blAlloc ?_ _ | with_reducible refine Below.drew ?_))) (list_G eW w2.drew _ [(kb, nb, true)] _ 1 _ rfl rfl rfl)).mono ?_
                rintro e y1 ⟨x14, rfl, h1, h5⟩
                have HX : Hid (Below w2.heap.size w2 y1) := Lib.hid (blThen (by repeat (first | with_reducible exact Below.refl _ _ | with_reducible refine blAlloc ?_ _ | with_reducible refine Below.drew ?_)) h5)
                have HB_y1 : Hid (Below w2.heap.size w2 y1) := Lib.hid (HX.out)
                have HONE := Lib.hid (HONE.out.later HX.out)
                have HXX := Lib.hid (HXX.out.later HX.out)
                have Ad := Lib.hid (Ad.out.later HX.out)
                have HX14 := Lib.hid h1
                clear h5 HX h1
                refine hK.out _ _ (K7.out _ HB_y1.out) (fun hHeld => ?_)
                clear hK K
                try simp only [Act.put, List.setIfInBounds_toArray, List.set_cons_zero, List.set_cons_succ]
                refine wpAnyH_ready (rs := [16]) (by kernel_rfl) (by simp) ?_
                refine AllReadyH.cons (o := { dst := some 84, op := Op.call { callee := Callee.value (Operand.func 40), args := #[Operand.tmp 82, Operand.tmp 83], argTypes := #[42, 42] }, type := 4, pos := "law.go:211", after := #[{ on := 14, ground := Ground.data }, { on := 15, ground := Ground.data }, { on := 14, ground := Ground.chain }, { on := 10, ground := Ground.guard }], guard := some (10, true) }) rfl (fun K hK => ?_) ?_
                rotate_left
                · exact AllReadyH.nil
                go_simp
                have h9 := prsame_any x14 p6 (applyP (applyP d [(kb, nb, true)]) [(kb, nb, true)]) (applyP d [(kb, nb, true)]) y1 HNT.out HNO.out HX14.out HONE.out
                rw [decide_eq_true HTWICE.out] at h9
                go_at_call 40
                refine (h9).mono ?_
                rintro e y2 ⟨rfl, h5⟩
                have HX : Hid (Below y1.heap.size y1 y2) := Lib.hid (blThen (by repeat (first | with_reducible exact Below.refl _ _ | with_reducible refine blAlloc ?_ _ | with_reducible refine Below.drew ?_)) h5)
                have HB_y2 : Hid (Below w2.heap.size w2 y2) := Lib.hid (blThen HB_y1.out HX.out)
                have HONE := Lib.hid (HONE.out.later HX.out)
                have HXX := Lib.hid (HXX.out.later HX.out)
                have Ad := Lib.hid (Ad.out.later HX.out)
                have HX14 := Lib.hid (HX14.out.later HX.out)
                clear h5 HX h9
                refine hK.out _ _ (K7.out _ HB_y2.out) (fun hHeld => ?_)
                clear hK K
                try simp only [Act.put, List.setIfInBounds_toArray, List.set_cons_zero, List.set_cons_succ]
                refine wpAnyH_take (i := 17) (oi := { dst := some 85, op := Op.pick (Operand.tmp 78) (Operand.tmp 84) (Operand.const (Value.bool false)), type := 4, pos := "law.go:211", after := #[{ on := 10, ground := Ground.data }, { on := 16, ground := Ground.data }], guard := none }) (v := ?_) rfl (by kernel_rfl) (by kernel_rfl) (by kernel_rfl) (fun _ _ _ h => h) (Or.inl ⟨by rfl, ?_⟩) (by assumption) ?_
                rotate_left
                · intro w hSw
                  try dsimp only at hSw
                  go_simp
                  try with_reducible rfl
                try simp only [Act.put, List.setIfInBounds_toArray, List.set_cons_zero, List.set_cons_succ]
                refine wpAnyH_take (i := 18) (oi := { dst := some 86, op := Op.move (Operand.tmp 85), type := 4, pos := "law.go:211", after := #[{ on := 17, ground := Ground.data }, { on := 16, ground := Ground.chain }], guard := none }) (v := ?_) rfl (by kernel_rfl) (by kernel_rfl) (by kernel_rfl) (fun _ _ _ h => h) (Or.inl ⟨by rfl, ?_⟩) (by assumption) ?_
                rotate_left
                · intro w hSw
                  try dsimp only at hSw
                  go_simp
                  try with_reducible rfl
                try simp only [Act.put, List.setIfInBounds_toArray, List.set_cons_zero, List.set_cons_succ]
                refine wpAnyH_take (i := 19) (oi := { dst := some 87, op := Op.move (Operand.tmp 9), type := 42, pos := "law.go:211", after := #[{ on := 18, ground := Ground.guard }], guard := some (18, true) }) (v := ?_) rfl (by kernel_rfl) (by kernel_rfl) (by kernel_rfl) (fun _ _ _ h => h) (Or.inl ⟨by rfl, ?_⟩) (by assumption) ?_
                rotate_left
                · intro w hSw
                  try dsimp only at hSw
                  go_simp
                  try with_reducible rfl
                try simp only [Act.put, List.setIfInBounds_toArray, List.set_cons_zero, List.set_cons_succ]
                refine wpAnyH_take (i := 20) (oi := { dst := some 88, op := Op.fieldAddr 61 (Operand.tmp 5) 0, type := 0, pos := "law.go:211", after := #[{ on := 18, ground := Ground.guard }], guard := some (18, true) }) (v := ?_) rfl (by kernel_rfl) (by kernel_rfl) (by kernel_rfl) (fun _ _ _ h => h) (Or.inl ⟨by rfl, ?_⟩) (by assumption) ?_
                rotate_left
                · intro w hSw
                  try dsimp only at hSw
                  go_simp
                  try with_reducible rfl
                try simp only [Act.put, List.setIfInBounds_toArray, List.set_cons_zero, List.set_cons_succ]
                refine wpAnyH_take (i := 21) (oi := { dst := some 89, op := Op.load 9 (Operand.tmp 88), type := 9, pos := "law.go:211", after := #[{ on := 20, ground := Ground.data }, { on := 18, ground := Ground.guard }], guard := some (18, true) }) (v := ?_) rfl (by kernel_rfl) (by kernel_rfl) (by kernel_rfl) (fun _ _ _ h => h) (Or.inl ⟨by rfl, ?_⟩) (by assumption) ?_
                rotate_left
                · intro w hSw
                  try dsimp only at hSw
                  go_simp
                  try with_reducible rfl
                try simp only [Act.put, List.setIfInBounds_toArray, List.set_cons_zero, List.set_cons_succ]
                refine wpAnyH_take (i := 22) (oi := { dst := some 90, op := Op.fieldAddr 61 (Operand.tmp 5) 0, type := 0, pos := "law.go:211", after := #[{ on := 18, ground := Ground.guard }], guard := some (18, true) }) (v := ?_) rfl (by kernel_rfl) (by kernel_rfl) (by kernel_rfl) (fun _ _ _ h => h) (Or.inl ⟨by rfl, ?_⟩) (by assumption) ?_
                rotate_left
                · intro w hSw
                  try dsimp only at hSw
                  go_simp
                  try with_reducible rfl
                try simp only [Act.put, List.setIfInBounds_toArray, List.set_cons_zero, List.set_cons_succ]
                refine wpAnyH_take (i := 23) (oi := { dst := some 91, op := Op.load 9 (Operand.tmp 90), type := 9, pos := "law.go:211", after := #[{ on := 22, ground := Ground.data }, { on := 18, ground := Ground.guard }], guard := some (18, true) }) (v := ?_) rfl (by kernel_rfl) (by kernel_rfl) (by kernel_rfl) (fun _ _ _ h => h) (Or.inl ⟨by rfl, ?_⟩) (by assumption) ?_
                rotate_left
                · intro w hSw
                  try dsimp only at hSw
                  go_simp
                  try with_reducible rfl
                try simp only [Act.put, List.setIfInBounds_toArray, List.set_cons_zero, List.set_cons_succ]
                refine wpAnyH_take (i := 24) (oi := { dst := some 92, op := Op.binOp BinOp.add 9 (Operand.tmp 91) (Operand.const (Value.string { data := #[0] })) 9, type := 9, pos := "law.go:211", after := #[{ on := 23, ground := Ground.data }, { on := 18, ground := Ground.guard }], guard := some (18, true) }) (v := ?_) rfl (by kernel_rfl) (by kernel_rfl) (by kernel_rfl) (fun _ _ _ h => h) (Or.inl ⟨by rfl, ?_⟩) (by assumption) ?_
                rotate_left
                · intro w hSw
                  try dsimp only at hSw
                  go_simp
                  try with_reducible rfl
                try simp only [Act.put, List.setIfInBounds_toArray, List.set_cons_zero, List.set_cons_succ]
                refine wpAnyH_take (i := 25) (oi := { dst := some 93, op := Op.build 75 #[(0, Operand.tmp 89), (1, Operand.tmp 92)], type := 75, pos := "law.go:211", after := #[{ on := 21, ground := Ground.data }, { on := 24, ground := Ground.data }, { on := 18, ground := Ground.guard }], guard := some (18, true) }) (v := ?_) rfl (by kernel_rfl) (by kernel_rfl) (by kernel_rfl) (fun _ _ _ h => h) (Or.inl ⟨by rfl, ?_⟩) (by assumption) ?_
                rotate_left
                · intro w hSw
                  try dsimp only at hSw
                  go_simp
                  try with_reducible rfl
                try simp only [Act.put, List.setIfInBounds_toArray, List.set_cons_zero, List.set_cons_succ]
                refine wpAnyH_take (i := 30) (oi := { dst := some 98, op := Op.fieldAddr 61 (Operand.tmp 5) 2, type := 0, pos := "law.go:211", after := #[{ on := 18, ground := Ground.guard }], guard := some (18, true) }) (v := ?_) rfl (by kernel_rfl) (by kernel_rfl) (by kernel_rfl) (fun _ _ _ h => h) (Or.inl ⟨by rfl, ?_⟩) (by assumption) ?_
                rotate_left
                · intro w hSw
                  try dsimp only at hSw
                  go_simp
                  try with_reducible rfl
                try simp only [Act.put, List.setIfInBounds_toArray, List.set_cons_zero, List.set_cons_succ]
                refine wpAnyH_take (i := 31) (oi := { dst := some 99, op := Op.load 4 (Operand.tmp 98), type := 4, pos := "law.go:211", after := #[{ on := 30, ground := Ground.data }, { on := 18, ground := Ground.guard }], guard := some (18, true) }) (v := ?_) rfl (by kernel_rfl) (by kernel_rfl) (by kernel_rfl) (fun _ _ _ h => h) (Or.inl ⟨by rfl, ?_⟩) (by assumption) ?_
                rotate_left
                · intro w hSw
                  try dsimp only at hSw
                  go_simp
                  try with_reducible rfl
                try simp only [Act.put, List.setIfInBounds_toArray, List.set_cons_zero, List.set_cons_succ]
                refine wpAnyH_ready (rs := [26]) (by kernel_rfl) (by simp) ?_
                refine AllReadyH.cons (o := { dst := some 94, op := Op.buildSlice 40 1 #[(0, Operand.tmp 93)], type := 40, pos := "law.go:211", after := #[{ on := 25, ground := Ground.data }, { on := 18, ground := Ground.guard }], guard := some (18, true) }) rfl (fun K hK => ?_) ?_
                rotate_left
                · exact AllReadyH.nil
                go_simp
                refine hK.out _ _ (K7.out _ (by repeat (first | with_reducible exact HB_y2.out | with_reducible exact Below.refl _ _ | with_reducible refine blAlloc ?_ _ | with_reducible refine Below.drew ?_))) (fun hHeld => ?_)
                clear hK K
                try simp only [Act.put, List.setIfInBounds_toArray, List.set_cons_zero, List.set_cons_succ]
                refine wpAnyH_ready (rs := [27]) (by kernel_rfl) (by simp) ?_
                refine AllReadyH.cons (o := { dst := some 95, op := Op.call { callee := Callee.value (Operand.func 43), args := #[Operand.tmp 87, Operand.tmp 94], argTypes := #[42, 40] }, type := 42, pos := "law.go:211", after := #[{ on := 19, ground := Ground.data }, { on := 26, ground := Ground.data }, { on := 18, ground := Ground.chain }, { on := 18, ground := Ground.guard }], guard := some (18, true) }) rfl (fun K hK => ?_) ?_
                rotate_left
                · exact AllReadyH.nil
                go_simp
                go_at_call 43
                refine (pk_any p6 _ (applyP d [(kb, nb, true)]) [ptS kb] _ HDB.out (by omega) (by simp) HSET.out (HONE.out.later (by repeat (first | with_reducible exact Below.refl _ _ | with_reducible refine blAlloc ?_ _ | with_reducible refine Below.drew ?_))) (row1sp y2 (ptS kb) _ rfl)).mono ?_
                rintro e y3 ⟨x27, rfl, h1, h5⟩
                obtain ⟨ax, cx, rfl⟩ := h1.form
                rw [HPK0.out]
                have HX : Hid (Below y2.heap.size y2 y3) := Lib.hid (blThen (by repeat (first | with_reducible exact Below.refl _ _ | with_reducible refine blAlloc ?_ _ | with_reducible refine Below.drew ?_)) h5)
                have HB_y3 : Hid (Below w2.heap.size w2 y3) := Lib.hid (blThen HB_y2.out HX.out)
                have HONE := Lib.hid (HONE.out.later HX.out)
                have HXX := Lib.hid (HXX.out.later HX.out)
                have Ad := Lib.hid (Ad.out.later HX.out)
                have HX14 := Lib.hid (HX14.out.later HX.out)
                clear h5 HX h1
                refine hK.out _ _ (K7.out _ HB_y3.out) (fun hHeld => ?_)
                clear hK K
                try simp only [Act.put, List.setIfInBounds_toArray, List.set_cons_zero, List.set_cons_succ]
                refine wpAnyH_take (i := 28) (oi := { dst := some 96, op := Op.call { callee := Callee.builtin Builtin.len, args := #[Operand.tmp 95], argTypes := #[42] }, type := 3, pos := "law.go:211", after := #[{ on := 27, ground := Ground.data }, { on := 18, ground := Ground.guard }], guard := some (18, true) }) (v := ?_) rfl (by kernel_rfl) (by kernel_rfl) (by kernel_rfl) (fun _ _ _ h => h) (Or.inl ⟨by rfl, ?_⟩) (by assumption) ?_
                rotate_left
                · intro w hSw
                  try dsimp only at hSw
                  go_simp
                  try with_reducible rfl
                try simp only [Act.put, List.setIfInBounds_toArray, List.set_cons_zero, List.set_cons_succ]
                refine wpAnyH_take (i := 29) (oi := { dst := some 97, op := Op.binOp BinOp.eql 3 (Operand.tmp 96) (Operand.const (Value.int IntKind.i64 0)) 3, type := 4, pos := "law.go:211", after := #[{ on := 28, ground := Ground.data }, { on := 18, ground := Ground.guard }], guard := some (18, true) }) (v := ?_) rfl (by kernel_rfl) (by kernel_rfl) (by kernel_rfl) (fun _ _ _ h => h) (Or.inl ⟨by rfl, ?_⟩) (by assumption) ?_
                rotate_left
                · intro w hSw
                  try dsimp only at hSw
                  go_simp
                  try with_reducible rfl
                try simp only [Act.put, List.setIfInBounds_toArray, List.set_cons_zero, List.set_cons_succ]
                refine wpAnyH_take (i := 32) (oi := { dst := some 100, op := Op.binOp BinOp.eql 4 (Operand.tmp 97) (Operand.tmp 99) 4, type := 4, pos := "law.go:211", after := #[{ on := 29, ground := Ground.data }, { on := 31, ground := Ground.data }, { on := 18, ground := Ground.guard }], guard := some (18, true) }) (v := ?_) rfl (by kernel_rfl) (by kernel_rfl) (by kernel_rfl) (fun _ _ _ h => h) (Or.inl ⟨by rfl, ?_⟩) (by assumption) ?_
                rotate_left
                · intro w hSw
                  try dsimp only at hSw
                  go_simp
                  try with_reducible rfl
                try simp only [Act.put, List.setIfInBounds_toArray, List.set_cons_zero, List.set_cons_succ]
                refine wpAnyH_take (i := 33) (oi := { dst := some 101, op := Op.pick (Operand.tmp 86) (Operand.tmp 100) (Operand.const (Value.bool false)), type := 4, pos := "law.go:211", after := #[{ on := 18, ground := Ground.data }, { on := 32, ground := Ground.data }], guard := none }) (v := ?_) rfl (by kernel_rfl) (by kernel_rfl) (by kernel_rfl) (fun _ _ _ h => h) (Or.inl ⟨by rfl, ?_⟩) (by assumption) ?_
                rotate_left
                · intro w hSw
                  try dsimp only at hSw
                  go_simp
                  try with_reducible rfl
                try simp only [Act.put, List.setIfInBounds_toArray, List.set_cons_zero, List.set_cons_succ]
                refine wpAnyH_take (i := 34) (oi := { dst := some 102, op := Op.move (Operand.tmp 101), type := 4, pos := "law.go:211", after := #[{ on := 33, ground := Ground.data }, { on := 27, ground := Ground.chain }], guard := none }) (v := ?_) rfl (by kernel_rfl) (by kernel_rfl) (by kernel_rfl) (fun _ _ _ h => h) (Or.inl ⟨by rfl, ?_⟩) (by assumption) ?_
                rotate_left
                · intro w hSw
                  try dsimp only at hSw
                  go_simp
                  try with_reducible rfl
                try simp only [Act.put, List.setIfInBounds_toArray, List.set_cons_zero, List.set_cons_succ]
                refine wpAnyH_ready (rs := [35]) (by kernel_rfl) (by simp) ?_
                refine AllReadyH.cons (o := { dst := some 103, op := Op.call { callee := Callee.value (Operand.func 14), args := #[], argTypes := #[] }, type := 4, pos := "law.go:211", after := #[{ on := 34, ground := Ground.chain }, { on := 34, ground := Ground.guard }], guard := some (34, true) }) rfl (fun K hK => ?_) ?_
                rotate_left
                · exact AllReadyH.nil
                go_simp
                go_at_call 14
                refine (live8_any y3).mono ?_
                rintro e y4 ⟨rfl, h5⟩
                have HX : Hid (Below y3.heap.size y3 y4) := Lib.hid (blThen (by repeat (first | with_reducible exact Below.refl _ _ | with_reducible refine blAlloc ?_ _ | with_reducible refine Below.drew ?_)) h5)
                have HB_y4 : Hid (Below w2.heap.size w2 y4) := Lib.hid (blThen HB_y3.out HX.out)
                have HONE := Lib.hid (HONE.out.later HX.out)
                have HXX := Lib.hid (HXX.out.later HX.out)
                have Ad := Lib.hid (Ad.out.later HX.out)
                have HX14 := Lib.hid (HX14.out.later HX.out)
                clear h5 HX
                refine hK.out _ _ (K7.out _ HB_y4.out) (fun hHeld => ?_)
                clear hK K
                try simp only [Act.put, List.setIfInBounds_toArray, List.set_cons_zero, List.set_cons_succ]
                refine wpAnyH_take (i := 36) (oi := { dst := some 104, op := Op.pick (Operand.tmp 102) (Operand.tmp 103) (Operand.const (Value.bool false)), type := 4, pos := "law.go:211", after := #[{ on := 34, ground := Ground.data }, { on := 35, ground := Ground.data }], guard := none }) (v := ?_) rfl (by kernel_rfl) (by kernel_rfl) (by kernel_rfl) (fun _ _ _ h => h) (Or.inl ⟨by rfl, ?_⟩) (by assumption) ?_
                rotate_left
                · intro w hSw
                  try dsimp only at hSw
                  go_simp
                  try with_reducible rfl
                try simp only [Act.put, List.setIfInBounds_toArray, List.set_cons_zero, List.set_cons_succ]
                refine wpAnyH_take (i := 37) (oi := { dst := some 6, op := Op.assign (Operand.tmp 104), type := 4, pos := "law.go:211", after := #[{ on := 36, ground := Ground.data }, { on := 35, ground := Ground.chain }, { on := 0, ground := Ground.phase }, { on := 1, ground := Ground.phase }, { on := 2, ground := Ground.phase }, { on := 3, ground := Ground.phase }, { on := 4, ground := Ground.phase }, { on := 5, ground := Ground.phase }, { on := 6, ground := Ground.phase }, { on := 7, ground := Ground.phase }, { on := 8, ground := Ground.phase }, { on := 9, ground := Ground.phase }, { on := 10, ground := Ground.phase }, { on := 11, ground := Ground.phase }, { on := 12, ground := Ground.phase }, { on := 13, ground := Ground.phase }, { on := 14, ground := Ground.phase }, { on := 15, ground := Ground.phase }, { on := 16, ground := Ground.phase }, { on := 17, ground := Ground.phase }, { on := 18, ground := Ground.phase }, { on := 19, ground := Ground.phase }, { on := 20, ground := Ground.phase }, { on := 21, ground := Ground.phase }, { on := 22, ground := Ground.phase }, { on := 23, ground := Ground.phase }, { on := 24, ground := Ground.phase }, { on := 25, ground := Ground.phase }, { on := 26, ground := Ground.phase }, { on := 27, ground := Ground.phase }, { on := 28, ground := Ground.phase }, { on := 29, ground := Ground.phase }, { on := 30, ground := Ground.phase }, { on := 31, ground := Ground.phase }, { on := 32, ground := Ground.phase }, { on := 33, ground := Ground.phase }, { on := 34, ground := Ground.phase }, { on := 35, ground := Ground.phase }, { on := 36, ground := Ground.phase }], guard := none }) (v := ?_) rfl (by kernel_rfl) (by kernel_rfl) (by kernel_rfl) (fun _ _ _ h => h) (Or.inl ⟨by rfl, ?_⟩) (by assumption) ?_
                rotate_left
                · intro w hSw
                  try dsimp only at hSw
                  go_simp
                  try with_reducible rfl
                try simp only [Act.put, List.setIfInBounds_toArray, List.set_cons_zero, List.set_cons_succ]
                refine wpAnyH_done (by kernel_rfl) ?_ _
                go_wp2
                go_ret
                exact ⟨rfl, blThen HB0.out (blThen HB_w2.out HB_y4.out)⟩

end SP
end Go.Proofs.YtfdkkgjkhamoeaaGreat
