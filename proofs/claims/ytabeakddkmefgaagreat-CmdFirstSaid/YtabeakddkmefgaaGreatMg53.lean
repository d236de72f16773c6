/- CmdFirst. Conditions: none. -/
import Derived.Deep.DeepCutAuto
import Derived.WalkSpells
import Derived.SizedLaws
import Derived.Test.YtabeakddkmefgaaGreatMg52
import Derived.Test.YtabeakddkmefgaaGreatMg48
import Derived.Test.YtabeakddkmefgaaGreatMg49
import Derived.Test.YtabeakddkmefgaaGreatMg13
set_option linter.unusedVariables false
set_option linter.unusedSimpArgs false
namespace Go.Proofs.YtabeakddkmefgaaGreat
open S3 SN SP
namespace SC
open Go.ChangeShapes Go.WideShapes Go.ChangeAt Go.RowKit Go.Joins Go.Deep
theorem alloc_row9 {w : World} {k : Nat} {o : Obj} (h : w.heap[k]? = some o) (hlt : k < w.heap.size) (ob : Obj) : (w.alloc ob).heap[k]? = some o := ((blAlloc (Below.refl w.heap.size w) ob).block k hlt).trans h
set_option maxRecDepth 100000 in
set_option maxHeartbeats 16000000 in
theorem live9_any (W : World) : Calls Tryz.prog 10 #[] W fun e w' => e = .returned (.bool true) ∧ Below W.heap.size W w' := by
  have HNEW : Hid (∀ Y : World, Calls Tryz.prog 17 #[.agg #[.int .i64 3, .int .i64 1]] Y fun e w' => e = .returned (.agg #[.int .i64 3, .int .i64 1, .slice none 0 0, .int .i64 0, .int .i64 0, .int .i64 0, .int .i64 0, .int .i64 0, .bool false, .slice none 0 0, .int .i64 0, .int .i64 0, .bool false, .int .i64 0, .int .i64 0, .bool false, .int .i64 0, .int .i64 0, .slice none 0 0, .bool false, .slice none 0 0, .slice none 0 0]) ∧ Below Y.heap.size Y w') := Lib.hid (fun Y => by exact new9_any (3, 1) Y)
  have HPRO : Hid (∀ Y : World, Calls Tryz.prog 34 #[.agg #[.int .i64 3, .int .i64 1, .slice none 0 0, .int .i64 0, .int .i64 0, .int .i64 0, .int .i64 0, .int .i64 0, .bool false, .slice none 0 0, .int .i64 0, .int .i64 0, .bool false, .int .i64 0, .int .i64 0, .bool false, .int .i64 0, .int .i64 0, .slice none 0 0, .bool false, .slice none 0 0, .slice none 0 0], .agg #[.int .i64 5, .int .i64 1]] Y fun e w' => e = .returned (.tuple #[.agg #[.int .i64 3, .int .i64 1, .slice none 0 0, .int .i64 0, .int .i64 5, .int .i64 1, .int .i64 0, .int .i64 0, .bool false, .slice none 0 0, .int .i64 0, .int .i64 0, .bool false, .int .i64 0, .int .i64 0, .bool false, .int .i64 0, .int .i64 0, .slice none 0 0, .bool false, .slice none 0 0, .slice none 0 0], .bool true]) ∧ Below Y.heap.size Y w') := Lib.hid (fun Y => by have h := promise_any (newC (3, 1)) nilL (5, 1) Y (at_nil9 Y _ rfl rfl rfl rfl rfl); rw [live9_pro, live9_proB] at h; exact h)
  have HNO : Hid (∀ Y : World, Calls Tryz.prog 36 #[.agg #[.int .i64 3, .int .i64 1, .slice none 0 0, .int .i64 0, .int .i64 5, .int .i64 1, .int .i64 0, .int .i64 0, .bool false, .slice none 0 0, .int .i64 0, .int .i64 0, .bool false, .int .i64 0, .int .i64 0, .bool false, .int .i64 0, .int .i64 0, .slice none 0 0, .bool false, .slice none 0 0, .slice none 0 0], .agg #[.int .i64 3, .int .i64 1], .agg #[.bool false, .int .i64 3, .int .i64 1, .slice none 0 0]] Y fun e w' => e = .returned (.tuple #[.agg #[.int .i64 3, .int .i64 1, .slice none 0 0, .int .i64 0, .int .i64 5, .int .i64 1, .int .i64 0, .int .i64 0, .bool false, .slice none 0 0, .int .i64 0, .int .i64 0, .bool false, .int .i64 0, .int .i64 0, .bool false, .int .i64 0, .int .i64 0, .slice none 0 0, .bool false, .slice none 0 0, .slice none 0 0], .bool false]) ∧ Below Y.heap.size Y w') := Lib.hid (fun Y => by have h := accept_any c1L nilL (3, 1) vL (.slice none 0 0) Y (at_nil9 Y _ rfl rfl rfl rfl rfl) (dl_nil9 Y); rw [live9_no, live9_noB] at h; exact h)
  have HACC : Hid (∀ Y : World, Calls Tryz.prog 36 #[.agg #[.int .i64 3, .int .i64 1, .slice none 0 0, .int .i64 0, .int .i64 5, .int .i64 1, .int .i64 0, .int .i64 0, .bool false, .slice none 0 0, .int .i64 0, .int .i64 0, .bool false, .int .i64 0, .int .i64 0, .bool false, .int .i64 0, .int .i64 0, .slice none 0 0, .bool false, .slice none 0 0, .slice none 0 0], .agg #[.int .i64 5, .int .i64 1], .agg #[.bool false, .int .i64 3, .int .i64 1, .slice none 0 0]] Y fun e w' => e = .returned (.tuple #[.agg #[.int .i64 3, .int .i64 1, .slice none 0 0, .int .i64 0, .int .i64 5, .int .i64 1, .int .i64 0, .int .i64 0, .bool false, .slice none 0 0, .int .i64 3, .int .i64 1, .bool true, .int .i64 5, .int .i64 1, .bool false, .int .i64 3, .int .i64 1, .slice none 0 0, .bool false, .slice none 0 0, .slice none 0 0], .bool true]) ∧ Below Y.heap.size Y w') := Lib.hid (fun Y => by have h := accept_any c1L nilL (5, 1) vL (.slice none 0 0) Y (at_nil9 Y _ rfl rfl rfl rfl rfl) (dl_nil9 Y); rw [live9_acc, live9_accB] at h; exact h)
  have HDEC : Hid (∀ (Y : World) (k : Nat), SlG eO Y (.slice (some ⟨k, 0, none⟩) 1 1) [opL] → Calls Tryz.prog 42 #[.agg #[.int .i64 3, .int .i64 1, .slice none 0 0, .int .i64 0, .int .i64 5, .int .i64 1, .int .i64 0, .int .i64 0, .bool false, .slice none 0 0, .int .i64 3, .int .i64 1, .bool true, .int .i64 5, .int .i64 1, .bool false, .int .i64 3, .int .i64 1, .slice none 0 0, .bool false, .slice none 0 0, .slice none 0 0], .slice (some ⟨k, 0, none⟩) 1 1, .agg #[.bool false, .int .i64 3, .int .i64 1, .slice none 0 0]] Y fun e w' => e = .returned (.agg #[.int .i64 3, .int .i64 1, .slice (some ⟨k, 0, none⟩) 1 1, .int .i64 2, .int .i64 5, .int .i64 1, .int .i64 0, .int .i64 0, .bool false, .slice none 0 0, .int .i64 3, .int .i64 1, .bool true, .int .i64 5, .int .i64 1, .bool false, .int .i64 3, .int .i64 1, .slice none 0 0, .bool false, .slice none 0 0, .slice none 0 0]) ∧ Below Y.heap.size Y w') := Lib.hid (fun Y k hs => by have h := decide_en d1L nilL [opL] _ vL (.slice none 0 0) Y (at_nil9 Y _ rfl rfl rfl rfl rfl) hs (dl_nil9 Y) live9_decB rfl rfl; rw [live9_dec] at h; unfold dlL at h; rw [live9_decB, if_neg (by decide), if_pos ⟨rfl, rfl⟩] at h; exact h)
  have HEA : Hid (∀ (Y : World) (k : Nat), SlG eO Y (.slice (some ⟨k, 0, none⟩) 1 1) [opL] → CmAt Y e1L ⟨.slice (some ⟨k, 0, none⟩) 1 1, .slice none 0 0, .slice none 0 0, .slice none 0 0, .slice none 0 0⟩) := Lib.hid (fun Y k hs => ⟨hs, dl_nil9 Y, dl_nil9 Y, SlG.nil _, SlG.nil _⟩)
  have HAG : Hid (∀ (Y : World) (k : Nat), SlG eO Y (.slice (some ⟨k, 0, none⟩) 1 1) [opL] → Calls Tryz.prog 42 #[.agg #[.int .i64 3, .int .i64 1, .slice (some ⟨k, 0, none⟩) 1 1, .int .i64 2, .int .i64 5, .int .i64 1, .int .i64 0, .int .i64 0, .bool false, .slice none 0 0, .int .i64 3, .int .i64 1, .bool true, .int .i64 5, .int .i64 1, .bool false, .int .i64 3, .int .i64 1, .slice none 0 0, .bool false, .slice none 0 0, .slice none 0 0], .slice none 0 0, .agg #[.bool true, .int .i64 0, .int .i64 0, .slice none 0 0]] Y fun e w' => e = .returned (.agg #[.int .i64 3, .int .i64 1, .slice (some ⟨k, 0, none⟩) 1 1, .int .i64 2, .int .i64 5, .int .i64 1, .int .i64 0, .int .i64 0, .bool false, .slice none 0 0, .int .i64 3, .int .i64 1, .bool true, .int .i64 5, .int .i64 1, .bool false, .int .i64 3, .int .i64 1, .slice none 0 0, .bool false, .slice none 0 0, .slice none 0 0]) ∧ Below Y.heap.size Y w') := Lib.hid (fun Y k hs => by have h := decide_dec e1L ⟨.slice (some ⟨k, 0, none⟩) 1 1, .slice none 0 0, .slice none 0 0, .slice none 0 0, .slice none 0 0⟩ [] (.slice none 0 0) (true, z2, []) (.slice none 0 0) Y (HEA.out Y k hs) (SlG.nil _) (dl_nil9 Y) live9_againB; rw [live9_again] at h; unfold dlL at h; rw [live9_againB, if_pos rfl] at h; exact h)
  have HN := Lib.hid (fun i o (h : ([(.cells #[.int .i64 3, .int .i64 1] 23), (.cells #[.int .i64 5, .int .i64 1] 23), (.cells #[.bool false, .int .i64 3, .int .i64 1, .slice none 0 0] 27)] : List Obj)[i]? = some o) => nth_box W [(.cells #[.int .i64 3, .int .i64 1] 23), (.cells #[.int .i64 5, .int .i64 1] 23), (.cells #[.bool false, .int .i64 3, .int .i64 1, .slice none 0 0] 27)] i o h)
  have HSZ : Hid (W.heap.size + 3 = (((W.alloc (.cells #[.int .i64 3, .int .i64 1] 23)).alloc (.cells #[.int .i64 5, .int .i64 1] 23)).alloc (.cells #[.bool false, .int .i64 3, .int .i64 1, .slice none 0 0] 27)).heap.size) := Lib.hid (HN.out 0 _ rfl).2
  have Ki_0 : Hid ((((W.alloc (.cells #[.int .i64 3, .int .i64 1] 23)).alloc (.cells #[.int .i64 5, .int .i64 1] 23)).alloc (.cells #[.bool false, .int .i64 3, .int .i64 1, .slice none 0 0] 27)).heap[W.heap.size]? = some (.cells #[.int .i64 3, .int .i64 1] 23 (0, 0))) := Lib.hid (HN.out 0 _ rfl).1
  have Kb_0 : Hid ((((W.alloc (.cells #[.int .i64 3, .int .i64 1] 23)).alloc (.cells #[.int .i64 5, .int .i64 1] 23)).alloc (.cells #[.bool false, .int .i64 3, .int .i64 1, .slice none 0 0] 27)).heap[W.heap.size + 1]? = some (.cells #[.int .i64 5, .int .i64 1] 23 (0, 0))) := Lib.hid (HN.out 1 _ rfl).1
  have Kv_0 : Hid ((((W.alloc (.cells #[.int .i64 3, .int .i64 1] 23)).alloc (.cells #[.int .i64 5, .int .i64 1] 23)).alloc (.cells #[.bool false, .int .i64 3, .int .i64 1, .slice none 0 0] 27)).heap[W.heap.size + 2]? = some (.cells #[.bool false, .int .i64 3, .int .i64 1, .slice none 0 0] 27 (0, 0))) := Lib.hid (HN.out 2 _ rfl).1
  have HB_0 : Hid (Below W.heap.size W (((W.alloc (.cells #[.int .i64 3, .int .i64 1] 23)).alloc (.cells #[.int .i64 5, .int .i64 1] 23)).alloc (.cells #[.bool false, .int .i64 3, .int .i64 1, .slice none 0 0] 27))) := Lib.hid (blAlloc (blAlloc (blAlloc (Below.refl _ _) _) _) _)
  clear HN
  go_enter Tryz.func10, Tryz.ntmps10
  go_upto_region 4 with fail
  generalize (((W.alloc (.cells #[.int .i64 3, .int .i64 1] 23)).alloc (.cells #[.int .i64 5, .int .i64 1] 23)).alloc (.cells #[.bool false, .int .i64 3, .int .i64 1, .slice none 0 0] 27)) = w0 at *
  have HS3 : W.heap.size + 3 ≤ w0.heap.size := Nat.le_of_eq HSZ.out
  clear HSZ
  have KS : Hid (∀ Y : World, Below w0.heap.size w0 Y → Y.cell? ⟨W.heap.size, 0, none⟩ = some (.int .i64 3) ∧ Y.cell? ⟨W.heap.size, 1, none⟩ = some (.int .i64 1) ∧ Y.cell? ⟨W.heap.size + 1, 0, none⟩ = some (.int .i64 5) ∧ Y.cell? ⟨W.heap.size + 1, 1, none⟩ = some (.int .i64 1)) := Lib.hid (fun Y hY => by
    have a := (hY.block W.heap.size (by omega)).trans Ki_0.out
    have b := (hY.block (W.heap.size + 1) (by omega)).trans Kb_0.out
    exact ⟨cell_row a 0 _ rfl, cell_row a 1 _ rfl, cell_row b 0 _ rfl, cell_row b 1 _ rfl⟩)
  go_cut [4, 5] from 18 to 24 (fun s4 s5 wx => ∃ k, s4 = .pointer (some ⟨k, 0, none⟩) ∧ s5 = .bool true ∧ w0.heap.size ≤ k ∧ k < wx.heap.size ∧ wx.heap[k]? = some (.cells #[.int .i64 3, .int .i64 1, .slice none 0 0, .int .i64 0, .int .i64 5, .int .i64 1, .int .i64 0, .int .i64 0, .bool false, .slice none 0 0, .int .i64 0, .int .i64 0, .bool false, .int .i64 0, .int .i64 0, .bool false, .int .i64 0, .int .i64 0, .slice none 0 0, .bool false, .slice none 0 0, .slice none 0 0] 31 (0, 0)) ∧ Below w0.heap.size w0 wx)
  case first =>
    refine wp_region_held_drew (S := fun Y => Y.cell? ⟨W.heap.size, 0, none⟩ = some (.int .i64 3) ∧ Y.cell? ⟨W.heap.size, 1, none⟩ = some (.int .i64 1) ∧ Y.cell? ⟨W.heap.size + 1, 0, none⟩ = some (.int .i64 5) ∧ Y.cell? ⟨W.heap.size + 1, 1, none⟩ = some (.int .i64 1)) (by kernel_rfl) (KS.out _ (Below.refl w0.heap.size w0).drew) (fun hHeld => ?_)
    refine wpAnyH_take (i := 0) (oi := {dst:=some 19,op:=Op.load 23 (Operand.tmp 1),type:=23, pos := "law.go:26",after:=#[],guard:=none }) (v := ?_) rfl (by kernel_rfl) (by kernel_rfl) (by kernel_rfl) (fun _ _ _ h => h) (Or.inl ⟨by rfl, ?_⟩) (by assumption) ?_
    rotate_left
    · intro w hSw
      try dsimp only at hSw
      go_simp
      try with_reducible rfl
    try simp only [Act.put, List.setIfInBounds_toArray, List.set_cons_zero, List.set_cons_succ]
    refine wpAnyH_take (i := 2) (oi := {dst:=some 21,op:=Op.load 23 (Operand.tmp 2),type:=23, pos := "law.go:26",after:=#[],guard:=none }) (v := ?_) rfl (by kernel_rfl) (by kernel_rfl) (by kernel_rfl) (fun _ _ _ h => h) (Or.inl ⟨by rfl, ?_⟩) (by assumption) ?_
    rotate_left
    · intro w hSw
      try dsimp only at hSw
      go_simp
      try with_reducible rfl
    try simp only [Act.put, List.setIfInBounds_toArray, List.set_cons_zero, List.set_cons_succ]
    have HX : Hid (Below w0.heap.size w0 w0.drew) := Lib.hid (Below.refl _ _).drew
    have HB_z0 := HX
    clear HX
    generalize w0.drew = z0 at *
    refine wpAnyH_ready (rs := [1, 7]) (by kernel_rfl) (by simp) ?_
    refine (AllReadyH.cons (o := {dst:=some 20,op:=Op.call { callee := Callee.value (Operand.func 17), args := #[Operand.tmp 19], argTypes := #[23] },type:=31, pos := "law.go:26",after:=#[{on:=0,ground:=Ground.data}],guard:=none }) rfl (fun K hK => ?_) (AllReadyH.cons (o := {dst:=some 4,op:=Op.alloc 31,type:=0, pos := "law.go:26",after:=#[],guard:=none }) rfl (fun K hK => ?_) AllReadyH.nil))
    · go_simp
      go_at_call 17
      refine (HNEW.out z0).mono ?_
      rintro e zw1 ⟨rfl, h5⟩
      have HX : Hid (Below z0.heap.size z0 zw1) := Lib.hid h5
      have HB_zw1 : Hid (Below w0.heap.size w0 zw1) := Lib.hid (blThen HB_z0.out HX.out)
      refine hK.out _ _ (KS.out _ HB_zw1.out) (fun hHeld => ?_)
      clear hK K HX h5
      try simp only [Act.put, List.setIfInBounds_toArray, List.set_cons_zero, List.set_cons_succ]
      refine wpAnyH_ready (rs := [3, 7]) (by kernel_rfl) (by simp) ?_
      refine (AllReadyH.cons (o := {dst:=some 22,op:=Op.call { callee := Callee.value (Operand.func 34), args := #[Operand.tmp 20, Operand.tmp 21], argTypes := #[31, 23] },type:=54, pos := "law.go:26",after:=#[{on:=1,ground:=Ground.data}, {on:=2,ground:=Ground.data}, {on:=1,ground:=Ground.chain}],guard:=none }) rfl (fun K hK => ?_) (AllReadyH.cons (o := {dst:=some 4,op:=Op.alloc 31,type:=0, pos := "law.go:26",after:=#[],guard:=none }) rfl (fun K hK => ?_) AllReadyH.nil))
      · go_simp
        go_at_call 34
        refine (HPRO.out zw1).mono ?_
        rintro e zw2 ⟨rfl, h5⟩
        have HX : Hid (Below zw1.heap.size zw1 zw2) := Lib.hid h5
        have HB_zw2 : Hid (Below w0.heap.size w0 zw2) := Lib.hid (blThen HB_zw1.out HX.out)
        refine hK.out _ _ (KS.out _ HB_zw2.out) (fun hHeld => ?_)
        clear hK K HX h5
        try simp only [Act.put, List.setIfInBounds_toArray, List.set_cons_zero, List.set_cons_succ]
        refine wpAnyH_take (i := 4) (oi := {dst:=some 18,op:=Op.move (Operand.tmp 22),type:=54, pos := "law.go:26",after:=#[{on:=3,ground:=Ground.data}],guard:=none }) (v := ?_) rfl (by kernel_rfl) (by kernel_rfl) (by kernel_rfl) (fun _ _ _ h => h) (Or.inl ⟨by rfl, ?_⟩) (by assumption) ?_
        rotate_left
        · intro w hSw
          try dsimp only at hSw
          go_simp
          try with_reducible rfl
        try simp only [Act.put, List.setIfInBounds_toArray, List.set_cons_zero, List.set_cons_succ]
        refine wpAnyH_take (i := 5) (oi := {dst:=some 23,op:=Op.extract (Operand.tmp 18) 0,type:=31, pos := "law.go:26",after:=#[{on:=4,ground:=Ground.data}],guard:=none }) (v := ?_) rfl (by kernel_rfl) (by kernel_rfl) (by kernel_rfl) (fun _ _ _ h => h) (Or.inl ⟨by rfl, ?_⟩) (by assumption) ?_
        rotate_left
        · intro w hSw
          try dsimp only at hSw
          go_simp
          try with_reducible rfl
        try simp only [Act.put, List.setIfInBounds_toArray, List.set_cons_zero, List.set_cons_succ]
        refine wpAnyH_take (i := 6) (oi := {dst:=some 24,op:=Op.extract (Operand.tmp 18) 1,type:=4, pos := "law.go:26",after:=#[{on:=4,ground:=Ground.data}, {on:=8,ground:=Ground.gcOnly Departure.lateStores}],guard:=none }) (v := ?_) rfl (by kernel_rfl) (by kernel_rfl) (by kernel_rfl) (fun _ _ _ h => h) (Or.inl ⟨by rfl, ?_⟩) (by assumption) ?_
        rotate_left
        · intro w hSw
          try dsimp only at hSw
          go_simp
          try with_reducible rfl
        try simp only [Act.put, List.setIfInBounds_toArray, List.set_cons_zero, List.set_cons_succ]
        refine wpAnyH_ready (rs := [7]) (by kernel_rfl) (by simp) ?_
        refine (AllReadyH.cons (o := {dst:=some 4,op:=Op.alloc 31,type:=0, pos := "law.go:26",after:=#[],guard:=none }) rfl (fun K hK => ?_) AllReadyH.nil)
        · go_simp
          have HX : Hid (Below zw2.heap.size zw2 (zw2.alloc (.cells #[.int .i64 0, .int .i64 0, .slice none 0 0, .int .i64 0, .int .i64 0, .int .i64 0, .int .i64 0, .int .i64 0, .bool false, .slice none 0 0, .int .i64 0, .int .i64 0, .bool false, .int .i64 0, .int .i64 0, .bool false, .int .i64 0, .int .i64 0, .slice none 0 0, .bool false, .slice none 0 0, .slice none 0 0] 31))) := Lib.hid (blAlloc (Below.refl _ _) _)
          have HB_zw3 : Hid (Below w0.heap.size w0 (zw2.alloc (.cells #[.int .i64 0, .int .i64 0, .slice none 0 0, .int .i64 0, .int .i64 0, .int .i64 0, .int .i64 0, .int .i64 0, .bool false, .slice none 0 0, .int .i64 0, .int .i64 0, .bool false, .int .i64 0, .int .i64 0, .bool false, .int .i64 0, .int .i64 0, .slice none 0 0, .bool false, .slice none 0 0, .slice none 0 0] 31))) := Lib.hid (blThen HB_zw2.out HX.out)
          have KN : Hid ((zw2.alloc (.cells #[.int .i64 0, .int .i64 0, .slice none 0 0, .int .i64 0, .int .i64 0, .int .i64 0, .int .i64 0, .int .i64 0, .bool false, .slice none 0 0, .int .i64 0, .int .i64 0, .bool false, .int .i64 0, .int .i64 0, .bool false, .int .i64 0, .int .i64 0, .slice none 0 0, .bool false, .slice none 0 0, .slice none 0 0] 31)).heap[zw2.heap.size]? = some (.cells #[.int .i64 0, .int .i64 0, .slice none 0 0, .int .i64 0, .int .i64 0, .int .i64 0, .int .i64 0, .int .i64 0, .bool false, .slice none 0 0, .int .i64 0, .int .i64 0, .bool false, .int .i64 0, .int .i64 0, .bool false, .int .i64 0, .int .i64 0, .slice none 0 0, .bool false, .slice none 0 0, .slice none 0 0] 31 (0, 0))) := Lib.hid (new_blockC zw2 #[.int .i64 0, .int .i64 0, .slice none 0 0, .int .i64 0, .int .i64 0, .int .i64 0, .int .i64 0, .int .i64 0, .bool false, .slice none 0 0, .int .i64 0, .int .i64 0, .bool false, .int .i64 0, .int .i64 0, .bool false, .int .i64 0, .int .i64 0, .slice none 0 0, .bool false, .slice none 0 0, .slice none 0 0] 31)
          have LN : Hid (zw2.heap.size < (zw2.alloc (.cells #[.int .i64 0, .int .i64 0, .slice none 0 0, .int .i64 0, .int .i64 0, .int .i64 0, .int .i64 0, .int .i64 0, .bool false, .slice none 0 0, .int .i64 0, .int .i64 0, .bool false, .int .i64 0, .int .i64 0, .bool false, .int .i64 0, .int .i64 0, .slice none 0 0, .bool false, .slice none 0 0, .slice none 0 0] 31)).heap.size) := Lib.hid (by simp)
          have GN : Hid (w0.heap.size ≤ zw2.heap.size) := Lib.hid HB_zw2.out.size
          refine hK.out _ _ (KS.out _ HB_zw3.out) (fun hHeld => ?_)
          clear hK K HX
          try simp only [Act.put, List.setIfInBounds_toArray, List.set_cons_zero, List.set_cons_succ]
          generalize (zw2.alloc (.cells #[.int .i64 0, .int .i64 0, .slice none 0 0, .int .i64 0, .int .i64 0, .int .i64 0, .int .i64 0, .int .i64 0, .bool false, .slice none 0 0, .int .i64 0, .int .i64 0, .bool false, .int .i64 0, .int .i64 0, .bool false, .int .i64 0, .int .i64 0, .slice none 0 0, .bool false, .slice none 0 0, .slice none 0 0] 31)) = zw3 at *
          refine wpAnyH_ready (rs := [8]) (by kernel_rfl) (by simp) ?_
          refine AllReadyH.cons (o := {dst:=none,op:=Op.store 31 (Operand.tmp 4) (Operand.tmp 23),type:=0, pos := "law.go:26",after:=#[{on:=7,ground:=Ground.data}, {on:=5,ground:=Ground.data}, {on:=3,ground:=Ground.chain}, {on:=0,ground:=Ground.phase}, {on:=1,ground:=Ground.phase}, {on:=2,ground:=Ground.phase}, {on:=3,ground:=Ground.phase}, {on:=4,ground:=Ground.phase}, {on:=5,ground:=Ground.phase}, {on:=6,ground:=Ground.textOnly Departure.lateStores}, {on:=7,ground:=Ground.phase}],guard:=none }) rfl (fun K hK => ?_) ?_
          rotate_left
          · exact AllReadyH.nil
          refine wp_store_part _ _ _ rfl _ 0 rfl rfl (cs := #[.int .i64 3, .int .i64 1, .slice none 0 0, .int .i64 0, .int .i64 5, .int .i64 1, .int .i64 0, .int .i64 0, .bool false, .slice none 0 0, .int .i64 0, .int .i64 0, .bool false, .int .i64 0, .int .i64 0, .bool false, .int .i64 0, .int .i64 0, .slice none 0 0, .bool false, .slice none 0 0, .slice none 0 0]) rfl KN.out szCmd (by simp) (by simp [Value.oneCell']) (D := #[.int .i64 3, .int .i64 1, .slice none 0 0, .int .i64 0, .int .i64 5, .int .i64 1, .int .i64 0, .int .i64 0, .bool false, .slice none 0 0, .int .i64 0, .int .i64 0, .bool false, .int .i64 0, .int .i64 0, .bool false, .int .i64 0, .int .i64 0, .slice none 0 0, .bool false, .slice none 0 0, .slice none 0 0]) rfl ?_
          intro zf h1 h2
          have HBF : Hid (Below w0.heap.size w0 zf) := Lib.hid (below_grown9 HB_zw3.out h2 GN.out)
          have KF := Lib.hid h1
          have LF := Nat.lt_of_lt_of_le LN.out h2.size
          clear h1 h2
          refine hK.out _ _ (KS.out _ HBF.out) (fun hHeld => ?_)
          clear hK K
          try simp only [Act.put, List.setIfInBounds_toArray, List.set_cons_zero, List.set_cons_succ]
          refine wpAnyH_take (i := 9) (oi := {dst:=some 5,op:=Op.assign (Operand.tmp 24),type:=4, pos := "law.go:26",after:=#[{on:=6,ground:=Ground.data}, {on:=8,ground:=Ground.chain}, {on:=0,ground:=Ground.phase}, {on:=1,ground:=Ground.phase}, {on:=2,ground:=Ground.phase}, {on:=3,ground:=Ground.phase}, {on:=4,ground:=Ground.phase}, {on:=5,ground:=Ground.phase}, {on:=6,ground:=Ground.phase}, {on:=7,ground:=Ground.phase}, {on:=8,ground:=Ground.phase}],guard:=none }) (v := ?_) rfl (by kernel_rfl) (by kernel_rfl) (by kernel_rfl) (fun _ _ _ h => h) (Or.inl ⟨by rfl, ?_⟩) (by assumption) ?_
          rotate_left
          · intro w hSw
            try dsimp only at hSw
            go_simp
            try with_reducible rfl
          try simp only [Act.put, List.setIfInBounds_toArray, List.set_cons_zero, List.set_cons_succ]
          refine wpAnyH_done (by kernel_rfl) ?_ _
          go_wp2_with fail
          go_meet
          exact ⟨zw2.heap.size, rfl, rfl, GN.out, LF, KF.out, HBF.out⟩
      · go_simp
        have HX : Hid (Below zw1.heap.size zw1 (zw1.alloc (.cells #[.int .i64 0, .int .i64 0, .slice none 0 0, .int .i64 0, .int .i64 0, .int .i64 0, .int .i64 0, .int .i64 0, .bool false, .slice none 0 0, .int .i64 0, .int .i64 0, .bool false, .int .i64 0, .int .i64 0, .bool false, .int .i64 0, .int .i64 0, .slice none 0 0, .bool false, .slice none 0 0, .slice none 0 0] 31))) := Lib.hid (blAlloc (Below.refl _ _) _)
        have HB_zw4 : Hid (Below w0.heap.size w0 (zw1.alloc (.cells #[.int .i64 0, .int .i64 0, .slice none 0 0, .int .i64 0, .int .i64 0, .int .i64 0, .int .i64 0, .int .i64 0, .bool false, .slice none 0 0, .int .i64 0, .int .i64 0, .bool false, .int .i64 0, .int .i64 0, .bool false, .int .i64 0, .int .i64 0, .slice none 0 0, .bool false, .slice none 0 0, .slice none 0 0] 31))) := Lib.hid (blThen HB_zw1.out HX.out)
        have KN : Hid ((zw1.alloc (.cells #[.int .i64 0, .int .i64 0, .slice none 0 0, .int .i64 0, .int .i64 0, .int .i64 0, .int .i64 0, .int .i64 0, .bool false, .slice none 0 0, .int .i64 0, .int .i64 0, .bool false, .int .i64 0, .int .i64 0, .bool false, .int .i64 0, .int .i64 0, .slice none 0 0, .bool false, .slice none 0 0, .slice none 0 0] 31)).heap[zw1.heap.size]? = some (.cells #[.int .i64 0, .int .i64 0, .slice none 0 0, .int .i64 0, .int .i64 0, .int .i64 0, .int .i64 0, .int .i64 0, .bool false, .slice none 0 0, .int .i64 0, .int .i64 0, .bool false, .int .i64 0, .int .i64 0, .bool false, .int .i64 0, .int .i64 0, .slice none 0 0, .bool false, .slice none 0 0, .slice none 0 0] 31 (0, 0))) := Lib.hid (new_blockC zw1 #[.int .i64 0, .int .i64 0, .slice none 0 0, .int .i64 0, .int .i64 0, .int .i64 0, .int .i64 0, .int .i64 0, .bool false, .slice none 0 0, .int .i64 0, .int .i64 0, .bool false, .int .i64 0, .int .i64 0, .bool false, .int .i64 0, .int .i64 0, .slice none 0 0, .bool false, .slice none 0 0, .slice none 0 0] 31)
        have LN : Hid (zw1.heap.size < (zw1.alloc (.cells #[.int .i64 0, .int .i64 0, .slice none 0 0, .int .i64 0, .int .i64 0, .int .i64 0, .int .i64 0, .int .i64 0, .bool false, .slice none 0 0, .int .i64 0, .int .i64 0, .bool false, .int .i64 0, .int .i64 0, .bool false, .int .i64 0, .int .i64 0, .slice none 0 0, .bool false, .slice none 0 0, .slice none 0 0] 31)).heap.size) := Lib.hid (by simp)
        have GN : Hid (w0.heap.size ≤ zw1.heap.size) := Lib.hid HB_zw1.out.size
        refine hK.out _ _ (KS.out _ HB_zw4.out) (fun hHeld => ?_)
        clear hK K HX
        try simp only [Act.put, List.setIfInBounds_toArray, List.set_cons_zero, List.set_cons_succ]
        generalize (zw1.alloc (.cells #[.int .i64 0, .int .i64 0, .slice none 0 0, .int .i64 0, .int .i64 0, .int .i64 0, .int .i64 0, .int .i64 0, .bool false, .slice none 0 0, .int .i64 0, .int .i64 0, .bool false, .int .i64 0, .int .i64 0, .bool false, .int .i64 0, .int .i64 0, .slice none 0 0, .bool false, .slice none 0 0, .slice none 0 0] 31)) = zw4 at *
        refine wpAnyH_ready (rs := [3]) (by kernel_rfl) (by simp) ?_
        refine (AllReadyH.cons (o := {dst:=some 22,op:=Op.call { callee := Callee.value (Operand.func 34), args := #[Operand.tmp 20, Operand.tmp 21], argTypes := #[31, 23] },type:=54, pos := "law.go:26",after:=#[{on:=1,ground:=Ground.data}, {on:=2,ground:=Ground.data}, {on:=1,ground:=Ground.chain}],guard:=none }) rfl (fun K hK => ?_) AllReadyH.nil)
        · go_simp
          go_at_call 34
          refine (HPRO.out zw4).mono ?_
          rintro e zw5 ⟨rfl, h5⟩
          have HX : Hid (Below zw4.heap.size zw4 zw5) := Lib.hid h5
          have HB_zw5 : Hid (Below w0.heap.size w0 zw5) := Lib.hid (blThen HB_zw4.out HX.out)
          have KN := Lib.hid ((HX.out.block zw1.heap.size LN.out).trans KN.out)
          have LN : Hid (zw1.heap.size < zw5.heap.size) := Lib.hid (Nat.lt_of_lt_of_le LN.out HX.out.size)
          refine hK.out _ _ (KS.out _ HB_zw5.out) (fun hHeld => ?_)
          clear hK K HX h5
          try simp only [Act.put, List.setIfInBounds_toArray, List.set_cons_zero, List.set_cons_succ]
          refine wpAnyH_take (i := 4) (oi := {dst:=some 18,op:=Op.move (Operand.tmp 22),type:=54, pos := "law.go:26",after:=#[{on:=3,ground:=Ground.data}],guard:=none }) (v := ?_) rfl (by kernel_rfl) (by kernel_rfl) (by kernel_rfl) (fun _ _ _ h => h) (Or.inl ⟨by rfl, ?_⟩) (by assumption) ?_
          rotate_left
          · intro w hSw
            try dsimp only at hSw
            go_simp
            try with_reducible rfl
          try simp only [Act.put, List.setIfInBounds_toArray, List.set_cons_zero, List.set_cons_succ]
          refine wpAnyH_take (i := 5) (oi := {dst:=some 23,op:=Op.extract (Operand.tmp 18) 0,type:=31, pos := "law.go:26",after:=#[{on:=4,ground:=Ground.data}],guard:=none }) (v := ?_) rfl (by kernel_rfl) (by kernel_rfl) (by kernel_rfl) (fun _ _ _ h => h) (Or.inl ⟨by rfl, ?_⟩) (by assumption) ?_
          rotate_left
          · intro w hSw
            try dsimp only at hSw
            go_simp
            try with_reducible rfl
          try simp only [Act.put, List.setIfInBounds_toArray, List.set_cons_zero, List.set_cons_succ]
          refine wpAnyH_take (i := 6) (oi := {dst:=some 24,op:=Op.extract (Operand.tmp 18) 1,type:=4, pos := "law.go:26",after:=#[{on:=4,ground:=Ground.data}, {on:=8,ground:=Ground.gcOnly Departure.lateStores}],guard:=none }) (v := ?_) rfl (by kernel_rfl) (by kernel_rfl) (by kernel_rfl) (fun _ _ _ h => h) (Or.inl ⟨by rfl, ?_⟩) (by assumption) ?_
          rotate_left
          · intro w hSw
            try dsimp only at hSw
            go_simp
            try with_reducible rfl
          try simp only [Act.put, List.setIfInBounds_toArray, List.set_cons_zero, List.set_cons_succ]
          refine wpAnyH_ready (rs := [8]) (by kernel_rfl) (by simp) ?_
          refine AllReadyH.cons (o := {dst:=none,op:=Op.store 31 (Operand.tmp 4) (Operand.tmp 23),type:=0, pos := "law.go:26",after:=#[{on:=7,ground:=Ground.data}, {on:=5,ground:=Ground.data}, {on:=3,ground:=Ground.chain}, {on:=0,ground:=Ground.phase}, {on:=1,ground:=Ground.phase}, {on:=2,ground:=Ground.phase}, {on:=3,ground:=Ground.phase}, {on:=4,ground:=Ground.phase}, {on:=5,ground:=Ground.phase}, {on:=6,ground:=Ground.textOnly Departure.lateStores}, {on:=7,ground:=Ground.phase}],guard:=none }) rfl (fun K hK => ?_) ?_
          rotate_left
          · exact AllReadyH.nil
          refine wp_store_part _ _ _ rfl _ 0 rfl rfl (cs := #[.int .i64 3, .int .i64 1, .slice none 0 0, .int .i64 0, .int .i64 5, .int .i64 1, .int .i64 0, .int .i64 0, .bool false, .slice none 0 0, .int .i64 0, .int .i64 0, .bool false, .int .i64 0, .int .i64 0, .bool false, .int .i64 0, .int .i64 0, .slice none 0 0, .bool false, .slice none 0 0, .slice none 0 0]) rfl KN.out szCmd (by simp) (by simp [Value.oneCell']) (D := #[.int .i64 3, .int .i64 1, .slice none 0 0, .int .i64 0, .int .i64 5, .int .i64 1, .int .i64 0, .int .i64 0, .bool false, .slice none 0 0, .int .i64 0, .int .i64 0, .bool false, .int .i64 0, .int .i64 0, .bool false, .int .i64 0, .int .i64 0, .slice none 0 0, .bool false, .slice none 0 0, .slice none 0 0]) rfl ?_
          intro zf h1 h2
          have HBF : Hid (Below w0.heap.size w0 zf) := Lib.hid (below_grown9 HB_zw5.out h2 GN.out)
          have KF := Lib.hid h1
          have LF := Nat.lt_of_lt_of_le LN.out h2.size
          clear h1 h2
          refine hK.out _ _ (KS.out _ HBF.out) (fun hHeld => ?_)
          clear hK K
          try simp only [Act.put, List.setIfInBounds_toArray, List.set_cons_zero, List.set_cons_succ]
          refine wpAnyH_take (i := 9) (oi := {dst:=some 5,op:=Op.assign (Operand.tmp 24),type:=4, pos := "law.go:26",after:=#[{on:=6,ground:=Ground.data}, {on:=8,ground:=Ground.chain}, {on:=0,ground:=Ground.phase}, {on:=1,ground:=Ground.phase}, {on:=2,ground:=Ground.phase}, {on:=3,ground:=Ground.phase}, {on:=4,ground:=Ground.phase}, {on:=5,ground:=Ground.phase}, {on:=6,ground:=Ground.phase}, {on:=7,ground:=Ground.phase}, {on:=8,ground:=Ground.phase}],guard:=none }) (v := ?_) rfl (by kernel_rfl) (by kernel_rfl) (by kernel_rfl) (fun _ _ _ h => h) (Or.inl ⟨by rfl, ?_⟩) (by assumption) ?_
          rotate_left
          · intro w hSw
            try dsimp only at hSw
            go_simp
            try with_reducible rfl
          try simp only [Act.put, List.setIfInBounds_toArray, List.set_cons_zero, List.set_cons_succ]
          refine wpAnyH_done (by kernel_rfl) ?_ _
          go_wp2_with fail
          go_meet
          exact ⟨zw1.heap.size, rfl, rfl, GN.out, LF, KF.out, HBF.out⟩
    · go_simp
      have HX : Hid (Below z0.heap.size z0 (z0.alloc (.cells #[.int .i64 0, .int .i64 0, .slice none 0 0, .int .i64 0, .int .i64 0, .int .i64 0, .int .i64 0, .int .i64 0, .bool false, .slice none 0 0, .int .i64 0, .int .i64 0, .bool false, .int .i64 0, .int .i64 0, .bool false, .int .i64 0, .int .i64 0, .slice none 0 0, .bool false, .slice none 0 0, .slice none 0 0] 31))) := Lib.hid (blAlloc (Below.refl _ _) _)
      have HB_zw6 : Hid (Below w0.heap.size w0 (z0.alloc (.cells #[.int .i64 0, .int .i64 0, .slice none 0 0, .int .i64 0, .int .i64 0, .int .i64 0, .int .i64 0, .int .i64 0, .bool false, .slice none 0 0, .int .i64 0, .int .i64 0, .bool false, .int .i64 0, .int .i64 0, .bool false, .int .i64 0, .int .i64 0, .slice none 0 0, .bool false, .slice none 0 0, .slice none 0 0] 31))) := Lib.hid (blThen HB_z0.out HX.out)
      have KN : Hid ((z0.alloc (.cells #[.int .i64 0, .int .i64 0, .slice none 0 0, .int .i64 0, .int .i64 0, .int .i64 0, .int .i64 0, .int .i64 0, .bool false, .slice none 0 0, .int .i64 0, .int .i64 0, .bool false, .int .i64 0, .int .i64 0, .bool false, .int .i64 0, .int .i64 0, .slice none 0 0, .bool false, .slice none 0 0, .slice none 0 0] 31)).heap[z0.heap.size]? = some (.cells #[.int .i64 0, .int .i64 0, .slice none 0 0, .int .i64 0, .int .i64 0, .int .i64 0, .int .i64 0, .int .i64 0, .bool false, .slice none 0 0, .int .i64 0, .int .i64 0, .bool false, .int .i64 0, .int .i64 0, .bool false, .int .i64 0, .int .i64 0, .slice none 0 0, .bool false, .slice none 0 0, .slice none 0 0] 31 (0, 0))) := Lib.hid (new_blockC z0 #[.int .i64 0, .int .i64 0, .slice none 0 0, .int .i64 0, .int .i64 0, .int .i64 0, .int .i64 0, .int .i64 0, .bool false, .slice none 0 0, .int .i64 0, .int .i64 0, .bool false, .int .i64 0, .int .i64 0, .bool false, .int .i64 0, .int .i64 0, .slice none 0 0, .bool false, .slice none 0 0, .slice none 0 0] 31)
      have LN : Hid (z0.heap.size < (z0.alloc (.cells #[.int .i64 0, .int .i64 0, .slice none 0 0, .int .i64 0, .int .i64 0, .int .i64 0, .int .i64 0, .int .i64 0, .bool false, .slice none 0 0, .int .i64 0, .int .i64 0, .bool false, .int .i64 0, .int .i64 0, .bool false, .int .i64 0, .int .i64 0, .slice none 0 0, .bool false, .slice none 0 0, .slice none 0 0] 31)).heap.size) := Lib.hid (by simp)
      have GN : Hid (w0.heap.size ≤ z0.heap.size) := Lib.hid HB_z0.out.size
      refine hK.out _ _ (KS.out _ HB_zw6.out) (fun hHeld => ?_)
      clear hK K HX
      try simp only [Act.put, List.setIfInBounds_toArray, List.set_cons_zero, List.set_cons_succ]
      generalize (z0.alloc (.cells #[.int .i64 0, .int .i64 0, .slice none 0 0, .int .i64 0, .int .i64 0, .int .i64 0, .int .i64 0, .int .i64 0, .bool false, .slice none 0 0, .int .i64 0, .int .i64 0, .bool false, .int .i64 0, .int .i64 0, .bool false, .int .i64 0, .int .i64 0, .slice none 0 0, .bool false, .slice none 0 0, .slice none 0 0] 31)) = zw6 at *
      refine wpAnyH_ready (rs := [1]) (by kernel_rfl) (by simp) ?_
      refine (AllReadyH.cons (o := {dst:=some 20,op:=Op.call { callee := Callee.value (Operand.func 17), args := #[Operand.tmp 19], argTypes := #[23] },type:=31, pos := "law.go:26",after:=#[{on:=0,ground:=Ground.data}],guard:=none }) rfl (fun K hK => ?_) AllReadyH.nil)
      · go_simp
        go_at_call 17
        refine (HNEW.out zw6).mono ?_
        rintro e zw7 ⟨rfl, h5⟩
        have HX : Hid (Below zw6.heap.size zw6 zw7) := Lib.hid h5
        have HB_zw7 : Hid (Below w0.heap.size w0 zw7) := Lib.hid (blThen HB_zw6.out HX.out)
        have KN := Lib.hid ((HX.out.block z0.heap.size LN.out).trans KN.out)
        have LN : Hid (z0.heap.size < zw7.heap.size) := Lib.hid (Nat.lt_of_lt_of_le LN.out HX.out.size)
        refine hK.out _ _ (KS.out _ HB_zw7.out) (fun hHeld => ?_)
        clear hK K HX h5
        try simp only [Act.put, List.setIfInBounds_toArray, List.set_cons_zero, List.set_cons_succ]
        refine wpAnyH_ready (rs := [3]) (by kernel_rfl) (by simp) ?_
        refine (AllReadyH.cons (o := {dst:=some 22,op:=Op.call { callee := Callee.value (Operand.func 34), args := #[Operand.tmp 20, Operand.tmp 21], argTypes := #[31, 23] },type:=54, pos := "law.go:26",after:=#[{on:=1,ground:=Ground.data}, {on:=2,ground:=Ground.data}, {on:=1,ground:=Ground.chain}],guard:=none }) rfl (fun K hK => ?_) AllReadyH.nil)
        · go_simp
          go_at_call 34
          refine (HPRO.out zw7).mono ?_
          rintro e zw8 ⟨rfl, h5⟩
          have HX : Hid (Below zw7.heap.size zw7 zw8) := Lib.hid h5
          have HB_zw8 : Hid (Below w0.heap.size w0 zw8) := Lib.hid (blThen HB_zw7.out HX.out)
          have KN := Lib.hid ((HX.out.block z0.heap.size LN.out).trans KN.out)
          have LN : Hid (z0.heap.size < zw8.heap.size) := Lib.hid (Nat.lt_of_lt_of_le LN.out HX.out.size)
          refine hK.out _ _ (KS.out _ HB_zw8.out) (fun hHeld => ?_)
          clear hK K HX h5
          try simp only [Act.put, List.setIfInBounds_toArray, List.set_cons_zero, List.set_cons_succ]
          refine wpAnyH_take (i := 4) (oi := {dst:=some 18,op:=Op.move (Operand.tmp 22),type:=54, pos := "law.go:26",after:=#[{on:=3,ground:=Ground.data}],guard:=none }) (v := ?_) rfl (by kernel_rfl) (by kernel_rfl) (by kernel_rfl) (fun _ _ _ h => h) (Or.inl ⟨by rfl, ?_⟩) (by assumption) ?_
          rotate_left
          · intro w hSw
            try dsimp only at hSw
            go_simp
            try with_reducible rfl
          try simp only [Act.put, List.setIfInBounds_toArray, List.set_cons_zero, List.set_cons_succ]
          refine wpAnyH_take (i := 5) (oi := {dst:=some 23,op:=Op.extract (Operand.tmp 18) 0,type:=31, pos := "law.go:26",after:=#[{on:=4,ground:=Ground.data}],guard:=none }) (v := ?_) rfl (by kernel_rfl) (by kernel_rfl) (by kernel_rfl) (fun _ _ _ h => h) (Or.inl ⟨by rfl, ?_⟩) (by assumption) ?_
          rotate_left
          · intro w hSw
            try dsimp only at hSw
            go_simp
            try with_reducible rfl
          try simp only [Act.put, List.setIfInBounds_toArray, List.set_cons_zero, List.set_cons_succ]
          refine wpAnyH_take (i := 6) (oi := {dst:=some 24,op:=Op.extract (Operand.tmp 18) 1,type:=4, pos := "law.go:26",after:=#[{on:=4,ground:=Ground.data}, {on:=8,ground:=Ground.gcOnly Departure.lateStores}],guard:=none }) (v := ?_) rfl (by kernel_rfl) (by kernel_rfl) (by kernel_rfl) (fun _ _ _ h => h) (Or.inl ⟨by rfl, ?_⟩) (by assumption) ?_
          rotate_left
          · intro w hSw
            try dsimp only at hSw
            go_simp
            try with_reducible rfl
          try simp only [Act.put, List.setIfInBounds_toArray, List.set_cons_zero, List.set_cons_succ]
          refine wpAnyH_ready (rs := [8]) (by kernel_rfl) (by simp) ?_
          refine AllReadyH.cons (o := {dst:=none,op:=Op.store 31 (Operand.tmp 4) (Operand.tmp 23),type:=0, pos := "law.go:26",after:=#[{on:=7,ground:=Ground.data}, {on:=5,ground:=Ground.data}, {on:=3,ground:=Ground.chain}, {on:=0,ground:=Ground.phase}, {on:=1,ground:=Ground.phase}, {on:=2,ground:=Ground.phase}, {on:=3,ground:=Ground.phase}, {on:=4,ground:=Ground.phase}, {on:=5,ground:=Ground.phase}, {on:=6,ground:=Ground.textOnly Departure.lateStores}, {on:=7,ground:=Ground.phase}],guard:=none }) rfl (fun K hK => ?_) ?_
          rotate_left
          · exact AllReadyH.nil
          refine wp_store_part _ _ _ rfl _ 0 rfl rfl (cs := #[.int .i64 3, .int .i64 1, .slice none 0 0, .int .i64 0, .int .i64 5, .int .i64 1, .int .i64 0, .int .i64 0, .bool false, .slice none 0 0, .int .i64 0, .int .i64 0, .bool false, .int .i64 0, .int .i64 0, .bool false, .int .i64 0, .int .i64 0, .slice none 0 0, .bool false, .slice none 0 0, .slice none 0 0]) rfl KN.out szCmd (by simp) (by simp [Value.oneCell']) (D := #[.int .i64 3, .int .i64 1, .slice none 0 0, .int .i64 0, .int .i64 5, .int .i64 1, .int .i64 0, .int .i64 0, .bool false, .slice none 0 0, .int .i64 0, .int .i64 0, .bool false, .int .i64 0, .int .i64 0, .bool false, .int .i64 0, .int .i64 0, .slice none 0 0, .bool false, .slice none 0 0, .slice none 0 0]) rfl ?_
          intro zf h1 h2
          have HBF : Hid (Below w0.heap.size w0 zf) := Lib.hid (below_grown9 HB_zw8.out h2 GN.out)
          have KF := Lib.hid h1
          have LF := Nat.lt_of_lt_of_le LN.out h2.size
          clear h1 h2
          refine hK.out _ _ (KS.out _ HBF.out) (fun hHeld => ?_)
          clear hK K
          try simp only [Act.put, List.setIfInBounds_toArray, List.set_cons_zero, List.set_cons_succ]
          refine wpAnyH_take (i := 9) (oi := {dst:=some 5,op:=Op.assign (Operand.tmp 24),type:=4, pos := "law.go:26",after:=#[{on:=6,ground:=Ground.data}, {on:=8,ground:=Ground.chain}, {on:=0,ground:=Ground.phase}, {on:=1,ground:=Ground.phase}, {on:=2,ground:=Ground.phase}, {on:=3,ground:=Ground.phase}, {on:=4,ground:=Ground.phase}, {on:=5,ground:=Ground.phase}, {on:=6,ground:=Ground.phase}, {on:=7,ground:=Ground.phase}, {on:=8,ground:=Ground.phase}],guard:=none }) (v := ?_) rfl (by kernel_rfl) (by kernel_rfl) (by kernel_rfl) (fun _ _ _ h => h) (Or.inl ⟨by rfl, ?_⟩) (by assumption) ?_
          rotate_left
          · intro w hSw
            try dsimp only at hSw
            go_simp
            try with_reducible rfl
          try simp only [Act.put, List.setIfInBounds_toArray, List.set_cons_zero, List.set_cons_succ]
          refine wpAnyH_done (by kernel_rfl) ?_ _
          go_wp2_with fail
          go_meet
          exact ⟨z0.heap.size, rfl, rfl, GN.out, LF, KF.out, HBF.out⟩
  case rest =>
    obtain ⟨k4, e4, e5, hk, hlt, hr, hb⟩ := hcut
    rename World => w1
    rw [e4, e5]
    clear e4 e5
    have HB_1 : Hid (Below W.heap.size W w1) := Lib.hid (blThen HB_0.out hb)
    have hsz1 := hb.size
    have Ki_1 := Lib.hid ((hb.block W.heap.size (by omega)).trans Ki_0.out)
    have Li_1 : Hid (W.heap.size < w1.heap.size) := Lib.hid (by omega)
    have Kb_1 := Lib.hid ((hb.block (W.heap.size + 1) (by omega)).trans Kb_0.out)
    have Lb_1 : Hid ((W.heap.size + 1) < w1.heap.size) := Lib.hid (by omega)
    have Kv_1 := Lib.hid ((hb.block (W.heap.size + 2) (by omega)).trans Kv_0.out)
    have Lv_1 : Hid ((W.heap.size + 2) < w1.heap.size) := Lib.hid (by omega)
    have Kc_1 := Lib.hid hr
    have Lc_1 : Hid (k4 < w1.heap.size) := Lib.hid hlt
    clear hk hlt hr hb Ki_0 Kb_0 Kv_0 KS HB_0 HNEW HPRO
    go_wp2_with (first | go_skip | ((with_reducible refine atC w16 ?_); go_at_call 13; go_must (refine (num9_any _ _).mono ?_; rintro e wq ⟨rfl, rfl⟩)) | ((with_reducible refine atC w15 ?_); go_at_call 14; go_must (refine (check9_any cm0 nilL w15 (nilL_at _ _) few_cm0).mono ?_; rw [live9_zero]; rintro e w16 ⟨rfl, h5⟩; have HB_16 : Hid (Below W.heap.size W w16) := Lib.hid (blThen HB_15.out h5); have Ki_16 := row_up Ki_15 Li_15 h5; have Li_16 := lt_up Li_15 h5; have Kb_16 := row_up Kb_15 Lb_15 h5; have Lb_16 := lt_up Lb_15 h5; have Kv_16 := row_up Kv_15 Lv_15 h5; have Lv_16 := lt_up Lv_15 h5; have Kc_16 := row_up Kc_15 Lc_15 h5; have Lc_16 := lt_up Lc_15 h5; have Kd6_16 := row_up Kd6_15 Ld6_15 h5; have Ld6_16 := lt_up Ld6_15 h5; have Kd8_16 := row_up Kd8_15 Ld8_15 h5; have Ld8_16 := lt_up Ld8_15 h5; have Kt10_16 := row_up Kt10_15 Lt10_15 h5; have Lt10_16 := lt_up Lt10_15 h5; have Kt11_16 := row_up Kt11_15 Lt11_15 h5; have Lt11_16 := lt_up Lt11_15 h5; have Kt12_16 := row_up Kt12_15 Lt12_15 h5; have Lt12_16 := lt_up Lt12_15 h5; have HO_16 := Lib.hid (HO_15.out.later h5); have HAT_16 := Lib.hid (HAT_15.out.later h5); clear h5)) | ((with_reducible refine atC w14 ?_); go_at_call 16; go_must (refine (rsame9_any e1L ⟨.slice poa [opL].length poc, .slice psa psn psc, .slice pda pdn pdc, .slice pwa ([] : List Wrt).length pwc, .slice ppa ([] : Al Nat).length ppc⟩ ⟨.slice (some ⟨w5.heap.size, 0, none⟩) 1 1, .slice none 0 0, .slice none 0 0, .slice none 0 0, .slice none 0 0⟩ w14 HAT_14.out (HEA.out _ _ HO_14.out) live9_few).mono ?_; rintro e w15 ⟨rfl, h5⟩; have HB_15 : Hid (Below W.heap.size W w15) := Lib.hid (blThen HB_14.out h5); have Ki_15 := row_up Ki_14 Li_14 h5; have Li_15 := lt_up Li_14 h5; have Kb_15 := row_up Kb_14 Lb_14 h5; have Lb_15 := lt_up Lb_14 h5; have Kv_15 := row_up Kv_14 Lv_14 h5; have Lv_15 := lt_up Lv_14 h5; have Kc_15 := row_up Kc_14 Lc_14 h5; have Lc_15 := lt_up Lc_14 h5; have Kd6_15 := row_up Kd6_14 Ld6_14 h5; have Ld6_15 := lt_up Ld6_14 h5; have Kd8_15 := row_up Kd8_14 Ld8_14 h5; have Ld8_15 := lt_up Ld8_14 h5; have Kt10_15 := row_up Kt10_14 Lt10_14 h5; have Lt10_15 := lt_up Lt10_14 h5; have Kt11_15 := row_up Kt11_14 Lt11_14 h5; have Lt11_15 := lt_up Lt11_14 h5; have Kt12_15 := row_up Kt12_14 Lt12_14 h5; have Lt12_15 := lt_up Lt12_14 h5; have HO_15 := Lib.hid (HO_14.out.later h5); have HAT_15 := Lib.hid (HAT_14.out.later h5); clear h5)) | ((with_reducible refine atW w14 ?_); refine load9 _ rfl (by rfl) _ rfl Kt11_14.out rfl ?_) | ((with_reducible refine atW w14 ?_); refine load9 _ rfl (by rfl) _ rfl Kt12_14.out rfl ?_) | ((with_reducible refine atW w14 ?_); refine wpList_load_one _ _ rfl (by rfl) _ 3 rfl Kt11_14.out Tryz.underlying3 rfl rfl ?_) | ((with_reducible refine atC w14 ?_); go_at_call 13; go_must (refine (num9_any _ _).mono ?_; rintro e wq ⟨rfl, rfl⟩)) | ((with_reducible refine atC w13 ?_); go_at_call 14; go_must (refine (check9_any e1L ⟨.slice (some ⟨w5.heap.size, 0, none⟩) 1 1, .slice none 0 0, .slice none 0 0, .slice none 0 0, .slice none 0 0⟩ w13 (HEA.out _ _ HO_13.out) live9_few).mono ?_; rw [live9_check]; rintro e w14 ⟨rfl, h5⟩; have HB_14 : Hid (Below W.heap.size W w14) := Lib.hid (blThen HB_13.out h5); have Ki_14 := row_up Ki_13 Li_13 h5; have Li_14 := lt_up Li_13 h5; have Kb_14 := row_up Kb_13 Lb_13 h5; have Lb_14 := lt_up Lb_13 h5; have Kv_14 := row_up Kv_13 Lv_13 h5; have Lv_14 := lt_up Lv_13 h5; have Kc_14 := row_up Kc_13 Lc_13 h5; have Lc_14 := lt_up Lc_13 h5; have Kd6_14 := row_up Kd6_13 Ld6_13 h5; have Ld6_14 := lt_up Ld6_13 h5; have Kd8_14 := row_up Kd8_13 Ld8_13 h5; have Ld8_14 := lt_up Ld8_13 h5; have Kt10_14 := row_up Kt10_13 Lt10_13 h5; have Lt10_14 := lt_up Lt10_13 h5; have Kt11_14 := row_up Kt11_13 Lt11_13 h5; have Lt11_14 := lt_up Lt11_13 h5; have Kt12_14 := row_up Kt12_13 Lt12_13 h5; have Lt12_14 := lt_up Lt12_13 h5; have HO_14 := Lib.hid (HO_13.out.later h5); have HAT_14 := Lib.hid (HAT_13.out.later h5); clear h5)) | ((with_reducible refine atW w13 ?_); refine load9 _ rfl (by rfl) _ rfl Kt11_13.out rfl ?_) | ((with_reducible refine atC w12 ?_); go_at_call 16; go_must (refine (rsame9_any e1L ⟨.slice (some ⟨w5.heap.size, 0, none⟩) 1 1, .slice none 0 0, .slice none 0 0, .slice none 0 0, .slice none 0 0⟩ ⟨.slice (some ⟨w5.heap.size, 0, none⟩) 1 1, .slice none 0 0, .slice none 0 0, .slice none 0 0, .slice none 0 0⟩ w12 (HEA.out _ _ HO_12.out) (HEA.out _ _ HO_12.out) live9_few).mono ?_; rintro e w13 ⟨rfl, h5⟩; have HB_13 : Hid (Below W.heap.size W w13) := Lib.hid (blThen HB_12.out h5); have Ki_13 := row_up Ki_12 Li_12 h5; have Li_13 := lt_up Li_12 h5; have Kb_13 := row_up Kb_12 Lb_12 h5; have Lb_13 := lt_up Lb_12 h5; have Kv_13 := row_up Kv_12 Lv_12 h5; have Lv_13 := lt_up Lv_12 h5; have Kc_13 := row_up Kc_12 Lc_12 h5; have Lc_13 := lt_up Lc_12 h5; have Kd6_13 := row_up Kd6_12 Ld6_12 h5; have Ld6_13 := lt_up Ld6_12 h5; have Kd8_13 := row_up Kd8_12 Ld8_12 h5; have Ld8_13 := lt_up Ld8_12 h5; have Kt10_13 := row_up Kt10_12 Lt10_12 h5; have Lt10_13 := lt_up Lt10_12 h5; have Kt11_13 := row_up Kt11_12 Lt11_12 h5; have Lt11_13 := lt_up Lt11_12 h5; have Kt12_13 := row_up Kt12_12 Lt12_12 h5; have Lt12_13 := lt_up Lt12_12 h5; have HO_13 := Lib.hid (HO_12.out.later h5); have HAT_13 := Lib.hid (HAT_12.out.later h5); clear h5)) | ((with_reducible refine atW w12 ?_); refine load9 _ rfl (by rfl) _ rfl Kt11_12.out rfl ?_) | ((with_reducible refine atW w12 ?_); refine load9 _ rfl (by rfl) _ rfl Kt10_12.out rfl ?_) | ((with_reducible refine atW (w11.alloc (.cells #[.int .i64 0, .int .i64 0, .slice none 0 0, .int .i64 0, .int .i64 0, .int .i64 0, .int .i64 0, .int .i64 0, .bool false, .slice none 0 0, .int .i64 0, .int .i64 0, .bool false, .int .i64 0, .int .i64 0, .bool false, .int .i64 0, .int .i64 0, .slice none 0 0, .bool false, .slice none 0 0, .slice none 0 0] 31)) ?_); refine store9 _ _ rfl (by rfl) _ rfl rfl (new_blockC w11 #[.int .i64 0, .int .i64 0, .slice none 0 0, .int .i64 0, .int .i64 0, .int .i64 0, .int .i64 0, .int .i64 0, .bool false, .slice none 0 0, .int .i64 0, .int .i64 0, .bool false, .int .i64 0, .int .i64 0, .bool false, .int .i64 0, .int .i64 0, .slice none 0 0, .bool false, .slice none 0 0, .slice none 0 0] 31) rfl rfl (by simp [Value.oneCell']) ?_; intro w12 h1 h2; have h5 := below_grown9 (blAlloc (Below.refl _ _) _) h2 (Nat.le_refl _); have HB_12 : Hid (Below W.heap.size W w12) := Lib.hid (blThen HB_11.out h5); have Ki_12 := row_up Ki_11 Li_11 h5; have Li_12 := lt_up Li_11 h5; have Kb_12 := row_up Kb_11 Lb_11 h5; have Lb_12 := lt_up Lb_11 h5; have Kv_12 := row_up Kv_11 Lv_11 h5; have Lv_12 := lt_up Lv_11 h5; have Kc_12 := row_up Kc_11 Lc_11 h5; have Lc_12 := lt_up Lc_11 h5; have Kd6_12 := row_up Kd6_11 Ld6_11 h5; have Ld6_12 := lt_up Ld6_11 h5; have Kd8_12 := row_up Kd8_11 Ld8_11 h5; have Ld8_12 := lt_up Ld8_11 h5; have Kt10_12 := row_up Kt10_11 Lt10_11 h5; have Lt10_12 := lt_up Lt10_11 h5; have Kt11_12 := row_up Kt11_11 Lt11_11 h5; have Lt11_12 := lt_up Lt11_11 h5; have HO_12 := Lib.hid (HO_11.out.later h5); have HAT_12 := Lib.hid (HAT_11.out.later h5); have Kt12_12 := Lib.hid h1; have Lt12_12 : Hid (w11.heap.size < w12.heap.size) := Lib.hid (by have := h2.size; simp only [World.size_alloc] at this; omega); clear h1 h2 h5) | ((with_reducible refine atC w10 ?_); go_at_call 11; go_must (refine (parse9_any _ vB (layC e1L) w10 HBW.out (fun hne => HBW.out.lt hne) live9_len).mono ?_; intro e w11 h; unfold RetPc at h; rw [live9_bytes] at h; obtain ⟨⟨po, ps, pd, pw, pp⟩, rfl, hat, h5⟩ := h; have HB_11 : Hid (Below W.heap.size W w11) := Lib.hid (blThen HB_10.out h5); have Ki_11 := row_up Ki_10 Li_10 h5; have Li_11 := lt_up Li_10 h5; have Kb_11 := row_up Kb_10 Lb_10 h5; have Lb_11 := lt_up Lb_10 h5; have Kv_11 := row_up Kv_10 Lv_10 h5; have Lv_11 := lt_up Lv_10 h5; have Kc_11 := row_up Kc_10 Lc_10 h5; have Lc_11 := lt_up Lc_10 h5; have Kd6_11 := row_up Kd6_10 Ld6_10 h5; have Ld6_11 := lt_up Ld6_10 h5; have Kd8_11 := row_up Kd8_10 Ld8_10 h5; have Ld8_11 := lt_up Ld8_10 h5; have Kt10_11 := row_up Kt10_10 Lt10_10 h5; have Lt10_11 := lt_up Lt10_10 h5; have Kt11_11 := row_up Kt11_10 Lt11_10 h5; have Lt11_11 := lt_up Lt11_10 h5; have HO_11 := Lib.hid (HO_10.out.later h5); have HAT_11 := Lib.hid hat; obtain ⟨poa, poc, rfl⟩ := hat.o.form; obtain ⟨psa, psc, psF, rfl, _⟩ := hat.s; obtain ⟨pda, pdc, pdF, rfl, _⟩ := hat.d; obtain ⟨pwa, pwc, rfl⟩ := hat.w.form; obtain ⟨ppa, ppc, rfl⟩ := hat.p.form; generalize psF.length = psn at *; generalize pdF.length = pdn at *; simp only [Option.getD, cmV, e1L]; clear hat h5)) | ((with_reducible refine atC w9 ?_); go_at_call 18; go_must (refine (put9_any e1L ⟨.slice (some ⟨w5.heap.size, 0, none⟩) 1 1, .slice none 0 0, .slice none 0 0, .slice none 0 0, .slice none 0 0⟩ w9 (HEA.out _ _ HO_9.out) live9_few live9_put).mono ?_; intro e w10 h; unfold S2.Made at h; obtain ⟨vB, gB, rfl, hb1, hb2, h5⟩ := h; have HB_10 : Hid (Below W.heap.size W w10) := Lib.hid (blThen HB_9.out h5); have Ki_10 := row_up Ki_9 Li_9 h5; have Li_10 := lt_up Li_9 h5; have Kb_10 := row_up Kb_9 Lb_9 h5; have Lb_10 := lt_up Lb_9 h5; have Kv_10 := row_up Kv_9 Lv_9 h5; have Lv_10 := lt_up Lv_9 h5; have Kc_10 := row_up Kc_9 Lc_9 h5; have Lc_10 := lt_up Lc_9 h5; have Kd6_10 := row_up Kd6_9 Ld6_9 h5; have Ld6_10 := lt_up Ld6_9 h5; have Kd8_10 := row_up Kd8_9 Ld8_9 h5; have Ld8_10 := lt_up Ld8_9 h5; have Kt10_10 := row_up Kt10_9 Lt10_9 h5; have Lt10_10 := lt_up Lt10_9 h5; have Kt11_10 := row_up Kt11_9 Lt11_9 h5; have Lt11_10 := lt_up Lt11_9 h5; have HO_10 := Lib.hid (HO_9.out.later h5); have HBW := Lib.hid hb1.bs.bw; clear hb1 hb2 h5)) | ((with_reducible refine atW w9 ?_); refine load9 _ rfl (by rfl) _ rfl Kt11_9.out rfl ?_) | ((with_reducible refine atW (w8.alloc (.cells #[.int .i64 0, .int .i64 0, .slice none 0 0, .int .i64 0, .int .i64 0, .int .i64 0, .int .i64 0, .int .i64 0, .bool false, .slice none 0 0, .int .i64 0, .int .i64 0, .bool false, .int .i64 0, .int .i64 0, .bool false, .int .i64 0, .int .i64 0, .slice none 0 0, .bool false, .slice none 0 0, .slice none 0 0] 31)) ?_); refine store9 _ _ rfl (by rfl) _ rfl rfl (new_blockC w8 #[.int .i64 0, .int .i64 0, .slice none 0 0, .int .i64 0, .int .i64 0, .int .i64 0, .int .i64 0, .int .i64 0, .bool false, .slice none 0 0, .int .i64 0, .int .i64 0, .bool false, .int .i64 0, .int .i64 0, .bool false, .int .i64 0, .int .i64 0, .slice none 0 0, .bool false, .slice none 0 0, .slice none 0 0] 31) rfl rfl (by simp [Value.oneCell']) ?_; intro w9 h1 h2; have h5 := below_grown9 (blAlloc (Below.refl _ _) _) h2 (Nat.le_refl _); have HB_9 : Hid (Below W.heap.size W w9) := Lib.hid (blThen HB_8.out h5); have Ki_9 := row_up Ki_8 Li_8 h5; have Li_9 := lt_up Li_8 h5; have Kb_9 := row_up Kb_8 Lb_8 h5; have Lb_9 := lt_up Lb_8 h5; have Kv_9 := row_up Kv_8 Lv_8 h5; have Lv_9 := lt_up Lv_8 h5; have Kc_9 := row_up Kc_8 Lc_8 h5; have Lc_9 := lt_up Lc_8 h5; have Kd6_9 := row_up Kd6_8 Ld6_8 h5; have Ld6_9 := lt_up Ld6_8 h5; have Kd8_9 := row_up Kd8_8 Ld8_8 h5; have Ld8_9 := lt_up Ld8_8 h5; have Kt10_9 := row_up Kt10_8 Lt10_8 h5; have Lt10_9 := lt_up Lt10_8 h5; have HO_9 := Lib.hid (HO_8.out.later h5); have Kt11_9 := Lib.hid h1; have Lt11_9 : Hid (w8.heap.size < w9.heap.size) := Lib.hid (by have := h2.size; simp only [World.size_alloc] at this; omega); clear h1 h2 h5) | ((with_reducible refine atC w7 ?_); go_at_call 42; go_must (refine (HAG.out w7 w5.heap.size HO_7.out).mono ?_; rintro e w8 ⟨rfl, h5⟩; have HB_8 : Hid (Below W.heap.size W w8) := Lib.hid (blThen HB_7.out h5); have Ki_8 := row_up Ki_7 Li_7 h5; have Li_8 := lt_up Li_7 h5; have Kb_8 := row_up Kb_7 Lb_7 h5; have Lb_8 := lt_up Lb_7 h5; have Kv_8 := row_up Kv_7 Lv_7 h5; have Lv_8 := lt_up Lv_7 h5; have Kc_8 := row_up Kc_7 Lc_7 h5; have Lc_8 := lt_up Lc_7 h5; have Kd6_8 := row_up Kd6_7 Ld6_7 h5; have Ld6_8 := lt_up Ld6_7 h5; have Kd8_8 := row_up Kd8_7 Ld8_7 h5; have Ld8_8 := lt_up Ld8_7 h5; have Kt10_8 := row_up Kt10_7 Lt10_7 h5; have Lt10_8 := lt_up Lt10_7 h5; have HO_8 := Lib.hid (HO_7.out.later h5); clear h5)) | ((with_reducible refine atW w7 ?_); refine load9 _ rfl (by rfl) _ rfl Kt10_7.out rfl ?_) | ((with_reducible refine atW (w6.alloc (.cells #[.int .i64 0, .int .i64 0, .slice none 0 0, .int .i64 0, .int .i64 0, .int .i64 0, .int .i64 0, .int .i64 0, .bool false, .slice none 0 0, .int .i64 0, .int .i64 0, .bool false, .int .i64 0, .int .i64 0, .bool false, .int .i64 0, .int .i64 0, .slice none 0 0, .bool false, .slice none 0 0, .slice none 0 0] 31)) ?_); refine store9 _ _ rfl (by rfl) _ rfl rfl (new_blockC w6 #[.int .i64 0, .int .i64 0, .slice none 0 0, .int .i64 0, .int .i64 0, .int .i64 0, .int .i64 0, .int .i64 0, .bool false, .slice none 0 0, .int .i64 0, .int .i64 0, .bool false, .int .i64 0, .int .i64 0, .bool false, .int .i64 0, .int .i64 0, .slice none 0 0, .bool false, .slice none 0 0, .slice none 0 0] 31) rfl rfl (by simp [Value.oneCell']) ?_; intro w7 h1 h2; have h5 := below_grown9 (blAlloc (Below.refl _ _) _) h2 (Nat.le_refl _); have HB_7 : Hid (Below W.heap.size W w7) := Lib.hid (blThen HB_6.out h5); have Ki_7 := row_up Ki_6 Li_6 h5; have Li_7 := lt_up Li_6 h5; have Kb_7 := row_up Kb_6 Lb_6 h5; have Lb_7 := lt_up Lb_6 h5; have Kv_7 := row_up Kv_6 Lv_6 h5; have Lv_7 := lt_up Lv_6 h5; have Kc_7 := row_up Kc_6 Lc_6 h5; have Lc_7 := lt_up Lc_6 h5; have Kd6_7 := row_up Kd6_6 Ld6_6 h5; have Ld6_7 := lt_up Ld6_6 h5; have Kd8_7 := row_up Kd8_6 Ld8_6 h5; have Ld8_7 := lt_up Ld8_6 h5; have HO_7 := Lib.hid (HO_6.out.later h5); have Kt10_7 := Lib.hid h1; have Lt10_7 : Hid (w6.heap.size < w7.heap.size) := Lib.hid (by have := h2.size; simp only [World.size_alloc] at this; omega); clear h1 h2 h5) | (go_at_call 42; go_must (refine (HDEC.out (w5.alloc (.cells #[.int .i64 1, .string ⟨#[97]⟩, .string ⟨#[]⟩, .int .u64 0] 82)) w5.heap.size (list_G9 eO w5 _ [opL] _ 1 _ rfl rfl rfl)).mono ?_; rintro e w6 ⟨rfl, h5⟩; have h6 := h5; have h5 := blThen (blAlloc (Below.refl w5.heap.size w5) (.cells #[.int .i64 1, .string ⟨#[97]⟩, .string ⟨#[]⟩, .int .u64 0] 82)) h5; have HB_6 : Hid (Below W.heap.size W w6) := Lib.hid (blThen HB_5.out h5); have Ki_6 := row_up Ki_5 Li_5 h5; have Li_6 := lt_up Li_5 h5; have Kb_6 := row_up Kb_5 Lb_5 h5; have Lb_6 := lt_up Lb_5 h5; have Kv_6 := row_up Kv_5 Lv_5 h5; have Lv_6 := lt_up Lv_5 h5; have Kc_6 := row_up Kc_5 Lc_5 h5; have Lc_6 := lt_up Lc_5 h5; have Kd6_6 := row_up Kd6_5 Ld6_5 h5; have Ld6_6 := lt_up Ld6_5 h5; have Kd8_6 := row_up Kd8_5 Ld8_5 h5; have Ld8_6 := lt_up Ld8_5 h5; have HO_6 := Lib.hid ((list_G9 eO w5 82 [opL] w5.heap.size 1 #[.int .i64 1, .string ⟨#[97]⟩, .string ⟨#[]⟩, .int .u64 0] rfl rfl rfl).later h6); clear h5 h6)) | ((with_reducible refine atW (w5.alloc (.cells #[.int .i64 1, .string ⟨#[97]⟩, .string ⟨#[]⟩, .int .u64 0] 82)) ?_); refine wpList_load_part _ _ rfl (by rfl) _ 0 rfl (alloc_row9 Kv_5.out Lv_5.out _) Tryz.underlying27 rfl #[.bool false, .int .i64 3, .int .i64 1, .slice none 0 0] (by kernel_rfl) (four_at rfl rfl rfl rfl) ?_) | ((with_reducible refine atW w5 ?_); refine wpList_load_part _ _ rfl (by rfl) _ 0 rfl Kv_5.out Tryz.underlying27 rfl #[.bool false, .int .i64 3, .int .i64 1, .slice none 0 0] (by kernel_rfl) (four_at rfl rfl rfl rfl) ?_) | ((with_reducible refine atW w5 ?_); refine load9 _ rfl (by rfl) _ rfl Kd8_5.out rfl ?_) | ((with_reducible refine atW (w4.alloc (.cells #[.int .i64 0, .int .i64 0, .slice none 0 0, .int .i64 0, .int .i64 0, .int .i64 0, .int .i64 0, .int .i64 0, .bool false, .slice none 0 0, .int .i64 0, .int .i64 0, .bool false, .int .i64 0, .int .i64 0, .bool false, .int .i64 0, .int .i64 0, .slice none 0 0, .bool false, .slice none 0 0, .slice none 0 0] 31)) ?_); refine store9 _ _ rfl (by rfl) _ rfl rfl (new_blockC w4 #[.int .i64 0, .int .i64 0, .slice none 0 0, .int .i64 0, .int .i64 0, .int .i64 0, .int .i64 0, .int .i64 0, .bool false, .slice none 0 0, .int .i64 0, .int .i64 0, .bool false, .int .i64 0, .int .i64 0, .bool false, .int .i64 0, .int .i64 0, .slice none 0 0, .bool false, .slice none 0 0, .slice none 0 0] 31) rfl rfl (by simp [Value.oneCell']) ?_; intro w5 h1 h2; have h5 := below_grown9 (blAlloc (Below.refl _ _) _) h2 (Nat.le_refl _); have HB_5 : Hid (Below W.heap.size W w5) := Lib.hid (blThen HB_4.out h5); have Ki_5 := row_up Ki_4 Li_4 h5; have Li_5 := lt_up Li_4 h5; have Kb_5 := row_up Kb_4 Lb_4 h5; have Lb_5 := lt_up Lb_4 h5; have Kv_5 := row_up Kv_4 Lv_4 h5; have Lv_5 := lt_up Lv_4 h5; have Kc_5 := row_up Kc_4 Lc_4 h5; have Lc_5 := lt_up Lc_4 h5; have Kd6_5 := row_up Kd6_4 Ld6_4 h5; have Ld6_5 := lt_up Ld6_4 h5; have Kd8_5 := Lib.hid h1; have Ld8_5 : Hid (w4.heap.size < w5.heap.size) := Lib.hid (by have := h2.size; simp only [World.size_alloc] at this; omega); clear h1 h2 h5) | ((with_reducible refine atC w3 ?_); go_at_call 36; go_must (refine (HACC.out w3).mono ?_; rintro e w4 ⟨rfl, h5⟩; have HB_4 : Hid (Below W.heap.size W w4) := Lib.hid (blThen HB_3.out h5); have Ki_4 := row_up Ki_3 Li_3 h5; have Li_4 := lt_up Li_3 h5; have Kb_4 := row_up Kb_3 Lb_3 h5; have Lb_4 := lt_up Lb_3 h5; have Kv_4 := row_up Kv_3 Lv_3 h5; have Lv_4 := lt_up Lv_3 h5; have Kc_4 := row_up Kc_3 Lc_3 h5; have Lc_4 := lt_up Lc_3 h5; have Kd6_4 := row_up Kd6_3 Ld6_3 h5; have Ld6_4 := lt_up Ld6_3 h5; clear h5)) | ((with_reducible refine atW w3 ?_); refine wpList_load_part _ _ rfl (by rfl) _ 0 rfl Kv_3.out Tryz.underlying27 rfl #[.bool false, .int .i64 3, .int .i64 1, .slice none 0 0] (by kernel_rfl) (four_at rfl rfl rfl rfl) ?_) | ((with_reducible refine atW w3 ?_); refine wpList_load_part _ _ rfl (by rfl) _ 0 rfl Kb_3.out Tryz.underlying23 rfl #[.int .i64 5, .int .i64 1] (by kernel_rfl) (two_at rfl rfl) ?_) | ((with_reducible refine atW w3 ?_); refine load9 _ rfl (by rfl) _ rfl Kc_3.out rfl ?_) | ((with_reducible refine atW (w2.alloc (.cells #[.int .i64 0, .int .i64 0, .slice none 0 0, .int .i64 0, .int .i64 0, .int .i64 0, .int .i64 0, .int .i64 0, .bool false, .slice none 0 0, .int .i64 0, .int .i64 0, .bool false, .int .i64 0, .int .i64 0, .bool false, .int .i64 0, .int .i64 0, .slice none 0 0, .bool false, .slice none 0 0, .slice none 0 0] 31)) ?_); refine store9 _ _ rfl (by rfl) _ rfl rfl (new_blockC w2 #[.int .i64 0, .int .i64 0, .slice none 0 0, .int .i64 0, .int .i64 0, .int .i64 0, .int .i64 0, .int .i64 0, .bool false, .slice none 0 0, .int .i64 0, .int .i64 0, .bool false, .int .i64 0, .int .i64 0, .bool false, .int .i64 0, .int .i64 0, .slice none 0 0, .bool false, .slice none 0 0, .slice none 0 0] 31) rfl rfl (by simp [Value.oneCell']) ?_; intro w3 h1 h2; have h5 := below_grown9 (blAlloc (Below.refl _ _) _) h2 (Nat.le_refl _); have HB_3 : Hid (Below W.heap.size W w3) := Lib.hid (blThen HB_2.out h5); have Ki_3 := row_up Ki_2 Li_2 h5; have Li_3 := lt_up Li_2 h5; have Kb_3 := row_up Kb_2 Lb_2 h5; have Lb_3 := lt_up Lb_2 h5; have Kv_3 := row_up Kv_2 Lv_2 h5; have Lv_3 := lt_up Lv_2 h5; have Kc_3 := row_up Kc_2 Lc_2 h5; have Lc_3 := lt_up Lc_2 h5; have Kd6_3 := Lib.hid h1; have Ld6_3 : Hid (w2.heap.size < w3.heap.size) := Lib.hid (by have := h2.size; simp only [World.size_alloc] at this; omega); clear h1 h2 h5) | ((with_reducible refine atC w1 ?_); go_at_call 36; go_must (refine (HNO.out w1).mono ?_; rintro e w2 ⟨rfl, h5⟩; have HB_2 : Hid (Below W.heap.size W w2) := Lib.hid (blThen HB_1.out h5); have Ki_2 := row_up Ki_1 Li_1 h5; have Li_2 := lt_up Li_1 h5; have Kb_2 := row_up Kb_1 Lb_1 h5; have Lb_2 := lt_up Lb_1 h5; have Kv_2 := row_up Kv_1 Lv_1 h5; have Lv_2 := lt_up Lv_1 h5; have Kc_2 := row_up Kc_1 Lc_1 h5; have Lc_2 := lt_up Lc_1 h5; clear h5)) | ((with_reducible refine atW w1 ?_); refine wpList_load_part _ _ rfl (by rfl) _ 0 rfl Kv_1.out Tryz.underlying27 rfl #[.bool false, .int .i64 3, .int .i64 1, .slice none 0 0] (by kernel_rfl) (four_at rfl rfl rfl rfl) ?_) | ((with_reducible refine atW w1 ?_); refine wpList_load_part _ _ rfl (by rfl) _ 0 rfl Ki_1.out Tryz.underlying23 rfl #[.int .i64 3, .int .i64 1] (by kernel_rfl) (two_at rfl rfl) ?_) | ((with_reducible refine atW w1 ?_); refine load9 _ rfl (by rfl) _ rfl Kc_1.out rfl ?_))
    go_ret
    exact ⟨rfl, HB_16.out⟩
end SC
end Go.Proofs.YtabeakddkmefgaaGreat

namespace Go.Proofs.YtabeakddkmefgaaGreat
open S3 SN SP
namespace SC
open Go.ChangeShapes Go.WideShapes Go.ChangeAt Go.RowKit Go.Joins Go.Deep
theorem wp_store9 {op : Oper} {a : Act} {w : World} {K : Act → World → Prop} {Q : Exit → Act → World → Prop} (x y : Operand) (ho : op.op = .store 31 x y) (g : Nat) (hx : a.eval x = .pointer (some ⟨g, 0, none⟩)) {cells : Array Value} (hy : a.eval y = .agg cells) {old : Array Value}
    (hg : w.heap[g]? = some (.cells old 31 (0, 0))) (hold : old.size = 22) (hcs : cells.size = 22) (h1 : cells.all (·.oneCell') = true)
    (h : ∀ w', w'.heap[g]? = some (.cells cells 31 (0, 0)) → w.grownBy w' (some g) → K (a.put op.dst undef) w') : op.wp Tryz.prog a w K Q :=
  wp_store_row 31 x y ho g cells hx hy 31 old hg (by rw [hcs]; exact szCmd) (by rw [hold, hcs]) h1 (h _ (setRow_heap w g old cells _ _ hg) ⟨rfl, rfl, rfl, by simp, fun j hj hne => setRow_other w g j cells (fun e => hne (by rw [e]))⟩)
theorem ite_yes9 {c : Prop} [Decidable c] {A B : Prop} (h : c) (x : A) : if c then A else B := by rw [if_pos h]; exact x
def c1F (id x : Stp) (a : List Opr) (d : SD.Dd) : Cm := ⟨id, a, 1, z2, x, true, d, z2, false, z2, val0, false, [], []⟩
theorem first_wit (id x : Stp) (a : List Opr) (d : SD.Dd) : witC (newC id) a x true d = c1F id x a d := by
  unfold witC
  have h : ¬ (!decide ((newC id).ops = []) || decB (newC id)) = true := (show ¬ (!decide (([] : List Opr) = []) || (decide ((0 : Int) = 2) || decide ((0 : Int) = 3))) = true by decide)
  rw [if_neg h]
  rfl
theorem first_old (id x : Stp) (a : List Opr) (d : SD.Dd) (ha : checkP a = 0) : (c1F id x a d).ops ≠ [] := ops_ne ha
theorem first_may {id x : Stp} {a : List Opr} {d : SD.Dd} (hi : S1.isS id = true) (ha : checkP a = 0) (hx : S1.isS x = true) (hl : S1.ltS x id = false) (hd : SD.checkD d = 0) : checkC (c1F id x a d) = 0 := by
  have h := (grow_wit (new_may hi) true ha hx hl hd).may
  rw [first_wit] at h
  unfold checkC
  rw [if_pos h]
theorem first_top {id x : Stp} {a : List Opr} {d : SD.Dd} (hi : S1.isS id = true) (hx : S1.isS x = true) (hl : S1.ltS x id = false) : topC (c1F id x a d) = x := by
  show S1.maxL [id, x, z2, z2] = x
  have h1 := S1.maxL_mem [id, x, z2, z2] (by simp)
  have h2 := S1.maxL_ge [id, x, z2, z2] x (by simp)
  generalize S1.maxL [id, x, z2, z2] = m at *
  have hx0 := lt_z2 hx
  rw [S1.ltS_not] at h2 hl hx0
  have hz : z2 = (0, 0) := rfl
  have key : ∀ y : Stp, m = y → ¬ (x.1 < y.1 ∨ x.1 = y.1 ∧ x.2 < y.2) → m = x := fun y e h => by
    subst e
    exact Prod.ext (by omega) (by omega)
  simp only [List.mem_cons, List.not_mem_nil, or_false] at h1
  rcases h1 with h | h | h | h
  · exact key _ h hl
  · exact h
  · exact key _ h hx0
  · exact key _ h hx0
theorem first_few {id x : Stp} {a : List Opr} {d : SD.Dd} (ha : checkP a = 0) (hd : SD.checkD d = 0) : FewC (c1F id x a d) := by
  have h1 := (check_kd ha).1
  have h2 := SD.checkD_ok.1 hd
  exact ⟨(show a.length ≤ _ by omega), ⟨(show d.length ≤ _ by omega), (show SD.idsN d ≤ _ by omega)⟩, ⟨show ([] : SD.Dd).length ≤ 20000 by decide, show SD.idsN [] ≤ 100000 by decide⟩, show ([] : List Wrt).length ≤ 20000 by decide, show ([] : Al Nat).length ≤ 20000 by decide⟩
theorem few_d {d : SD.Dd} (hd : SD.checkD d = 0) : FewV d := by
  have h2 := SD.checkD_ok.1 hd
  exact ⟨by omega, by omega⟩
end SC
end Go.Proofs.YtabeakddkmefgaaGreat

namespace Go.Proofs.YtabeakddkmefgaaGreat
open S3 SN SP
namespace SC
open Go.ChangeShapes Go.WideShapes Go.ChangeAt Go.RowKit Go.Joins Go.Deep
set_option maxRecDepth 100000 in
set_option maxHeartbeats 16000000 in
theorem cmdFirst_walk (id x y : Stp) (va vb : Value) (a b : List Opr) (da : Option Addr) (dc : Nat) (F : List SD.Dp) (W : World) (hma : a.length ≤ 9223372036854775807) (hna : ∀ o ∈ a, o.2.2.2 < 18446744073709551616) (haa : SlG eO W va a) (hmb : b.length ≤ 9223372036854775807) (hnb : ∀ o ∈ b, o.2.2.2 < 18446744073709551616) (hab : SlG eO W vb b) (hmd : F.length ≤ 9223372036854775807) (hid : ∀ s ∈ F, s.ids.length ≤ 140737488355328) (hd : SD.Dl W da F) (hdn : da = none → dc = 0) (hwf : ∀ x ∈ SD.toD F, ∀ i ∈ x.2, SD.WfT i) :
    Calls Tryz.prog 8 #[.agg #[.int .i64 id.1, .int .i64 id.2], va, vb, .agg #[.int .i64 x.1, .int .i64 x.2], .agg #[.int .i64 y.1, .int .i64 y.2], .slice da F.length dc] W fun e w' => e = .returned (.bool true) ∧ Below W.heap.size W w' := by
  obtain ⟨i1, i2⟩ := id
  obtain ⟨x1, x2⟩ := x
  obtain ⟨y1, y2⟩ := y
  obtain ⟨aa, ac, rfl⟩ := haa.form
  obtain ⟨ba, bc, rfl⟩ := hab.form
  have HMa := Lib.hid hma
  have HMb := Lib.hid hmb
  have HMd := Lib.hid hmd
  have HNa := Lib.hid hna
  have HNb := Lib.hid hnb
  have HID := Lib.hid hid
  have HDN := Lib.hid hdn
  have HWF := Lib.hid hwf
  have HAa_0 := Lib.hid (haa.later (show Below W.heap.size W (((W.alloc (.cells #[.int .i64 i1, .int .i64 i2] 23)).alloc (.cells #[.int .i64 x1, .int .i64 x2] 23)).alloc (.cells #[.int .i64 y1, .int .i64 y2] 23)) from blAlloc (blAlloc (blAlloc (Below.refl _ _) _) _) _))
  have HAb_0 := Lib.hid (hab.later (show Below W.heap.size W (((W.alloc (.cells #[.int .i64 i1, .int .i64 i2] 23)).alloc (.cells #[.int .i64 x1, .int .i64 x2] 23)).alloc (.cells #[.int .i64 y1, .int .i64 y2] 23)) from blAlloc (blAlloc (blAlloc (Below.refl _ _) _) _) _))
  have HD_0 := Lib.hid (hd.later (show Below W.heap.size W (((W.alloc (.cells #[.int .i64 i1, .int .i64 i2] 23)).alloc (.cells #[.int .i64 x1, .int .i64 x2] 23)).alloc (.cells #[.int .i64 y1, .int .i64 y2] 23)) from blAlloc (blAlloc (blAlloc (Below.refl _ _) _) _) _))
  clear hma hmb hmd hna hnb hid hdn hwf haa hab hd
  simp only
  have HN := Lib.hid (fun i o (h : ([(.cells #[.int .i64 i1, .int .i64 i2] 23), (.cells #[.int .i64 x1, .int .i64 x2] 23), (.cells #[.int .i64 y1, .int .i64 y2] 23)] : List Obj)[i]? = some o) => nth_box W [(.cells #[.int .i64 i1, .int .i64 i2] 23), (.cells #[.int .i64 x1, .int .i64 x2] 23), (.cells #[.int .i64 y1, .int .i64 y2] 23)] i o h)
  have HSZ : Hid (W.heap.size + 3 = (((W.alloc (.cells #[.int .i64 i1, .int .i64 i2] 23)).alloc (.cells #[.int .i64 x1, .int .i64 x2] 23)).alloc (.cells #[.int .i64 y1, .int .i64 y2] 23)).heap.size) := Lib.hid (HN.out 0 _ rfl).2
  have Ki_0 : Hid ((((W.alloc (.cells #[.int .i64 i1, .int .i64 i2] 23)).alloc (.cells #[.int .i64 x1, .int .i64 x2] 23)).alloc (.cells #[.int .i64 y1, .int .i64 y2] 23)).heap[W.heap.size]? = some (.cells #[.int .i64 i1, .int .i64 i2] 23 (0, 0))) := Lib.hid (HN.out 0 _ rfl).1
  have Li_0 : Hid (W.heap.size < (((W.alloc (.cells #[.int .i64 i1, .int .i64 i2] 23)).alloc (.cells #[.int .i64 x1, .int .i64 x2] 23)).alloc (.cells #[.int .i64 y1, .int .i64 y2] 23)).heap.size) := Lib.hid (by have := HSZ.out; omega)
  have Kx_0 : Hid ((((W.alloc (.cells #[.int .i64 i1, .int .i64 i2] 23)).alloc (.cells #[.int .i64 x1, .int .i64 x2] 23)).alloc (.cells #[.int .i64 y1, .int .i64 y2] 23)).heap[(W.heap.size + 1)]? = some (.cells #[.int .i64 x1, .int .i64 x2] 23 (0, 0))) := Lib.hid (HN.out 1 _ rfl).1
  have Lx_0 : Hid ((W.heap.size + 1) < (((W.alloc (.cells #[.int .i64 i1, .int .i64 i2] 23)).alloc (.cells #[.int .i64 x1, .int .i64 x2] 23)).alloc (.cells #[.int .i64 y1, .int .i64 y2] 23)).heap.size) := Lib.hid (by have := HSZ.out; omega)
  have Ky_0 : Hid ((((W.alloc (.cells #[.int .i64 i1, .int .i64 i2] 23)).alloc (.cells #[.int .i64 x1, .int .i64 x2] 23)).alloc (.cells #[.int .i64 y1, .int .i64 y2] 23)).heap[(W.heap.size + 2)]? = some (.cells #[.int .i64 y1, .int .i64 y2] 23 (0, 0))) := Lib.hid (HN.out 2 _ rfl).1
  have Ly_0 : Hid ((W.heap.size + 2) < (((W.alloc (.cells #[.int .i64 i1, .int .i64 i2] 23)).alloc (.cells #[.int .i64 x1, .int .i64 x2] 23)).alloc (.cells #[.int .i64 y1, .int .i64 y2] 23)).heap.size) := Lib.hid (by have := HSZ.out; omega)
  have HB_0 : Hid (Below W.heap.size W (((W.alloc (.cells #[.int .i64 i1, .int .i64 i2] 23)).alloc (.cells #[.int .i64 x1, .int .i64 x2] 23)).alloc (.cells #[.int .i64 y1, .int .i64 y2] 23))) := Lib.hid (blAlloc (blAlloc (blAlloc (Below.refl _ _) _) _) _)
  clear HN
  go_enter Tryz.func8, Tryz.ntmps8
  go_upto_region 1 with fail
  generalize (((W.alloc (.cells #[.int .i64 i1, .int .i64 i2] 23)).alloc (.cells #[.int .i64 x1, .int .i64 x2] 23)).alloc (.cells #[.int .i64 y1, .int .i64 y2] 23)) = w0 at *
  have hsz0 : W.heap.size + 3 ≤ w0.heap.size := Nat.le_of_eq HSZ.out
  clear HSZ
  go_wp2_with (first | go_skip | ((with_reducible refine atW w0 ?_); refine wpList_load_part _ _ rfl (by rfl) _ 0 rfl Ki_0.out Tryz.underlying23 rfl #[.int .i64 i1, .int .i64 i2] (by kernel_rfl) (two_at rfl rfl) ?_))
  cases hc : S1.isS (i1, i2)
  · go_wp2_with (first | go_skip | ((with_reducible refine atC w1 ?_); go_at_call 10; go_must (refine (live9_any w1).mono ?_; rintro e w2 ⟨rfl, h5⟩; have HB_2 : Hid (Below W.heap.size W w2) := Lib.hid (blThen HB_1.out h5); have Ki_2 := row_up Ki_1 Li_1 h5; have Li_2 := lt_up Li_1 h5; have Kx_2 := row_up Kx_1 Lx_1 h5; have Lx_2 := lt_up Lx_1 h5; have Ky_2 := row_up Ky_1 Ly_1 h5; have Ly_2 := lt_up Ly_1 h5; have HAa_2 := Lib.hid (HAa_1.out.later h5); have HAb_2 := Lib.hid (HAb_1.out.later h5); have HD_2 := Lib.hid (HD_1.out.later h5); clear h5)) | ((with_reducible refine atC w0 ?_); go_at_call 24; go_must (refine (S1.is_any i1 i2 w0).mono ?_; rw [hc]; rintro e w1 ⟨rfl, h5⟩; have h5 := below_grow (Below.refl _ _) h5; have HB_1 : Hid (Below W.heap.size W w1) := Lib.hid (blThen HB_0.out h5); have Ki_1 := row_up Ki_0 Li_0 h5; have Li_1 := lt_up Li_0 h5; have Kx_1 := row_up Kx_0 Lx_0 h5; have Lx_1 := lt_up Lx_0 h5; have Ky_1 := row_up Ky_0 Ly_0 h5; have Ly_1 := lt_up Ly_0 h5; have HAa_1 := Lib.hid (HAa_0.out.later h5); have HAb_1 := Lib.hid (HAb_0.out.later h5); have HD_1 := Lib.hid (HD_0.out.later h5); clear h5)))
    go_ret
    exact ⟨rfl, HB_2.out⟩
  · have HIS := Lib.hid hc
    clear hc
    go_wp2_with (first | go_skip | ((with_reducible refine atC w0 ?_); go_at_call 24; go_must (refine (S1.is_any i1 i2 w0).mono ?_; rw [HIS.out]; rintro e w1 ⟨rfl, h5⟩; have h5 := below_grow (Below.refl _ _) h5; have HB_1 : Hid (Below W.heap.size W w1) := Lib.hid (blThen HB_0.out h5); have Ki_1 := row_up Ki_0 Li_0 h5; have Li_1 := lt_up Li_0 h5; have Kx_1 := row_up Kx_0 Lx_0 h5; have Lx_1 := lt_up Lx_0 h5; have Ky_1 := row_up Ky_0 Ly_0 h5; have Ly_1 := lt_up Ly_0 h5; have HAa_1 := Lib.hid (HAa_0.out.later h5); have HAb_1 := Lib.hid (HAb_0.out.later h5); have HD_1 := Lib.hid (HD_0.out.later h5); clear h5)))
    by_cases hc : checkP a = 0
    rotate_left
    · have hb : ((checkP a == 0) = false) := by simpa using hc
      have hd : ((checkP a != 0) = true) := by simpa using hc
      go_wp2_with (first | go_skip | ((with_reducible refine atC w2 ?_); go_at_call 10; go_must (refine (live9_any w2).mono ?_; rintro e w3 ⟨rfl, h5⟩; have HB_3 : Hid (Below W.heap.size W w3) := Lib.hid (blThen HB_2.out h5); have Ki_3 := row_up Ki_2 Li_2 h5; have Li_3 := lt_up Li_2 h5; have Kx_3 := row_up Kx_2 Lx_2 h5; have Lx_3 := lt_up Lx_2 h5; have Ky_3 := row_up Ky_2 Ly_2 h5; have Ly_3 := lt_up Ly_2 h5; have HAa_3 := Lib.hid (HAa_2.out.later h5); have HAb_3 := Lib.hid (HAb_2.out.later h5); have HD_3 := Lib.hid (HD_2.out.later h5); clear h5)) | ((with_reducible refine atC w1 ?_); go_at_call 37; go_must (refine (refcheck8w_any _ a w1 HMa.out HAa_1.out HNa.out).mono ?_; rintro e w2 ⟨rfl, h5⟩; have HB_2 : Hid (Below W.heap.size W w2) := Lib.hid (blThen HB_1.out h5); have Ki_2 := row_up Ki_1 Li_1 h5; have Li_2 := lt_up Li_1 h5; have Kx_2 := row_up Kx_1 Lx_1 h5; have Lx_2 := lt_up Lx_1 h5; have Ky_2 := row_up Ky_1 Ly_1 h5; have Ly_2 := lt_up Ly_1 h5; have HAa_2 := Lib.hid (HAa_1.out.later h5); have HAb_2 := Lib.hid (HAb_1.out.later h5); have HD_2 := Lib.hid (HD_1.out.later h5); clear h5)))
      go_ret
      exact ⟨rfl, HB_3.out⟩
    · have HCA := Lib.hid hc
      clear hc
      go_wp2_with (first | go_skip | ((with_reducible refine atC w1 ?_); go_at_call 37; go_must (refine (refcheck8w_any _ a w1 HMa.out HAa_1.out HNa.out).mono ?_; rw [HCA.out]; rintro e w2 ⟨rfl, h5⟩; have HB_2 : Hid (Below W.heap.size W w2) := Lib.hid (blThen HB_1.out h5); have Ki_2 := row_up Ki_1 Li_1 h5; have Li_2 := lt_up Li_1 h5; have Kx_2 := row_up Kx_1 Lx_1 h5; have Lx_2 := lt_up Lx_1 h5; have Ky_2 := row_up Ky_1 Ly_1 h5; have Ly_2 := lt_up Ly_1 h5; have HAa_2 := Lib.hid (HAa_1.out.later h5); have HAb_2 := Lib.hid (HAb_1.out.later h5); have HD_2 := Lib.hid (HD_1.out.later h5); clear h5)))
      by_cases hc : checkP b = 0
      rotate_left
      · have hb : ((checkP b == 0) = false) := by simpa using hc
        have hd : ((checkP b != 0) = true) := by simpa using hc
        go_wp2_with (first | go_skip | ((with_reducible refine atC w3 ?_); go_at_call 10; go_must (refine (live9_any w3).mono ?_; rintro e w4 ⟨rfl, h5⟩; have HB_4 : Hid (Below W.heap.size W w4) := Lib.hid (blThen HB_3.out h5); have Ki_4 := row_up Ki_3 Li_3 h5; have Li_4 := lt_up Li_3 h5; have Kx_4 := row_up Kx_3 Lx_3 h5; have Lx_4 := lt_up Lx_3 h5; have Ky_4 := row_up Ky_3 Ly_3 h5; have Ly_4 := lt_up Ly_3 h5; have HAa_4 := Lib.hid (HAa_3.out.later h5); have HAb_4 := Lib.hid (HAb_3.out.later h5); have HD_4 := Lib.hid (HD_3.out.later h5); clear h5)) | ((with_reducible refine atC w2 ?_); go_at_call 37; go_must (refine (refcheck8w_any _ b w2 HMb.out HAb_2.out HNb.out).mono ?_; rintro e w3 ⟨rfl, h5⟩; have HB_3 : Hid (Below W.heap.size W w3) := Lib.hid (blThen HB_2.out h5); have Ki_3 := row_up Ki_2 Li_2 h5; have Li_3 := lt_up Li_2 h5; have Kx_3 := row_up Kx_2 Lx_2 h5; have Lx_3 := lt_up Lx_2 h5; have Ky_3 := row_up Ky_2 Ly_2 h5; have Ly_3 := lt_up Ly_2 h5; have HAa_3 := Lib.hid (HAa_2.out.later h5); have HAb_3 := Lib.hid (HAb_2.out.later h5); have HD_3 := Lib.hid (HD_2.out.later h5); clear h5)))
        go_ret
        exact ⟨rfl, HB_4.out⟩
      · have HCB := Lib.hid hc
        clear hc
        go_wp2_with (first | go_skip | ((with_reducible refine atW w3 ?_); refine wpList_load_part _ _ rfl (by rfl) _ 0 rfl Kx_3.out Tryz.underlying23 rfl #[.int .i64 x1, .int .i64 x2] (by kernel_rfl) (two_at rfl rfl) ?_) | ((with_reducible refine atC w2 ?_); go_at_call 37; go_must (refine (refcheck8w_any _ b w2 HMb.out HAb_2.out HNb.out).mono ?_; rw [HCB.out]; rintro e w3 ⟨rfl, h5⟩; have HB_3 : Hid (Below W.heap.size W w3) := Lib.hid (blThen HB_2.out h5); have Ki_3 := row_up Ki_2 Li_2 h5; have Li_3 := lt_up Li_2 h5; have Kx_3 := row_up Kx_2 Lx_2 h5; have Lx_3 := lt_up Lx_2 h5; have Ky_3 := row_up Ky_2 Ly_2 h5; have Ly_3 := lt_up Ly_2 h5; have HAa_3 := Lib.hid (HAa_2.out.later h5); have HAb_3 := Lib.hid (HAb_2.out.later h5); have HD_3 := Lib.hid (HD_2.out.later h5); clear h5)))
        cases hc : S1.isS (x1, x2)
        · go_wp2_with (first | go_skip | ((with_reducible refine atC w4 ?_); go_at_call 10; go_must (refine (live9_any w4).mono ?_; rintro e w5 ⟨rfl, h5⟩; have HB_5 : Hid (Below W.heap.size W w5) := Lib.hid (blThen HB_4.out h5); have Ki_5 := row_up Ki_4 Li_4 h5; have Li_5 := lt_up Li_4 h5; have Kx_5 := row_up Kx_4 Lx_4 h5; have Lx_5 := lt_up Lx_4 h5; have Ky_5 := row_up Ky_4 Ly_4 h5; have Ly_5 := lt_up Ly_4 h5; have HAa_5 := Lib.hid (HAa_4.out.later h5); have HAb_5 := Lib.hid (HAb_4.out.later h5); have HD_5 := Lib.hid (HD_4.out.later h5); clear h5)) | ((with_reducible refine atC w3 ?_); go_at_call 24; go_must (refine (S1.is_any x1 x2 w3).mono ?_; rw [hc]; rintro e w4 ⟨rfl, h5⟩; have h5 := below_grow (Below.refl _ _) h5; have HB_4 : Hid (Below W.heap.size W w4) := Lib.hid (blThen HB_3.out h5); have Ki_4 := row_up Ki_3 Li_3 h5; have Li_4 := lt_up Li_3 h5; have Kx_4 := row_up Kx_3 Lx_3 h5; have Lx_4 := lt_up Lx_3 h5; have Ky_4 := row_up Ky_3 Ly_3 h5; have Ly_4 := lt_up Ly_3 h5; have HAa_4 := Lib.hid (HAa_3.out.later h5); have HAb_4 := Lib.hid (HAb_3.out.later h5); have HD_4 := Lib.hid (HD_3.out.later h5); clear h5)))
          go_ret
          exact ⟨rfl, HB_5.out⟩
        · have HXS := Lib.hid hc
          clear hc
          go_wp2_with (first | go_skip | ((with_reducible refine atW w4 ?_); refine wpList_load_part _ _ rfl (by rfl) _ 0 rfl Ki_4.out Tryz.underlying23 rfl #[.int .i64 i1, .int .i64 i2] (by kernel_rfl) (two_at rfl rfl) ?_) | ((with_reducible refine atW w4 ?_); refine wpList_load_part _ _ rfl (by rfl) _ 0 rfl Kx_4.out Tryz.underlying23 rfl #[.int .i64 x1, .int .i64 x2] (by kernel_rfl) (two_at rfl rfl) ?_) | ((with_reducible refine atC w3 ?_); go_at_call 24; go_must (refine (S1.is_any x1 x2 w3).mono ?_; rw [HXS.out]; rintro e w4 ⟨rfl, h5⟩; have h5 := below_grow (Below.refl _ _) h5; have HB_4 : Hid (Below W.heap.size W w4) := Lib.hid (blThen HB_3.out h5); have Ki_4 := row_up Ki_3 Li_3 h5; have Li_4 := lt_up Li_3 h5; have Kx_4 := row_up Kx_3 Lx_3 h5; have Lx_4 := lt_up Lx_3 h5; have Ky_4 := row_up Ky_3 Ly_3 h5; have Ly_4 := lt_up Ly_3 h5; have HAa_4 := Lib.hid (HAa_3.out.later h5); have HAb_4 := Lib.hid (HAb_3.out.later h5); have HD_4 := Lib.hid (HD_3.out.later h5); clear h5)))
          cases hc : S1.ltS (x1, x2) (i1, i2)
          · have HXI := Lib.hid hc
            clear hc
            go_wp2_with (first | go_skip | ((with_reducible refine atW w5 ?_); refine wpList_load_part _ _ rfl (by rfl) _ 0 rfl Ky_5.out Tryz.underlying23 rfl #[.int .i64 y1, .int .i64 y2] (by kernel_rfl) (two_at rfl rfl) ?_) | ((with_reducible refine atC w4 ?_); go_at_call 28; go_must (refine (S1.less_any x1 x2 i1 i2 w4).mono ?_; rw [HXI.out]; rintro e w5 ⟨rfl, h5⟩; have h5 := below_grow (Below.refl _ _) h5; have HB_5 : Hid (Below W.heap.size W w5) := Lib.hid (blThen HB_4.out h5); have Ki_5 := row_up Ki_4 Li_4 h5; have Li_5 := lt_up Li_4 h5; have Kx_5 := row_up Kx_4 Lx_4 h5; have Lx_5 := lt_up Lx_4 h5; have Ky_5 := row_up Ky_4 Ly_4 h5; have Ly_5 := lt_up Ly_4 h5; have HAa_5 := Lib.hid (HAa_4.out.later h5); have HAb_5 := Lib.hid (HAb_4.out.later h5); have HD_5 := Lib.hid (HD_4.out.later h5); clear h5)))
            cases hc : S1.isS (y1, y2)
            · go_wp2_with (first | go_skip | ((with_reducible refine atC w6 ?_); go_at_call 10; go_must (refine (live9_any w6).mono ?_; rintro e w7 ⟨rfl, h5⟩; have HB_7 : Hid (Below W.heap.size W w7) := Lib.hid (blThen HB_6.out h5); have Ki_7 := row_up Ki_6 Li_6 h5; have Li_7 := lt_up Li_6 h5; have Kx_7 := row_up Kx_6 Lx_6 h5; have Lx_7 := lt_up Lx_6 h5; have Ky_7 := row_up Ky_6 Ly_6 h5; have Ly_7 := lt_up Ly_6 h5; have HAa_7 := Lib.hid (HAa_6.out.later h5); have HAb_7 := Lib.hid (HAb_6.out.later h5); have HD_7 := Lib.hid (HD_6.out.later h5); clear h5)) | ((with_reducible refine atC w5 ?_); go_at_call 24; go_must (refine (S1.is_any y1 y2 w5).mono ?_; rw [hc]; rintro e w6 ⟨rfl, h5⟩; have h5 := below_grow (Below.refl _ _) h5; have HB_6 : Hid (Below W.heap.size W w6) := Lib.hid (blThen HB_5.out h5); have Ki_6 := row_up Ki_5 Li_5 h5; have Li_6 := lt_up Li_5 h5; have Kx_6 := row_up Kx_5 Lx_5 h5; have Lx_6 := lt_up Lx_5 h5; have Ky_6 := row_up Ky_5 Ly_5 h5; have Ly_6 := lt_up Ly_5 h5; have HAa_6 := Lib.hid (HAa_5.out.later h5); have HAb_6 := Lib.hid (HAb_5.out.later h5); have HD_6 := Lib.hid (HD_5.out.later h5); clear h5)))
              go_ret
              exact ⟨rfl, HB_7.out⟩
            · have HYS := Lib.hid hc
              clear hc
              go_wp2_with (first | go_skip | ((with_reducible refine atC w5 ?_); go_at_call 24; go_must (refine (S1.is_any y1 y2 w5).mono ?_; rw [HYS.out]; rintro e w6 ⟨rfl, h5⟩; have h5 := below_grow (Below.refl _ _) h5; have HB_6 : Hid (Below W.heap.size W w6) := Lib.hid (blThen HB_5.out h5); have Ki_6 := row_up Ki_5 Li_5 h5; have Li_6 := lt_up Li_5 h5; have Kx_6 := row_up Kx_5 Lx_5 h5; have Lx_6 := lt_up Lx_5 h5; have Ky_6 := row_up Ky_5 Ly_5 h5; have Ly_6 := lt_up Ly_5 h5; have HAa_6 := Lib.hid (HAa_5.out.later h5); have HAb_6 := Lib.hid (HAb_5.out.later h5); have HD_6 := Lib.hid (HD_5.out.later h5); clear h5)))
              by_cases hc : SD.checkD (SD.toD F) = 0
              rotate_left
              · have hb : ((SD.checkD (SD.toD F) == 0) = false) := by simpa using hc
                have hd : ((SD.checkD (SD.toD F) != 0) = true) := by simpa using hc
                go_wp2_with (first | go_skip | ((with_reducible refine atC w7 ?_); go_at_call 10; go_must (refine (live9_any w7).mono ?_; rintro e w8 ⟨rfl, h5⟩; have HB_8 : Hid (Below W.heap.size W w8) := Lib.hid (blThen HB_7.out h5); have Ki_8 := row_up Ki_7 Li_7 h5; have Li_8 := lt_up Li_7 h5; have Kx_8 := row_up Kx_7 Lx_7 h5; have Lx_8 := lt_up Lx_7 h5; have Ky_8 := row_up Ky_7 Ly_7 h5; have Ly_8 := lt_up Ly_7 h5; have HAa_8 := Lib.hid (HAa_7.out.later h5); have HAb_8 := Lib.hid (HAb_7.out.later h5); have HD_8 := Lib.hid (HD_7.out.later h5); clear h5)) | ((with_reducible refine atC w6 ?_); go_at_call 45; go_must (refine (refcheckw_any da dc F w6 HMd.out HID.out HD_6.out).mono ?_; rintro e w7 ⟨rfl, h5⟩; have HB_7 : Hid (Below W.heap.size W w7) := Lib.hid (blThen HB_6.out h5); have Ki_7 := row_up Ki_6 Li_6 h5; have Li_7 := lt_up Li_6 h5; have Kx_7 := row_up Kx_6 Lx_6 h5; have Lx_7 := lt_up Lx_6 h5; have Ky_7 := row_up Ky_6 Ly_6 h5; have Ly_7 := lt_up Ly_6 h5; have HAa_7 := Lib.hid (HAa_6.out.later h5); have HAb_7 := Lib.hid (HAb_6.out.later h5); have HD_7 := Lib.hid (HD_6.out.later h5); clear h5)))
                go_ret
                exact ⟨rfl, HB_8.out⟩
              · have HCD := Lib.hid hc
                have HFV := Lib.hid (few_d hc)
                have HFW := Lib.hid (few_v rfl (few_d hc))
                go_wp2_with (first | go_skip | ((with_reducible refine atC w6 ?_); go_at_call 45; go_must (refine (refcheckw_any da dc F w6 HMd.out HID.out HD_6.out).mono ?_; rw [HCD.out]; rintro e w7 ⟨rfl, h5⟩; have HB_7 : Hid (Below W.heap.size W w7) := Lib.hid (blThen HB_6.out h5); have Ki_7 := row_up Ki_6 Li_6 h5; have Li_7 := lt_up Li_6 h5; have Kx_7 := row_up Kx_6 Lx_6 h5; have Lx_7 := lt_up Lx_6 h5; have Ky_7 := row_up Ky_6 Ly_6 h5; have Ly_7 := lt_up Ly_6 h5; have HAa_7 := Lib.hid (HAa_6.out.later h5); have HAb_7 := Lib.hid (HAb_6.out.later h5); have HD_7 := Lib.hid (HD_6.out.later h5); clear h5)))
                by_cases hc : 40 < (SD.allD (SD.toD F)).length
                · have hb : decide ((40 : Int) < ((SD.allD (SD.toD F)).length : Int)) = true := decide_eq_true (by omega)
                  have hb2 : (40 : Int) < ((SD.allD (SD.toD F)).length : Int) := by omega
                  go_wp2_with (first | go_skip | ((with_reducible refine atC w8 ?_); go_at_call 10; go_must (refine (live9_any w8).mono ?_; rintro e w9 ⟨rfl, h5⟩; have HB_9 : Hid (Below W.heap.size W w9) := Lib.hid (blThen HB_8.out h5); have Ki_9 := row_up Ki_8 Li_8 h5; have Li_9 := lt_up Li_8 h5; have Kx_9 := row_up Kx_8 Lx_8 h5; have Lx_9 := lt_up Lx_8 h5; have Ky_9 := row_up Ky_8 Ly_8 h5; have Ly_9 := lt_up Ly_8 h5; have HAa_9 := Lib.hid (HAa_8.out.later h5); have HAb_9 := Lib.hid (HAb_8.out.later h5); have HD_9 := Lib.hid (HD_8.out.later h5); clear h5)) | ((with_reducible refine atC w7 ?_); go_at_call 33; go_must (refine (SD.refall_any da dc F w7 HFW.out.1.1 HFW.out.2 HD_7.out).mono ?_; intro e w8 h; unfold S1.RetA at h; obtain ⟨xa, xc, rfl, _, _, _, h5⟩ := h; have HB_8 : Hid (Below W.heap.size W w8) := Lib.hid (blThen HB_7.out h5); have Ki_8 := row_up Ki_7 Li_7 h5; have Li_8 := lt_up Li_7 h5; have Kx_8 := row_up Kx_7 Lx_7 h5; have Lx_8 := lt_up Lx_7 h5; have Ky_8 := row_up Ky_7 Ly_7 h5; have Ly_8 := lt_up Ly_7 h5; have HAa_8 := Lib.hid (HAa_7.out.later h5); have HAb_8 := Lib.hid (HAb_7.out.later h5); have HD_8 := Lib.hid (HD_7.out.later h5); clear h5)))
                  go_ret
                  exact ⟨rfl, HB_9.out⟩
                · have hb : decide ((40 : Int) < ((SD.allD (SD.toD F)).length : Int)) = false := decide_eq_false (by omega)
                  have hb2 : ¬ (40 : Int) < ((SD.allD (SD.toD F)).length : Int) := by omega
                  go_upto_region 3 with (first | go_skip | ((with_reducible refine atC w7 ?_); go_at_call 33; go_must (refine (SD.refall_any da dc F w7 HFW.out.1.1 HFW.out.2 HD_7.out).mono ?_; intro e w8 h; unfold S1.RetA at h; obtain ⟨xa, xc, rfl, _, _, _, h5⟩ := h; have HB_8 : Hid (Below W.heap.size W w8) := Lib.hid (blThen HB_7.out h5); have Ki_8 := row_up Ki_7 Li_7 h5; have Li_8 := lt_up Li_7 h5; have Kx_8 := row_up Kx_7 Lx_7 h5; have Lx_8 := lt_up Lx_7 h5; have Ky_8 := row_up Ky_7 Ly_7 h5; have Ly_8 := lt_up Ly_7 h5; have HAa_8 := Lib.hid (HAa_7.out.later h5); have HAb_8 := Lib.hid (HAb_7.out.later h5); have HD_8 := Lib.hid (HD_7.out.later h5); clear h5)))
                  have HMAY := Lib.hid (first_may HIS.out HCA.out HXS.out HXI.out HCD.out)
                  have HTOP := Lib.hid (first_top (a := a) (d := SD.toD F) HIS.out HXS.out HXI.out)
                  have HFEW := Lib.hid (first_few (id := (i1, i2)) (x := (x1, x2)) HCA.out HCD.out)
                  have HOLD := Lib.hid (first_old (i1, i2) (x1, x2) a (SD.toD F) HCA.out)
                  have KS : Hid (∀ Y : World, Below w8.heap.size w8 Y → Y.cell? ⟨W.heap.size, 0, none⟩ = some (.int .i64 i1) ∧ Y.cell? ⟨W.heap.size, 1, none⟩ = some (.int .i64 i2) ∧ Y.cell? ⟨W.heap.size + 1, 0, none⟩ = some (.int .i64 x1) ∧ Y.cell? ⟨W.heap.size + 1, 1, none⟩ = some (.int .i64 x2)) := Lib.hid (fun Y hY => by
                    have p := (hY.block W.heap.size Li_8.out).trans Ki_8.out
                    have q := (hY.block (W.heap.size + 1) Lx_8.out).trans Kx_8.out
                    exact ⟨cell_row p 0 _ rfl, cell_row p 1 _ rfl, cell_row q 0 _ rfl, cell_row q 1 _ rfl⟩)
                  have HWIT : Hid (∀ Y : World, Below w8.heap.size w8 Y → Calls Tryz.prog 44 #[.agg #[.int .i64 i1, .int .i64 i2, .slice none 0 0, .int .i64 0, .int .i64 0, .int .i64 0, .int .i64 0, .int .i64 0, .bool false, .slice none 0 0, .int .i64 0, .int .i64 0, .bool false, .int .i64 0, .int .i64 0, .bool false, .int .i64 0, .int .i64 0, .slice none 0 0, .bool false, .slice none 0 0, .slice none 0 0], .slice aa a.length ac, .agg #[.int .i64 x1, .int .i64 x2], .bool true, .slice da F.length dc] Y (RetWi Y (c1F (i1, i2) (x1, x2) a (SD.toD F)) nilL (.slice aa a.length ac) (SD.toD F))) := Lib.hid (fun Y hY => by
                    have h := witness_new (newC (i1, i2)) nilL a (.slice aa a.length ac) (x1, x2) true (SD.toD F) (.slice da F.length dc) Y (nilL_at _ _) rfl rfl (HAa_8.out.later hY) ⟨da, dc, F, rfl, HD_8.out.later hY, rfl, HDN.out⟩ HFV.out HWF.out
                    rw [first_wit] at h
                    exact h)
                  go_cut [13] from 55 to 60 (fun s13 wx => ∃ (k : Nat) (l : Pl), s13 = .pointer (some ⟨k, 0, none⟩) ∧ k < wx.heap.size ∧ wx.heap[k]? = some (.cells #[.int .i64 i1, .int .i64 i2, l.o, .int .i64 1, .int .i64 0, .int .i64 0, .int .i64 x1, .int .i64 x2, .bool true, l.s, .int .i64 0, .int .i64 0, .bool false, .int .i64 0, .int .i64 0, .bool false, .int .i64 0, .int .i64 0, l.d, .bool false, l.w, l.p] 31 (0, 0)) ∧ CmAt wx (c1F (i1, i2) (x1, x2) a (SD.toD F)) l ∧ Below w8.heap.size w8 wx)
                  case first =>
                    refine wp_region_held_drew (S := fun Y => Y.cell? ⟨W.heap.size, 0, none⟩ = some (.int .i64 i1) ∧ Y.cell? ⟨W.heap.size, 1, none⟩ = some (.int .i64 i2) ∧ Y.cell? ⟨W.heap.size + 1, 0, none⟩ = some (.int .i64 x1) ∧ Y.cell? ⟨W.heap.size + 1, 1, none⟩ = some (.int .i64 x2)) (by kernel_rfl) (KS.out _ (Below.refl w8.heap.size w8).drew) (fun hHeld => ?_)
                    refine wpAnyH_take (i := 0) (oi := {dst:=some 55,op:=Op.load 23 (Operand.tmp 6),type:=23, pos := "law.go:234",after:=#[],guard:=none }) (v := ?_) rfl (by kernel_rfl) (by kernel_rfl) (by kernel_rfl) (fun _ _ _ h => h) (Or.inl ⟨by rfl, ?_⟩) (by assumption) ?_
                    rotate_left
                    · intro w hSw
                      try dsimp only at hSw
                      go_simp
                      try with_reducible rfl
                    try simp only [Act.put, List.setIfInBounds_toArray, List.set_cons_zero, List.set_cons_succ]
                    refine wpAnyH_take (i := 2) (oi := {dst:=some 57,op:=Op.move (Operand.tmp 1),type:=24, pos := "law.go:234",after:=#[],guard:=none }) (v := ?_) rfl (by kernel_rfl) (by kernel_rfl) (by kernel_rfl) (fun _ _ _ h => h) (Or.inl ⟨by rfl, ?_⟩) (by assumption) ?_
                    rotate_left
                    · intro w hSw
                      try dsimp only at hSw
                      go_simp
                      try with_reducible rfl
                    try simp only [Act.put, List.setIfInBounds_toArray, List.set_cons_zero, List.set_cons_succ]
                    refine wpAnyH_take (i := 3) (oi := {dst:=some 58,op:=Op.load 23 (Operand.tmp 9),type:=23, pos := "law.go:234",after:=#[],guard:=none }) (v := ?_) rfl (by kernel_rfl) (by kernel_rfl) (by kernel_rfl) (fun _ _ _ h => h) (Or.inl ⟨by rfl, ?_⟩) (by assumption) ?_
                    rotate_left
                    · intro w hSw
                      try dsimp only at hSw
                      go_simp
                      try with_reducible rfl
                    try simp only [Act.put, List.setIfInBounds_toArray, List.set_cons_zero, List.set_cons_succ]
                    refine wpAnyH_take (i := 4) (oi := {dst:=some 59,op:=Op.move (Operand.tmp 5),type:=25, pos := "law.go:234",after:=#[],guard:=none }) (v := ?_) rfl (by kernel_rfl) (by kernel_rfl) (by kernel_rfl) (fun _ _ _ h => h) (Or.inl ⟨by rfl, ?_⟩) (by assumption) ?_
                    rotate_left
                    · intro w hSw
                      try dsimp only at hSw
                      go_simp
                      try with_reducible rfl
                    try simp only [Act.put, List.setIfInBounds_toArray, List.set_cons_zero, List.set_cons_succ]
                    have HX : Hid (Below w8.heap.size w8 w8.drew) := Lib.hid (Below.refl _ _).drew
                    have HB_z0 := HX
                    clear HX
                    generalize w8.drew = z0 at *
                    refine wpAnyH_ready (rs := [1, 6]) (by kernel_rfl) (by simp) ?_
                    refine (AllReadyH.cons (o := {dst:=some 56,op:=Op.call { callee := Callee.value (Operand.func 17), args := #[Operand.tmp 55], argTypes := #[23] },type:=31, pos := "law.go:234",after:=#[{on:=0,ground:=Ground.data}],guard:=none }) rfl (fun K hK => ?_) (AllReadyH.cons (o := {dst:=some 13,op:=Op.alloc 31,type:=0, pos := "law.go:234",after:=#[],guard:=none }) rfl (fun K hK => ?_) AllReadyH.nil))
                    · go_simp
                      go_at_call 17
                      refine (new9_any (i1, i2) z0).mono ?_
                      intro e zw1 h
                      unfold RetL at h
                      obtain ⟨rfl, h5⟩ := h
                      simp only [cmV, newC, nilL, z2, val0]
                      have HX : Hid (Below z0.heap.size z0 zw1) := Lib.hid h5
                      have HB_zw1 : Hid (Below w8.heap.size w8 zw1) := Lib.hid (blThen HB_z0.out HX.out)
                      have HBY := Lib.hid HX.out
                      refine hK.out _ _ (KS.out _ HB_zw1.out) (fun hHeld => ?_)
                      clear hK K HX h5
                      try simp only [Act.put, List.setIfInBounds_toArray, List.set_cons_zero, List.set_cons_succ]
                      refine wpAnyH_ready (rs := [5, 6]) (by kernel_rfl) (by simp) ?_
                      refine (AllReadyH.cons (o := {dst:=some 60,op:=Op.call { callee := Callee.value (Operand.func 44), args := #[Operand.tmp 56, Operand.tmp 57, Operand.tmp 58, Operand.const (Value.bool true), Operand.tmp 59], argTypes := #[31, 24, 23, 4, 25] },type:=31, pos := "law.go:234",after:=#[{on:=1,ground:=Ground.data}, {on:=2,ground:=Ground.data}, {on:=3,ground:=Ground.data}, {on:=4,ground:=Ground.data}, {on:=1,ground:=Ground.chain}],guard:=none }) rfl (fun K hK => ?_) (AllReadyH.cons (o := {dst:=some 13,op:=Op.alloc 31,type:=0, pos := "law.go:234",after:=#[],guard:=none }) rfl (fun K hK => ?_) AllReadyH.nil))
                      · go_simp
                        go_at_call 44
                        refine (HWIT.out zw1 HB_zw1.out).mono ?_
                        intro e zw2 h
                        unfold RetWi at h
                        obtain ⟨ns, rfl, hdo, h5⟩ := h
                        obtain ⟨sa, sn, sc, rfl⟩ := hdo.form
                        have HDO := Lib.hid hdo
                        clear hdo
                        simp only [cmV, c1F, z2, val0, nilL]
                        try have LNC := LN
                        have HX : Hid (Below zw1.heap.size zw1 zw2) := Lib.hid h5
                        have HB_zw2 : Hid (Below w8.heap.size w8 zw2) := Lib.hid (blThen HB_zw1.out HX.out)
                        have HBY := Lib.hid HX.out
                        refine hK.out _ _ (KS.out _ HB_zw2.out) (fun hHeld => ?_)
                        clear hK K HX h5
                        try simp only [Act.put, List.setIfInBounds_toArray, List.set_cons_zero, List.set_cons_succ]
                        refine wpAnyH_ready (rs := [6]) (by kernel_rfl) (by simp) ?_
                        refine (AllReadyH.cons (o := {dst:=some 13,op:=Op.alloc 31,type:=0, pos := "law.go:234",after:=#[],guard:=none }) rfl (fun K hK => ?_) AllReadyH.nil)
                        · go_simp
                          have HX : Hid (Below zw2.heap.size zw2 (zw2.alloc (.cells #[.int .i64 0, .int .i64 0, .slice none 0 0, .int .i64 0, .int .i64 0, .int .i64 0, .int .i64 0, .int .i64 0, .bool false, .slice none 0 0, .int .i64 0, .int .i64 0, .bool false, .int .i64 0, .int .i64 0, .bool false, .int .i64 0, .int .i64 0, .slice none 0 0, .bool false, .slice none 0 0, .slice none 0 0] 31))) := Lib.hid (blAlloc (Below.refl _ _) _)
                          have HB_zw3 : Hid (Below w8.heap.size w8 (zw2.alloc (.cells #[.int .i64 0, .int .i64 0, .slice none 0 0, .int .i64 0, .int .i64 0, .int .i64 0, .int .i64 0, .int .i64 0, .bool false, .slice none 0 0, .int .i64 0, .int .i64 0, .bool false, .int .i64 0, .int .i64 0, .bool false, .int .i64 0, .int .i64 0, .slice none 0 0, .bool false, .slice none 0 0, .slice none 0 0] 31))) := Lib.hid (blThen HB_zw2.out HX.out)
                          have HBY := Lib.hid HX.out
                          have KN : Hid ((zw2.alloc (.cells #[.int .i64 0, .int .i64 0, .slice none 0 0, .int .i64 0, .int .i64 0, .int .i64 0, .int .i64 0, .int .i64 0, .bool false, .slice none 0 0, .int .i64 0, .int .i64 0, .bool false, .int .i64 0, .int .i64 0, .bool false, .int .i64 0, .int .i64 0, .slice none 0 0, .bool false, .slice none 0 0, .slice none 0 0] 31)).heap[zw2.heap.size]? = some (.cells #[.int .i64 0, .int .i64 0, .slice none 0 0, .int .i64 0, .int .i64 0, .int .i64 0, .int .i64 0, .int .i64 0, .bool false, .slice none 0 0, .int .i64 0, .int .i64 0, .bool false, .int .i64 0, .int .i64 0, .bool false, .int .i64 0, .int .i64 0, .slice none 0 0, .bool false, .slice none 0 0, .slice none 0 0] 31 (0, 0))) := Lib.hid (new_blockC zw2 #[.int .i64 0, .int .i64 0, .slice none 0 0, .int .i64 0, .int .i64 0, .int .i64 0, .int .i64 0, .int .i64 0, .bool false, .slice none 0 0, .int .i64 0, .int .i64 0, .bool false, .int .i64 0, .int .i64 0, .bool false, .int .i64 0, .int .i64 0, .slice none 0 0, .bool false, .slice none 0 0, .slice none 0 0] 31)
                          have LN : Hid (zw2.heap.size < (zw2.alloc (.cells #[.int .i64 0, .int .i64 0, .slice none 0 0, .int .i64 0, .int .i64 0, .int .i64 0, .int .i64 0, .int .i64 0, .bool false, .slice none 0 0, .int .i64 0, .int .i64 0, .bool false, .int .i64 0, .int .i64 0, .bool false, .int .i64 0, .int .i64 0, .slice none 0 0, .bool false, .slice none 0 0, .slice none 0 0] 31)).heap.size) := Lib.hid (by simp)
                          have GN : Hid (w8.heap.size ≤ zw2.heap.size) := Lib.hid HB_zw2.out.size
                          refine hK.out _ _ (KS.out _ HB_zw3.out) (fun hHeld => ?_)
                          clear hK K HX
                          try simp only [Act.put, List.setIfInBounds_toArray, List.set_cons_zero, List.set_cons_succ]
                          generalize (zw2.alloc (.cells #[.int .i64 0, .int .i64 0, .slice none 0 0, .int .i64 0, .int .i64 0, .int .i64 0, .int .i64 0, .int .i64 0, .bool false, .slice none 0 0, .int .i64 0, .int .i64 0, .bool false, .int .i64 0, .int .i64 0, .bool false, .int .i64 0, .int .i64 0, .slice none 0 0, .bool false, .slice none 0 0, .slice none 0 0] 31)) = zw3 at *
                          refine wpAnyH_ready (rs := [7]) (by kernel_rfl) (by simp) ?_
                          refine AllReadyH.cons (o := {dst:=none,op:=Op.store 31 (Operand.tmp 13) (Operand.tmp 60),type:=0, pos := "law.go:234",after:=#[{on:=6,ground:=Ground.data}, {on:=5,ground:=Ground.data}, {on:=5,ground:=Ground.chain}, {on:=0,ground:=Ground.phase}, {on:=1,ground:=Ground.phase}, {on:=2,ground:=Ground.phase}, {on:=3,ground:=Ground.phase}, {on:=4,ground:=Ground.phase}, {on:=5,ground:=Ground.phase}, {on:=6,ground:=Ground.phase}],guard:=none }) rfl (fun K hK => ?_) ?_
                          rotate_left
                          · exact AllReadyH.nil
                          refine ite_yes9 (by rfl) ?_
                          refine wp_store9 _ _ rfl _ rfl (cells := #[.int .i64 i1, .int .i64 i2, .slice aa a.length ac, .int .i64 1, .int .i64 0, .int .i64 0, .int .i64 x1, .int .i64 x2, .bool true, .slice sa sn sc, .int .i64 0, .int .i64 0, .bool false, .int .i64 0, .int .i64 0, .bool false, .int .i64 0, .int .i64 0, .slice none 0 0, .bool false, .slice none 0 0, .slice none 0 0]) rfl KN.out rfl rfl (by simp [Value.oneCell']) ?_
                          intro zf h1 h2
                          have HBF : Hid (Below w8.heap.size w8 zf) := Lib.hid (below_grown9 HB_zw3.out h2 GN.out)
                          have KF := Lib.hid h1
                          have LF := Nat.lt_of_lt_of_le LN.out h2.size
                          have HDOF := Lib.hid (HDO.out.kp (S2.Keeps.ofBelow (below_grown9 HBY.out h2 (Nat.le_refl _))))
                          clear h1 h2
                          refine hK.out _ _ (KS.out _ HBF.out) (fun hHeld => ?_)
                          clear hK K
                          try simp only [Act.put, List.setIfInBounds_toArray, List.set_cons_zero, List.set_cons_succ]
                          refine wpAnyH_done (by kernel_rfl) ?_ _
                          go_wp2_with fail
                          go_meet
                          exact ⟨zw2.heap.size, ⟨.slice aa a.length ac, .slice sa sn sc, .slice none 0 0, .slice none 0 0, .slice none 0 0⟩, rfl, LF, KF.out, ⟨HAa_8.out.later HBF.out, HDOF.out.dl, dl_nil9 _, SlG.nil _, SlG.nil _⟩, HBF.out⟩
                      · go_simp
                        have HX : Hid (Below zw1.heap.size zw1 (zw1.alloc (.cells #[.int .i64 0, .int .i64 0, .slice none 0 0, .int .i64 0, .int .i64 0, .int .i64 0, .int .i64 0, .int .i64 0, .bool false, .slice none 0 0, .int .i64 0, .int .i64 0, .bool false, .int .i64 0, .int .i64 0, .bool false, .int .i64 0, .int .i64 0, .slice none 0 0, .bool false, .slice none 0 0, .slice none 0 0] 31))) := Lib.hid (blAlloc (Below.refl _ _) _)
                        have HB_zw4 : Hid (Below w8.heap.size w8 (zw1.alloc (.cells #[.int .i64 0, .int .i64 0, .slice none 0 0, .int .i64 0, .int .i64 0, .int .i64 0, .int .i64 0, .int .i64 0, .bool false, .slice none 0 0, .int .i64 0, .int .i64 0, .bool false, .int .i64 0, .int .i64 0, .bool false, .int .i64 0, .int .i64 0, .slice none 0 0, .bool false, .slice none 0 0, .slice none 0 0] 31))) := Lib.hid (blThen HB_zw1.out HX.out)
                        have HBY := Lib.hid HX.out
                        have KN : Hid ((zw1.alloc (.cells #[.int .i64 0, .int .i64 0, .slice none 0 0, .int .i64 0, .int .i64 0, .int .i64 0, .int .i64 0, .int .i64 0, .bool false, .slice none 0 0, .int .i64 0, .int .i64 0, .bool false, .int .i64 0, .int .i64 0, .bool false, .int .i64 0, .int .i64 0, .slice none 0 0, .bool false, .slice none 0 0, .slice none 0 0] 31)).heap[zw1.heap.size]? = some (.cells #[.int .i64 0, .int .i64 0, .slice none 0 0, .int .i64 0, .int .i64 0, .int .i64 0, .int .i64 0, .int .i64 0, .bool false, .slice none 0 0, .int .i64 0, .int .i64 0, .bool false, .int .i64 0, .int .i64 0, .bool false, .int .i64 0, .int .i64 0, .slice none 0 0, .bool false, .slice none 0 0, .slice none 0 0] 31 (0, 0))) := Lib.hid (new_blockC zw1 #[.int .i64 0, .int .i64 0, .slice none 0 0, .int .i64 0, .int .i64 0, .int .i64 0, .int .i64 0, .int .i64 0, .bool false, .slice none 0 0, .int .i64 0, .int .i64 0, .bool false, .int .i64 0, .int .i64 0, .bool false, .int .i64 0, .int .i64 0, .slice none 0 0, .bool false, .slice none 0 0, .slice none 0 0] 31)
                        have LN : Hid (zw1.heap.size < (zw1.alloc (.cells #[.int .i64 0, .int .i64 0, .slice none 0 0, .int .i64 0, .int .i64 0, .int .i64 0, .int .i64 0, .int .i64 0, .bool false, .slice none 0 0, .int .i64 0, .int .i64 0, .bool false, .int .i64 0, .int .i64 0, .bool false, .int .i64 0, .int .i64 0, .slice none 0 0, .bool false, .slice none 0 0, .slice none 0 0] 31)).heap.size) := Lib.hid (by simp)
                        have GN : Hid (w8.heap.size ≤ zw1.heap.size) := Lib.hid HB_zw1.out.size
                        refine hK.out _ _ (KS.out _ HB_zw4.out) (fun hHeld => ?_)
                        clear hK K HX
                        try simp only [Act.put, List.setIfInBounds_toArray, List.set_cons_zero, List.set_cons_succ]
                        generalize (zw1.alloc (.cells #[.int .i64 0, .int .i64 0, .slice none 0 0, .int .i64 0, .int .i64 0, .int .i64 0, .int .i64 0, .int .i64 0, .bool false, .slice none 0 0, .int .i64 0, .int .i64 0, .bool false, .int .i64 0, .int .i64 0, .bool false, .int .i64 0, .int .i64 0, .slice none 0 0, .bool false, .slice none 0 0, .slice none 0 0] 31)) = zw4 at *
                        refine wpAnyH_ready (rs := [5]) (by kernel_rfl) (by simp) ?_
                        refine (AllReadyH.cons (o := {dst:=some 60,op:=Op.call { callee := Callee.value (Operand.func 44), args := #[Operand.tmp 56, Operand.tmp 57, Operand.tmp 58, Operand.const (Value.bool true), Operand.tmp 59], argTypes := #[31, 24, 23, 4, 25] },type:=31, pos := "law.go:234",after:=#[{on:=1,ground:=Ground.data}, {on:=2,ground:=Ground.data}, {on:=3,ground:=Ground.data}, {on:=4,ground:=Ground.data}, {on:=1,ground:=Ground.chain}],guard:=none }) rfl (fun K hK => ?_) AllReadyH.nil)
                        · go_simp
                          go_at_call 44
                          refine (HWIT.out zw4 HB_zw4.out).mono ?_
                          intro e zw5 h
                          unfold RetWi at h
                          obtain ⟨ns, rfl, hdo, h5⟩ := h
                          obtain ⟨sa, sn, sc, rfl⟩ := hdo.form
                          have HDO := Lib.hid hdo
                          clear hdo
                          simp only [cmV, c1F, z2, val0, nilL]
                          try have LNC := LN
                          have HX : Hid (Below zw4.heap.size zw4 zw5) := Lib.hid h5
                          have HB_zw5 : Hid (Below w8.heap.size w8 zw5) := Lib.hid (blThen HB_zw4.out HX.out)
                          have HBY := Lib.hid HX.out
                          have KN := Lib.hid ((HX.out.block zw1.heap.size LN.out).trans KN.out)
                          have LN : Hid (zw1.heap.size < zw5.heap.size) := Lib.hid (Nat.lt_of_lt_of_le LN.out HX.out.size)
                          refine hK.out _ _ (KS.out _ HB_zw5.out) (fun hHeld => ?_)
                          clear hK K HX h5
                          try simp only [Act.put, List.setIfInBounds_toArray, List.set_cons_zero, List.set_cons_succ]
                          refine wpAnyH_ready (rs := [7]) (by kernel_rfl) (by simp) ?_
                          refine AllReadyH.cons (o := {dst:=none,op:=Op.store 31 (Operand.tmp 13) (Operand.tmp 60),type:=0, pos := "law.go:234",after:=#[{on:=6,ground:=Ground.data}, {on:=5,ground:=Ground.data}, {on:=5,ground:=Ground.chain}, {on:=0,ground:=Ground.phase}, {on:=1,ground:=Ground.phase}, {on:=2,ground:=Ground.phase}, {on:=3,ground:=Ground.phase}, {on:=4,ground:=Ground.phase}, {on:=5,ground:=Ground.phase}, {on:=6,ground:=Ground.phase}],guard:=none }) rfl (fun K hK => ?_) ?_
                          rotate_left
                          · exact AllReadyH.nil
                          refine ite_yes9 (by rfl) ?_
                          refine wp_store9 _ _ rfl _ rfl (cells := #[.int .i64 i1, .int .i64 i2, .slice aa a.length ac, .int .i64 1, .int .i64 0, .int .i64 0, .int .i64 x1, .int .i64 x2, .bool true, .slice sa sn sc, .int .i64 0, .int .i64 0, .bool false, .int .i64 0, .int .i64 0, .bool false, .int .i64 0, .int .i64 0, .slice none 0 0, .bool false, .slice none 0 0, .slice none 0 0]) rfl KN.out rfl rfl (by simp [Value.oneCell']) ?_
                          intro zf h1 h2
                          have HBF : Hid (Below w8.heap.size w8 zf) := Lib.hid (below_grown9 HB_zw5.out h2 GN.out)
                          have KF := Lib.hid h1
                          have LF := Nat.lt_of_lt_of_le LN.out h2.size
                          have HDOF := Lib.hid (HDO.out.kp (grown_lt h2 LNC.out))
                          clear h1 h2
                          refine hK.out _ _ (KS.out _ HBF.out) (fun hHeld => ?_)
                          clear hK K
                          try simp only [Act.put, List.setIfInBounds_toArray, List.set_cons_zero, List.set_cons_succ]
                          refine wpAnyH_done (by kernel_rfl) ?_ _
                          go_wp2_with fail
                          go_meet
                          exact ⟨zw1.heap.size, ⟨.slice aa a.length ac, .slice sa sn sc, .slice none 0 0, .slice none 0 0, .slice none 0 0⟩, rfl, LF, KF.out, ⟨HAa_8.out.later HBF.out, HDOF.out.dl, dl_nil9 _, SlG.nil _, SlG.nil _⟩, HBF.out⟩
                    · go_simp
                      have HX : Hid (Below z0.heap.size z0 (z0.alloc (.cells #[.int .i64 0, .int .i64 0, .slice none 0 0, .int .i64 0, .int .i64 0, .int .i64 0, .int .i64 0, .int .i64 0, .bool false, .slice none 0 0, .int .i64 0, .int .i64 0, .bool false, .int .i64 0, .int .i64 0, .bool false, .int .i64 0, .int .i64 0, .slice none 0 0, .bool false, .slice none 0 0, .slice none 0 0] 31))) := Lib.hid (blAlloc (Below.refl _ _) _)
                      have HB_zw6 : Hid (Below w8.heap.size w8 (z0.alloc (.cells #[.int .i64 0, .int .i64 0, .slice none 0 0, .int .i64 0, .int .i64 0, .int .i64 0, .int .i64 0, .int .i64 0, .bool false, .slice none 0 0, .int .i64 0, .int .i64 0, .bool false, .int .i64 0, .int .i64 0, .bool false, .int .i64 0, .int .i64 0, .slice none 0 0, .bool false, .slice none 0 0, .slice none 0 0] 31))) := Lib.hid (blThen HB_z0.out HX.out)
                      have HBY := Lib.hid HX.out
                      have KN : Hid ((z0.alloc (.cells #[.int .i64 0, .int .i64 0, .slice none 0 0, .int .i64 0, .int .i64 0, .int .i64 0, .int .i64 0, .int .i64 0, .bool false, .slice none 0 0, .int .i64 0, .int .i64 0, .bool false, .int .i64 0, .int .i64 0, .bool false, .int .i64 0, .int .i64 0, .slice none 0 0, .bool false, .slice none 0 0, .slice none 0 0] 31)).heap[z0.heap.size]? = some (.cells #[.int .i64 0, .int .i64 0, .slice none 0 0, .int .i64 0, .int .i64 0, .int .i64 0, .int .i64 0, .int .i64 0, .bool false, .slice none 0 0, .int .i64 0, .int .i64 0, .bool false, .int .i64 0, .int .i64 0, .bool false, .int .i64 0, .int .i64 0, .slice none 0 0, .bool false, .slice none 0 0, .slice none 0 0] 31 (0, 0))) := Lib.hid (new_blockC z0 #[.int .i64 0, .int .i64 0, .slice none 0 0, .int .i64 0, .int .i64 0, .int .i64 0, .int .i64 0, .int .i64 0, .bool false, .slice none 0 0, .int .i64 0, .int .i64 0, .bool false, .int .i64 0, .int .i64 0, .bool false, .int .i64 0, .int .i64 0, .slice none 0 0, .bool false, .slice none 0 0, .slice none 0 0] 31)
                      have LN : Hid (z0.heap.size < (z0.alloc (.cells #[.int .i64 0, .int .i64 0, .slice none 0 0, .int .i64 0, .int .i64 0, .int .i64 0, .int .i64 0, .int .i64 0, .bool false, .slice none 0 0, .int .i64 0, .int .i64 0, .bool false, .int .i64 0, .int .i64 0, .bool false, .int .i64 0, .int .i64 0, .slice none 0 0, .bool false, .slice none 0 0, .slice none 0 0] 31)).heap.size) := Lib.hid (by simp)
                      have GN : Hid (w8.heap.size ≤ z0.heap.size) := Lib.hid HB_z0.out.size
                      refine hK.out _ _ (KS.out _ HB_zw6.out) (fun hHeld => ?_)
                      clear hK K HX
                      try simp only [Act.put, List.setIfInBounds_toArray, List.set_cons_zero, List.set_cons_succ]
                      generalize (z0.alloc (.cells #[.int .i64 0, .int .i64 0, .slice none 0 0, .int .i64 0, .int .i64 0, .int .i64 0, .int .i64 0, .int .i64 0, .bool false, .slice none 0 0, .int .i64 0, .int .i64 0, .bool false, .int .i64 0, .int .i64 0, .bool false, .int .i64 0, .int .i64 0, .slice none 0 0, .bool false, .slice none 0 0, .slice none 0 0] 31)) = zw6 at *
                      refine wpAnyH_ready (rs := [1]) (by kernel_rfl) (by simp) ?_
                      refine (AllReadyH.cons (o := {dst:=some 56,op:=Op.call { callee := Callee.value (Operand.func 17), args := #[Operand.tmp 55], argTypes := #[23] },type:=31, pos := "law.go:234",after:=#[{on:=0,ground:=Ground.data}],guard:=none }) rfl (fun K hK => ?_) AllReadyH.nil)
                      · go_simp
                        go_at_call 17
                        refine (new9_any (i1, i2) zw6).mono ?_
                        intro e zw7 h
                        unfold RetL at h
                        obtain ⟨rfl, h5⟩ := h
                        simp only [cmV, newC, nilL, z2, val0]
                        have HX : Hid (Below zw6.heap.size zw6 zw7) := Lib.hid h5
                        have HB_zw7 : Hid (Below w8.heap.size w8 zw7) := Lib.hid (blThen HB_zw6.out HX.out)
                        have HBY := Lib.hid HX.out
                        have KN := Lib.hid ((HX.out.block z0.heap.size LN.out).trans KN.out)
                        have LN : Hid (z0.heap.size < zw7.heap.size) := Lib.hid (Nat.lt_of_lt_of_le LN.out HX.out.size)
                        refine hK.out _ _ (KS.out _ HB_zw7.out) (fun hHeld => ?_)
                        clear hK K HX h5
                        try simp only [Act.put, List.setIfInBounds_toArray, List.set_cons_zero, List.set_cons_succ]
                        refine wpAnyH_ready (rs := [5]) (by kernel_rfl) (by simp) ?_
                        refine (AllReadyH.cons (o := {dst:=some 60,op:=Op.call { callee := Callee.value (Operand.func 44), args := #[Operand.tmp 56, Operand.tmp 57, Operand.tmp 58, Operand.const (Value.bool true), Operand.tmp 59], argTypes := #[31, 24, 23, 4, 25] },type:=31, pos := "law.go:234",after:=#[{on:=1,ground:=Ground.data}, {on:=2,ground:=Ground.data}, {on:=3,ground:=Ground.data}, {on:=4,ground:=Ground.data}, {on:=1,ground:=Ground.chain}],guard:=none }) rfl (fun K hK => ?_) AllReadyH.nil)
                        · go_simp
                          go_at_call 44
                          refine (HWIT.out zw7 HB_zw7.out).mono ?_
                          intro e zw8 h
                          unfold RetWi at h
                          obtain ⟨ns, rfl, hdo, h5⟩ := h
                          obtain ⟨sa, sn, sc, rfl⟩ := hdo.form
                          have HDO := Lib.hid hdo
                          clear hdo
                          simp only [cmV, c1F, z2, val0, nilL]
                          try have LNC := LN
                          have HX : Hid (Below zw7.heap.size zw7 zw8) := Lib.hid h5
                          have HB_zw8 : Hid (Below w8.heap.size w8 zw8) := Lib.hid (blThen HB_zw7.out HX.out)
                          have HBY := Lib.hid HX.out
                          have KN := Lib.hid ((HX.out.block z0.heap.size LN.out).trans KN.out)
                          have LN : Hid (z0.heap.size < zw8.heap.size) := Lib.hid (Nat.lt_of_lt_of_le LN.out HX.out.size)
                          refine hK.out _ _ (KS.out _ HB_zw8.out) (fun hHeld => ?_)
                          clear hK K HX h5
                          try simp only [Act.put, List.setIfInBounds_toArray, List.set_cons_zero, List.set_cons_succ]
                          refine wpAnyH_ready (rs := [7]) (by kernel_rfl) (by simp) ?_
                          refine AllReadyH.cons (o := {dst:=none,op:=Op.store 31 (Operand.tmp 13) (Operand.tmp 60),type:=0, pos := "law.go:234",after:=#[{on:=6,ground:=Ground.data}, {on:=5,ground:=Ground.data}, {on:=5,ground:=Ground.chain}, {on:=0,ground:=Ground.phase}, {on:=1,ground:=Ground.phase}, {on:=2,ground:=Ground.phase}, {on:=3,ground:=Ground.phase}, {on:=4,ground:=Ground.phase}, {on:=5,ground:=Ground.phase}, {on:=6,ground:=Ground.phase}],guard:=none }) rfl (fun K hK => ?_) ?_
                          rotate_left
                          · exact AllReadyH.nil
                          refine ite_yes9 (by rfl) ?_
                          refine wp_store9 _ _ rfl _ rfl (cells := #[.int .i64 i1, .int .i64 i2, .slice aa a.length ac, .int .i64 1, .int .i64 0, .int .i64 0, .int .i64 x1, .int .i64 x2, .bool true, .slice sa sn sc, .int .i64 0, .int .i64 0, .bool false, .int .i64 0, .int .i64 0, .bool false, .int .i64 0, .int .i64 0, .slice none 0 0, .bool false, .slice none 0 0, .slice none 0 0]) rfl KN.out rfl rfl (by simp [Value.oneCell']) ?_
                          intro zf h1 h2
                          have HBF : Hid (Below w8.heap.size w8 zf) := Lib.hid (below_grown9 HB_zw8.out h2 GN.out)
                          have KF := Lib.hid h1
                          have LF := Nat.lt_of_lt_of_le LN.out h2.size
                          have HDOF := Lib.hid (HDO.out.kp (grown_lt h2 LNC.out))
                          clear h1 h2
                          refine hK.out _ _ (KS.out _ HBF.out) (fun hHeld => ?_)
                          clear hK K
                          try simp only [Act.put, List.setIfInBounds_toArray, List.set_cons_zero, List.set_cons_succ]
                          refine wpAnyH_done (by kernel_rfl) ?_ _
                          go_wp2_with fail
                          go_meet
                          exact ⟨z0.heap.size, ⟨.slice aa a.length ac, .slice sa sn sc, .slice none 0 0, .slice none 0 0, .slice none 0 0⟩, rfl, LF, KF.out, ⟨HAa_8.out.later HBF.out, HDOF.out.dl, dl_nil9 _, SlG.nil _, SlG.nil _⟩, HBF.out⟩
                  case rest =>
                    obtain ⟨k4, ⟨lo, ls, ld, lw, lp⟩, e13, hlt, hr, hat, h5⟩ := hcut
                    rename World => w9
                    rw [e13]
                    clear e13
                    simp only at hr
                    have HATc := Lib.hid hat
                    obtain ⟨oa, oc, rfl⟩ := hat.o.form
                    obtain ⟨sa, sc, sF, rfl, _⟩ := hat.s
                    obtain ⟨ea, ec, eF, rfl, _⟩ := hat.d
                    obtain ⟨wa, wc, rfl⟩ := hat.w.form
                    obtain ⟨pa, pc, rfl⟩ := hat.p.form
                    clear hat
                    have HB_9 : Hid (Below W.heap.size W w9) := Lib.hid (blThen HB_8.out h5)
                    have Ki_9 := row_up Ki_8 Li_8 h5
                    have Li_9 := lt_up Li_8 h5
                    have Kx_9 := row_up Kx_8 Lx_8 h5
                    have Lx_9 := lt_up Lx_8 h5
                    have Ky_9 := row_up Ky_8 Ly_8 h5
                    have Ly_9 := lt_up Ly_8 h5
                    have HAa_9 := Lib.hid (HAa_8.out.later h5)
                    have HAb_9 := Lib.hid (HAb_8.out.later h5)
                    have HD_9 := Lib.hid (HD_8.out.later h5)
                    have HC_9 := HATc
                    have Kc_9 := Lib.hid hr
                    have Lc_9 : Hid (k4 < w9.heap.size) := Lib.hid hlt
                    clear HATc hr hlt h5 KS HWIT
                    go_wp2_with (first | go_skip | ((with_reducible refine atW (w10.alloc (.cells #[.int .i64 0, .int .i64 0, .slice none 0 0, .int .i64 0, .int .i64 0, .int .i64 0, .int .i64 0, .int .i64 0, .bool false, .slice none 0 0, .int .i64 0, .int .i64 0, .bool false, .int .i64 0, .int .i64 0, .bool false, .int .i64 0, .int .i64 0, .slice none 0 0, .bool false, .slice none 0 0, .slice none 0 0] 31)) ?_); refine store9 _ _ rfl (by rfl) _ rfl rfl (new_blockC w10 #[.int .i64 0, .int .i64 0, .slice none 0 0, .int .i64 0, .int .i64 0, .int .i64 0, .int .i64 0, .int .i64 0, .bool false, .slice none 0 0, .int .i64 0, .int .i64 0, .bool false, .int .i64 0, .int .i64 0, .bool false, .int .i64 0, .int .i64 0, .slice none 0 0, .bool false, .slice none 0 0, .slice none 0 0] 31) rfl rfl (by simp [Value.oneCell']) ?_; intro w11 h1 h2; have h5 := below_grown9 (blAlloc (Below.refl _ _) _) h2 (Nat.le_refl _); have HB_11 : Hid (Below W.heap.size W w11) := Lib.hid (blThen HB_10.out h5); have Ki_11 := row_up Ki_10 Li_10 h5; have Li_11 := lt_up Li_10 h5; have Kx_11 := row_up Kx_10 Lx_10 h5; have Lx_11 := lt_up Lx_10 h5; have Ky_11 := row_up Ky_10 Ly_10 h5; have Ly_11 := lt_up Ly_10 h5; have Kc_11 := row_up Kc_10 Lc_10 h5; have Lc_11 := lt_up Lc_10 h5; have HAa_11 := Lib.hid (HAa_10.out.later h5); have HAb_11 := Lib.hid (HAb_10.out.later h5); have HD_11 := Lib.hid (HD_10.out.later h5); have HC_11 := Lib.hid (HC_10.out.later h5); have Ke_11 := Lib.hid h1; have Le_11 : Hid (w10.heap.size < w11.heap.size) := Lib.hid (by have := h2.size; simp only [World.size_alloc] at this; omega); clear h1 h2 h5) | ((with_reducible refine atC w9 ?_); go_at_call 44; go_must (refine (witness_seen (c1F (i1, i2) (x1, x2) a (SD.toD F)) ⟨.slice oa a.length oc, .slice sa sF.length sc, .slice ea eF.length ec, .slice wa ([] : List Wrt).length wc, .slice pa ([] : Al Nat).length pc⟩ (.slice ba b.length bc) (.slice none 0 0) (y1, y2) false w9 HC_9.out HOLD.out).mono ?_; intro e w10 h; unfold RetL at h; obtain ⟨rfl, h5⟩ := h; simp only [cmV, c1F, z2, val0]; have HB_10 : Hid (Below W.heap.size W w10) := Lib.hid (blThen HB_9.out h5); have Ki_10 := row_up Ki_9 Li_9 h5; have Li_10 := lt_up Li_9 h5; have Kx_10 := row_up Kx_9 Lx_9 h5; have Lx_10 := lt_up Lx_9 h5; have Ky_10 := row_up Ky_9 Ly_9 h5; have Ly_10 := lt_up Ly_9 h5; have Kc_10 := row_up Kc_9 Lc_9 h5; have Lc_10 := lt_up Lc_9 h5; have HAa_10 := Lib.hid (HAa_9.out.later h5); have HAb_10 := Lib.hid (HAb_9.out.later h5); have HD_10 := Lib.hid (HD_9.out.later h5); have HC_10 := Lib.hid (HC_9.out.later h5); clear h5)) | ((with_reducible refine atW w9 ?_); refine wpList_load_part _ _ rfl (by rfl) _ 0 rfl Ky_9.out Tryz.underlying23 rfl #[.int .i64 y1, .int .i64 y2] (by kernel_rfl) (two_at rfl rfl) ?_) | ((with_reducible refine atW w9 ?_); refine load9 _ rfl (by rfl) _ rfl Kc_9.out rfl ?_))
                    refine wp_region_held_drew (S := fun Y => Y.heap[k4]? = some (.cells #[.int .i64 i1, .int .i64 i2, .slice oa a.length oc, .int .i64 1, .int .i64 0, .int .i64 0, .int .i64 x1, .int .i64 x2, .bool true, .slice sa sF.length sc, .int .i64 0, .int .i64 0, .bool false, .int .i64 0, .int .i64 0, .bool false, .int .i64 0, .int .i64 0, .slice ea eF.length ec, .bool false, .slice wa ([] : List Wrt).length wc, .slice pa ([] : Al Nat).length pc] 31 (0, 0)) ∧ Y.heap[w10.heap.size]? = some (.cells #[.int .i64 i1, .int .i64 i2, .slice oa a.length oc, .int .i64 1, .int .i64 0, .int .i64 0, .int .i64 x1, .int .i64 x2, .bool true, .slice sa sF.length sc, .int .i64 0, .int .i64 0, .bool false, .int .i64 0, .int .i64 0, .bool false, .int .i64 0, .int .i64 0, .slice ea eF.length ec, .bool false, .slice wa ([] : List Wrt).length wc, .slice pa ([] : Al Nat).length pc] 31 (0, 0)) ∧ Y.heap[(W.heap.size + 1)]? = some (.cells #[.int .i64 x1, .int .i64 x2] 23 (0, 0))) (by kernel_rfl) (⟨Kc_11.out, Ke_11.out, Kx_11.out⟩) (fun hHeld => ?_)
                    have h5 : Below w11.heap.size w11 w11.drew := (Below.refl _ _).drew
                    have HB_12 : Hid (Below W.heap.size W w11.drew) := Lib.hid (blThen HB_11.out h5)
                    have Ki_12 := row_up Ki_11 Li_11 h5
                    have Li_12 := lt_up Li_11 h5
                    have Kx_12 := row_up Kx_11 Lx_11 h5
                    have Lx_12 := lt_up Lx_11 h5
                    have Ky_12 := row_up Ky_11 Ly_11 h5
                    have Ly_12 := lt_up Ly_11 h5
                    have Kc_12 := row_up Kc_11 Lc_11 h5
                    have Lc_12 := lt_up Lc_11 h5
                    have Ke_12 := row_up Ke_11 Le_11 h5
                    have Le_12 := lt_up Le_11 h5
                    have HAa_12 := Lib.hid (HAa_11.out.later h5)
                    have HAb_12 := Lib.hid (HAb_11.out.later h5)
                    have HD_12 := Lib.hid (HD_11.out.later h5)
                    have HC_12 := Lib.hid (HC_11.out.later h5)
                    clear h5
                    generalize w11.drew = w12 at *
                    refine wpAnyH_take (i := 0) (oi := {dst:=some 65,op:=Op.load 31 (Operand.tmp 13),type:=31, pos := "law.go:236",after:=#[],guard:=none }) (v := _) rfl (by kernel_rfl) (by kernel_rfl) (by kernel_rfl) (fun _ _ _ h => h) (yields_row (by rfl) _ _ rfl _ 0 rfl (fun w h => h.1) Tryz.underlying31 rfl #[.int .i64 i1, .int .i64 i2, .slice oa a.length oc, .int .i64 1, .int .i64 0, .int .i64 0, .int .i64 x1, .int .i64 x2, .bool true, .slice sa sF.length sc, .int .i64 0, .int .i64 0, .bool false, .int .i64 0, .int .i64 0, .bool false, .int .i64 0, .int .i64 0, .slice ea eF.length ec, .bool false, .slice wa ([] : List Wrt).length wc, .slice pa ([] : Al Nat).length pc] szCmd all_at) (by assumption) ?_
                    try simp only [Act.put, List.setIfInBounds_toArray, List.set_cons_zero, List.set_cons_succ]
                    refine wpAnyH_take (i := 1) (oi := {dst:=some 66,op:=Op.load 31 (Operand.tmp 14),type:=31, pos := "law.go:236",after:=#[],guard:=none }) (v := _) rfl (by kernel_rfl) (by kernel_rfl) (by kernel_rfl) (fun _ _ _ h => h) (yields_row (by rfl) _ _ rfl _ 0 rfl (fun w h => h.2.1) Tryz.underlying31 rfl #[.int .i64 i1, .int .i64 i2, .slice oa a.length oc, .int .i64 1, .int .i64 0, .int .i64 0, .int .i64 x1, .int .i64 x2, .bool true, .slice sa sF.length sc, .int .i64 0, .int .i64 0, .bool false, .int .i64 0, .int .i64 0, .bool false, .int .i64 0, .int .i64 0, .slice ea eF.length ec, .bool false, .slice wa ([] : List Wrt).length wc, .slice pa ([] : Al Nat).length pc] szCmd all_at) (by assumption) ?_
                    try simp only [Act.put, List.setIfInBounds_toArray, List.set_cons_zero, List.set_cons_succ]
                    refine wpAnyH_ready (rs := [2]) (by kernel_rfl) (by simp) ?_
                    refine AllReadyH.cons (o := {dst:=some 67,op:=Op.call { callee := Callee.value (Operand.func 16), args := #[Operand.tmp 65, Operand.tmp 66], argTypes := #[31, 31] },type:=4, pos := "law.go:236",after:=#[{on:=0,ground:=Ground.data}, {on:=1,ground:=Ground.data}],guard:=none }) rfl (fun K hK => ?_) ?_
                    rotate_left
                    · exact AllReadyH.nil
                    go_simp
                    go_at_call 16
                    refine (rsame9_any (c1F (i1, i2) (x1, x2) a (SD.toD F)) ⟨.slice oa a.length oc, .slice sa sF.length sc, .slice ea eF.length ec, .slice wa ([] : List Wrt).length wc, .slice pa ([] : Al Nat).length pc⟩ ⟨.slice oa a.length oc, .slice sa sF.length sc, .slice ea eF.length ec, .slice wa ([] : List Wrt).length wc, .slice pa ([] : Al Nat).length pc⟩ w12 HC_12.out HC_12.out HFEW.out).mono ?_
                    rintro e w13 ⟨rfl, h5⟩
                    have HB_13 : Hid (Below W.heap.size W w13) := Lib.hid (blThen HB_12.out h5)
                    have Ki_13 := row_up Ki_12 Li_12 h5
                    have Li_13 := lt_up Li_12 h5
                    have Kx_13 := row_up Kx_12 Lx_12 h5
                    have Lx_13 := lt_up Lx_12 h5
                    have Ky_13 := row_up Ky_12 Ly_12 h5
                    have Ly_13 := lt_up Ly_12 h5
                    have Kc_13 := row_up Kc_12 Lc_12 h5
                    have Lc_13 := lt_up Lc_12 h5
                    have Ke_13 := row_up Ke_12 Le_12 h5
                    have Le_13 := lt_up Le_12 h5
                    have HAa_13 := Lib.hid (HAa_12.out.later h5)
                    have HAb_13 := Lib.hid (HAb_12.out.later h5)
                    have HD_13 := Lib.hid (HD_12.out.later h5)
                    have HC_13 := Lib.hid (HC_12.out.later h5)
                    refine hK.out _ _ (⟨Kc_13.out, Ke_13.out, Kx_13.out⟩) (fun hHeld => ?_)
                    clear hK K h5
                    try simp only [Act.put, List.setIfInBounds_toArray, List.set_cons_zero, List.set_cons_succ]
                    refine wpAnyH_take (i := 3) (oi := {dst:=some 68,op:=Op.move (Operand.tmp 67),type:=4, pos := "law.go:236",after:=#[{on:=2,ground:=Ground.data}, {on:=2,ground:=Ground.chain}],guard:=none }) (v := ?_) rfl (by kernel_rfl) (by kernel_rfl) (by kernel_rfl) (fun _ _ _ h => h) (Or.inl ⟨by rfl, ?_⟩) (by assumption) ?_
                    rotate_left
                    · intro w hSw
                      try dsimp only at hSw
                      go_simp
                      try with_reducible rfl
                    try simp only [Act.put, List.setIfInBounds_toArray, List.set_cons_zero, List.set_cons_succ]
                    refine wpAnyH_take (i := 4) (oi := {dst:=some 69,op:=Op.fieldAddr 31 (Operand.tmp 13) 2,type:=0, pos := "law.go:236",after:=#[{on:=3,ground:=Ground.guard}],guard:=some (3, true) }) (v := ?_) rfl (by kernel_rfl) (by kernel_rfl) (by kernel_rfl) (fun _ _ _ h => h) (Or.inl ⟨by rfl, ?_⟩) (by assumption) ?_
                    rotate_left
                    · intro w hSw
                      try dsimp only at hSw
                      go_simp
                      try with_reducible rfl
                    try simp only [Act.put, List.setIfInBounds_toArray, List.set_cons_zero, List.set_cons_succ]
                    refine wpAnyH_take (i := 5) (oi := {dst:=some 70,op:=Op.load 3 (Operand.tmp 69),type:=3, pos := "law.go:236",after:=#[{on:=4,ground:=Ground.data}, {on:=3,ground:=Ground.guard}],guard:=some (3, true) }) (v := _) rfl (by kernel_rfl) (by kernel_rfl) (by kernel_rfl) (fun _ _ _ h => h) (yields_one (by rfl) _ _ rfl _ 3 rfl (fun w h => h.1) Tryz.underlying3 rfl rfl) (by assumption) ?_
                    try simp only [Act.put, List.setIfInBounds_toArray, List.set_cons_zero, List.set_cons_succ]
                    refine wpAnyH_take (i := 6) (oi := {dst:=some 71,op:=Op.binOp BinOp.eql 3 (Operand.tmp 70) (Operand.const (Value.int IntKind.i64 1)) 3,type:=4, pos := "law.go:236",after:=#[{on:=5,ground:=Ground.data}, {on:=3,ground:=Ground.guard}],guard:=some (3, true) }) (v := ?_) rfl (by kernel_rfl) (by kernel_rfl) (by kernel_rfl) (fun _ _ _ h => h) (Or.inl ⟨by rfl, ?_⟩) (by assumption) ?_
                    rotate_left
                    · intro w hSw
                      try dsimp only at hSw
                      go_simp
                      try with_reducible rfl
                    try simp only [Act.put, List.setIfInBounds_toArray, List.set_cons_zero, List.set_cons_succ]
                    refine wpAnyH_take (i := 7) (oi := {dst:=some 72,op:=Op.pick (Operand.tmp 68) (Operand.tmp 71) (Operand.const (Value.bool false)),type:=4, pos := "law.go:236",after:=#[{on:=3,ground:=Ground.data}, {on:=6,ground:=Ground.data}],guard:=none }) (v := ?_) rfl (by kernel_rfl) (by kernel_rfl) (by kernel_rfl) (fun _ _ _ h => h) (Or.inl ⟨by rfl, ?_⟩) (by assumption) ?_
                    rotate_left
                    · intro w hSw
                      try dsimp only at hSw
                      go_simp
                      try with_reducible rfl
                    try simp only [Act.put, List.setIfInBounds_toArray, List.set_cons_zero, List.set_cons_succ]
                    refine wpAnyH_take (i := 8) (oi := {dst:=some 73,op:=Op.move (Operand.tmp 72),type:=4, pos := "law.go:236",after:=#[{on:=7,ground:=Ground.data}, {on:=3,ground:=Ground.chain}],guard:=none }) (v := ?_) rfl (by kernel_rfl) (by kernel_rfl) (by kernel_rfl) (fun _ _ _ h => h) (Or.inl ⟨by rfl, ?_⟩) (by assumption) ?_
                    rotate_left
                    · intro w hSw
                      try dsimp only at hSw
                      go_simp
                      try with_reducible rfl
                    try simp only [Act.put, List.setIfInBounds_toArray, List.set_cons_zero, List.set_cons_succ]
                    refine wpAnyH_take (i := 9) (oi := {dst:=some 74,op:=Op.fieldAddr 31 (Operand.tmp 13) 4,type:=0, pos := "law.go:236",after:=#[{on:=8,ground:=Ground.guard}],guard:=some (8, true) }) (v := ?_) rfl (by kernel_rfl) (by kernel_rfl) (by kernel_rfl) (fun _ _ _ h => h) (Or.inl ⟨by rfl, ?_⟩) (by assumption) ?_
                    rotate_left
                    · intro w hSw
                      try dsimp only at hSw
                      go_simp
                      try with_reducible rfl
                    try simp only [Act.put, List.setIfInBounds_toArray, List.set_cons_zero, List.set_cons_succ]
                    refine wpAnyH_take (i := 10) (oi := {dst:=some 75,op:=Op.load 23 (Operand.tmp 74),type:=23, pos := "law.go:236",after:=#[{on:=9,ground:=Ground.data}, {on:=8,ground:=Ground.guard}],guard:=some (8, true) }) (v := _) rfl (by kernel_rfl) (by kernel_rfl) (by kernel_rfl) (fun _ _ _ h => h) (yields_row (by rfl) _ _ rfl _ 6 rfl (fun w h => h.1) Tryz.underlying23 rfl #[.int .i64 x1, .int .i64 x2] (by kernel_rfl) (two_at rfl rfl)) (by assumption) ?_
                    try simp only [Act.put, List.setIfInBounds_toArray, List.set_cons_zero, List.set_cons_succ]
                    refine wpAnyH_take (i := 11) (oi := {dst:=some 76,op:=Op.load 23 (Operand.tmp 9),type:=23, pos := "law.go:236",after:=#[{on:=8,ground:=Ground.guard}],guard:=some (8, true) }) (v := _) rfl (by kernel_rfl) (by kernel_rfl) (by kernel_rfl) (fun _ _ _ h => h) (yields_row (by rfl) _ _ rfl _ 0 rfl (fun w h => h.2.2) Tryz.underlying23 rfl #[.int .i64 x1, .int .i64 x2] (by kernel_rfl) (two_at rfl rfl)) (by assumption) ?_
                    try simp only [Act.put, List.setIfInBounds_toArray, List.set_cons_zero, List.set_cons_succ]
                    refine wpAnyH_take (i := 12) (oi := {dst:=some 77,op:=Op.binOp BinOp.eql 23 (Operand.tmp 75) (Operand.tmp 76) 23,type:=4, pos := "law.go:236",after:=#[{on:=10,ground:=Ground.data}, {on:=11,ground:=Ground.data}, {on:=8,ground:=Ground.guard}],guard:=some (8, true) }) (v := ?_) rfl (by kernel_rfl) (by kernel_rfl) (by kernel_rfl) (fun _ _ _ h => h) (Or.inl ⟨by rfl, ?_⟩) (by assumption) ?_
                    rotate_left
                    · intro w hSw
                      try dsimp only at hSw
                      go_simp
                      try with_reducible rfl
                    try simp only [Act.put, List.setIfInBounds_toArray, List.set_cons_zero, List.set_cons_succ]
                    refine wpAnyH_take (i := 13) (oi := {dst:=some 78,op:=Op.pick (Operand.tmp 73) (Operand.tmp 77) (Operand.const (Value.bool false)),type:=4, pos := "law.go:236",after:=#[{on:=8,ground:=Ground.data}, {on:=12,ground:=Ground.data}],guard:=none }) (v := ?_) rfl (by kernel_rfl) (by kernel_rfl) (by kernel_rfl) (fun _ _ _ h => h) (Or.inl ⟨by rfl, ?_⟩) (by assumption) ?_
                    rotate_left
                    · intro w hSw
                      try dsimp only at hSw
                      go_simp
                      try with_reducible rfl
                    try simp only [Act.put, List.setIfInBounds_toArray, List.set_cons_zero, List.set_cons_succ]
                    refine wpAnyH_take (i := 14) (oi := {dst:=some 79,op:=Op.move (Operand.tmp 78),type:=4, pos := "law.go:236",after:=#[{on:=13,ground:=Ground.data}, {on:=8,ground:=Ground.chain}],guard:=none }) (v := ?_) rfl (by kernel_rfl) (by kernel_rfl) (by kernel_rfl) (fun _ _ _ h => h) (Or.inl ⟨by rfl, ?_⟩) (by assumption) ?_
                    rotate_left
                    · intro w hSw
                      try dsimp only at hSw
                      go_simp
                      try with_reducible rfl
                    try simp only [Act.put, List.setIfInBounds_toArray, List.set_cons_zero, List.set_cons_succ]
                    refine wpAnyH_take (i := 15) (oi := {dst:=some 80,op:=Op.fieldAddr 31 (Operand.tmp 13) 5,type:=0, pos := "law.go:236",after:=#[{on:=14,ground:=Ground.guard}],guard:=some (14, true) }) (v := ?_) rfl (by kernel_rfl) (by kernel_rfl) (by kernel_rfl) (fun _ _ _ h => h) (Or.inl ⟨by rfl, ?_⟩) (by assumption) ?_
                    rotate_left
                    · intro w hSw
                      try dsimp only at hSw
                      go_simp
                      try with_reducible rfl
                    try simp only [Act.put, List.setIfInBounds_toArray, List.set_cons_zero, List.set_cons_succ]
                    refine wpAnyH_take (i := 16) (oi := {dst:=some 81,op:=Op.load 4 (Operand.tmp 80),type:=4, pos := "law.go:236",after:=#[{on:=15,ground:=Ground.data}, {on:=14,ground:=Ground.guard}],guard:=some (14, true) }) (v := _) rfl (by kernel_rfl) (by kernel_rfl) (by kernel_rfl) (fun _ _ _ h => h) (yields_one (by rfl) _ _ rfl _ 8 rfl (fun w h => h.1) Tryz.underlying4 rfl rfl) (by assumption) ?_
                    try simp only [Act.put, List.setIfInBounds_toArray, List.set_cons_zero, List.set_cons_succ]
                    refine wpAnyH_take (i := 17) (oi := {dst:=some 82,op:=Op.pick (Operand.tmp 79) (Operand.tmp 81) (Operand.const (Value.bool false)),type:=4, pos := "law.go:236",after:=#[{on:=14,ground:=Ground.data}, {on:=16,ground:=Ground.data}],guard:=none }) (v := ?_) rfl (by kernel_rfl) (by kernel_rfl) (by kernel_rfl) (fun _ _ _ h => h) (Or.inl ⟨by rfl, ?_⟩) (by assumption) ?_
                    rotate_left
                    · intro w hSw
                      try dsimp only at hSw
                      go_simp
                      try with_reducible rfl
                    try simp only [Act.put, List.setIfInBounds_toArray, List.set_cons_zero, List.set_cons_succ]
                    refine wpAnyH_take (i := 18) (oi := {dst:=some 83,op:=Op.move (Operand.tmp 82),type:=4, pos := "law.go:236",after:=#[{on:=17,ground:=Ground.data}, {on:=14,ground:=Ground.chain}],guard:=none }) (v := ?_) rfl (by kernel_rfl) (by kernel_rfl) (by kernel_rfl) (fun _ _ _ h => h) (Or.inl ⟨by rfl, ?_⟩) (by assumption) ?_
                    rotate_left
                    · intro w hSw
                      try dsimp only at hSw
                      go_simp
                      try with_reducible rfl
                    try simp only [Act.put, List.setIfInBounds_toArray, List.set_cons_zero, List.set_cons_succ]
                    refine wpAnyH_take (i := 19) (oi := {dst:=some 84,op:=Op.fieldAddr 31 (Operand.tmp 13) 6,type:=0, pos := "law.go:236",after:=#[{on:=18,ground:=Ground.guard}],guard:=some (18, true) }) (v := ?_) rfl (by kernel_rfl) (by kernel_rfl) (by kernel_rfl) (fun _ _ _ h => h) (Or.inl ⟨by rfl, ?_⟩) (by assumption) ?_
                    rotate_left
                    · intro w hSw
                      try dsimp only at hSw
                      go_simp
                      try with_reducible rfl
                    try simp only [Act.put, List.setIfInBounds_toArray, List.set_cons_zero, List.set_cons_succ]
                    refine wpAnyH_take (i := 20) (oi := {dst:=some 85,op:=Op.load 25 (Operand.tmp 84),type:=25, pos := "law.go:236",after:=#[{on:=19,ground:=Ground.data}, {on:=18,ground:=Ground.guard}],guard:=some (18, true) }) (v := _) rfl (by kernel_rfl) (by kernel_rfl) (by kernel_rfl) (fun _ _ _ h => h) (yields_one (by rfl) _ _ rfl _ 9 rfl (fun w h => h.1) Tryz.underlying25 rfl rfl) (by assumption) ?_
                    try simp only [Act.put, List.setIfInBounds_toArray, List.set_cons_zero, List.set_cons_succ]
                    refine wpAnyH_take (i := 21) (oi := {dst:=some 86,op:=Op.move (Operand.tmp 5),type:=25, pos := "law.go:236",after:=#[{on:=18,ground:=Ground.guard}],guard:=some (18, true) }) (v := ?_) rfl (by kernel_rfl) (by kernel_rfl) (by kernel_rfl) (fun _ _ _ h => h) (Or.inl ⟨by rfl, ?_⟩) (by assumption) ?_
                    rotate_left
                    · intro w hSw
                      try dsimp only at hSw
                      go_simp
                      try with_reducible rfl
                    try simp only [Act.put, List.setIfInBounds_toArray, List.set_cons_zero, List.set_cons_succ]
                    refine wpAnyH_ready (rs := [22]) (by kernel_rfl) (by simp) ?_
                    refine AllReadyH.cons (o := {dst:=some 87,op:=Op.call { callee := Callee.value (Operand.func 46), args := #[Operand.tmp 85, Operand.tmp 86], argTypes := #[25, 25] },type:=4, pos := "law.go:236",after:=#[{on:=20,ground:=Ground.data}, {on:=21,ground:=Ground.data}, {on:=18,ground:=Ground.chain}, {on:=18,ground:=Ground.guard}],guard:=some (18, true) }) rfl (fun K hK => ?_) ?_
                    rotate_left
                    · exact AllReadyH.nil
                    go_simp
                    go_at_call 46
                    refine (dsame9 (.slice sa sF.length sc) (.slice da F.length dc) (SD.toD F) (SD.toD F) w13 HC_13.out.s ⟨da, dc, F, rfl, HD_13.out, rfl, HDN.out⟩ HFV.out).mono ?_
                    rw [decide_eq_true (rfl : SD.toD F = SD.toD F)]
                    rintro e w14 ⟨rfl, h5⟩
                    have HB_14 : Hid (Below W.heap.size W w14) := Lib.hid (blThen HB_13.out h5)
                    have Ki_14 := row_up Ki_13 Li_13 h5
                    have Li_14 := lt_up Li_13 h5
                    have Kx_14 := row_up Kx_13 Lx_13 h5
                    have Lx_14 := lt_up Lx_13 h5
                    have Ky_14 := row_up Ky_13 Ly_13 h5
                    have Ly_14 := lt_up Ly_13 h5
                    have Kc_14 := row_up Kc_13 Lc_13 h5
                    have Lc_14 := lt_up Lc_13 h5
                    have Ke_14 := row_up Ke_13 Le_13 h5
                    have Le_14 := lt_up Le_13 h5
                    have HAa_14 := Lib.hid (HAa_13.out.later h5)
                    have HAb_14 := Lib.hid (HAb_13.out.later h5)
                    have HD_14 := Lib.hid (HD_13.out.later h5)
                    have HC_14 := Lib.hid (HC_13.out.later h5)
                    refine hK.out _ _ (⟨Kc_14.out, Ke_14.out, Kx_14.out⟩) (fun hHeld => ?_)
                    clear hK K h5
                    try simp only [Act.put, List.setIfInBounds_toArray, List.set_cons_zero, List.set_cons_succ]
                    refine wpAnyH_take (i := 23) (oi := {dst:=some 88,op:=Op.pick (Operand.tmp 83) (Operand.tmp 87) (Operand.const (Value.bool false)),type:=4, pos := "law.go:236",after:=#[{on:=18,ground:=Ground.data}, {on:=22,ground:=Ground.data}],guard:=none }) (v := ?_) rfl (by kernel_rfl) (by kernel_rfl) (by kernel_rfl) (fun _ _ _ h => h) (Or.inl ⟨by rfl, ?_⟩) (by assumption) ?_
                    rotate_left
                    · intro w hSw
                      try dsimp only at hSw
                      go_simp
                      try with_reducible rfl
                    try simp only [Act.put, List.setIfInBounds_toArray, List.set_cons_zero, List.set_cons_succ]
                    refine wpAnyH_take (i := 24) (oi := {dst:=some 89,op:=Op.move (Operand.tmp 88),type:=4, pos := "law.go:236",after:=#[{on:=23,ground:=Ground.data}, {on:=22,ground:=Ground.chain}],guard:=none }) (v := ?_) rfl (by kernel_rfl) (by kernel_rfl) (by kernel_rfl) (fun _ _ _ h => h) (Or.inl ⟨by rfl, ?_⟩) (by assumption) ?_
                    rotate_left
                    · intro w hSw
                      try dsimp only at hSw
                      go_simp
                      try with_reducible rfl
                    try simp only [Act.put, List.setIfInBounds_toArray, List.set_cons_zero, List.set_cons_succ]
                    refine wpAnyH_take (i := 25) (oi := {dst:=some 90,op:=Op.load 31 (Operand.tmp 13),type:=31, pos := "law.go:236",after:=#[{on:=24,ground:=Ground.guard}],guard:=some (24, true) }) (v := _) rfl (by kernel_rfl) (by kernel_rfl) (by kernel_rfl) (fun _ _ _ h => h) (yields_row (by rfl) _ _ rfl _ 0 rfl (fun w h => h.1) Tryz.underlying31 rfl #[.int .i64 i1, .int .i64 i2, .slice oa a.length oc, .int .i64 1, .int .i64 0, .int .i64 0, .int .i64 x1, .int .i64 x2, .bool true, .slice sa sF.length sc, .int .i64 0, .int .i64 0, .bool false, .int .i64 0, .int .i64 0, .bool false, .int .i64 0, .int .i64 0, .slice ea eF.length ec, .bool false, .slice wa ([] : List Wrt).length wc, .slice pa ([] : Al Nat).length pc] szCmd all_at) (by assumption) ?_
                    try simp only [Act.put, List.setIfInBounds_toArray, List.set_cons_zero, List.set_cons_succ]
                    refine wpAnyH_ready (rs := [26]) (by kernel_rfl) (by simp) ?_
                    refine AllReadyH.cons (o := {dst:=some 91,op:=Op.call { callee := Callee.value (Operand.func 14), args := #[Operand.tmp 90], argTypes := #[31] },type:=35, pos := "law.go:236",after:=#[{on:=25,ground:=Ground.data}, {on:=24,ground:=Ground.chain}, {on:=24,ground:=Ground.guard}],guard:=some (24, true) }) rfl (fun K hK => ?_) ?_
                    rotate_left
                    · exact AllReadyH.nil
                    go_simp
                    go_at_call 14
                    refine (check9_any (c1F (i1, i2) (x1, x2) a (SD.toD F)) ⟨.slice oa a.length oc, .slice sa sF.length sc, .slice ea eF.length ec, .slice wa ([] : List Wrt).length wc, .slice pa ([] : Al Nat).length pc⟩ w14 HC_14.out HFEW.out).mono ?_
                    rw [HMAY.out]
                    rintro e w15 ⟨rfl, h5⟩
                    have HB_15 : Hid (Below W.heap.size W w15) := Lib.hid (blThen HB_14.out h5)
                    have Ki_15 := row_up Ki_14 Li_14 h5
                    have Li_15 := lt_up Li_14 h5
                    have Kx_15 := row_up Kx_14 Lx_14 h5
                    have Lx_15 := lt_up Lx_14 h5
                    have Ky_15 := row_up Ky_14 Ly_14 h5
                    have Ly_15 := lt_up Ly_14 h5
                    have Kc_15 := row_up Kc_14 Lc_14 h5
                    have Lc_15 := lt_up Lc_14 h5
                    have Ke_15 := row_up Ke_14 Le_14 h5
                    have Le_15 := lt_up Le_14 h5
                    have HAa_15 := Lib.hid (HAa_14.out.later h5)
                    have HAb_15 := Lib.hid (HAb_14.out.later h5)
                    have HD_15 := Lib.hid (HD_14.out.later h5)
                    have HC_15 := Lib.hid (HC_14.out.later h5)
                    refine hK.out _ _ (⟨Kc_15.out, Ke_15.out, Kx_15.out⟩) (fun hHeld => ?_)
                    clear hK K h5
                    try simp only [Act.put, List.setIfInBounds_toArray, List.set_cons_zero, List.set_cons_succ]
                    refine wpAnyH_ready (rs := [27]) (by kernel_rfl) (by simp) ?_
                    refine AllReadyH.cons (o := {dst:=some 92,op:=Op.call { callee := Callee.value (Operand.func 13), args := #[Operand.tmp 91], argTypes := #[35] },type:=3, pos := "law.go:236",after:=#[{on:=26,ground:=Ground.data}, {on:=26,ground:=Ground.chain}, {on:=24,ground:=Ground.guard}],guard:=some (24, true) }) rfl (fun K hK => ?_) ?_
                    rotate_left
                    · exact AllReadyH.nil
                    go_simp
                    go_at_call 13
                    refine (num9_any _ _).mono ?_
                    rintro e wq ⟨rfl, rfl⟩
                    refine hK.out _ _ (⟨Kc_15.out, Ke_15.out, Kx_15.out⟩) (fun hHeld => ?_)
                    clear hK K
                    try simp only [Act.put, List.setIfInBounds_toArray, List.set_cons_zero, List.set_cons_succ]
                    refine wpAnyH_take (i := 28) (oi := {dst:=some 93,op:=Op.binOp BinOp.eql 3 (Operand.tmp 92) (Operand.const (Value.int IntKind.i64 0)) 3,type:=4, pos := "law.go:236",after:=#[{on:=27,ground:=Ground.data}, {on:=24,ground:=Ground.guard}],guard:=some (24, true) }) (v := ?_) rfl (by kernel_rfl) (by kernel_rfl) (by kernel_rfl) (fun _ _ _ h => h) (Or.inl ⟨by rfl, ?_⟩) (by assumption) ?_
                    rotate_left
                    · intro w hSw
                      try dsimp only at hSw
                      go_simp
                      try with_reducible rfl
                    try simp only [Act.put, List.setIfInBounds_toArray, List.set_cons_zero, List.set_cons_succ]
                    refine wpAnyH_take (i := 29) (oi := {dst:=some 94,op:=Op.pick (Operand.tmp 89) (Operand.tmp 93) (Operand.const (Value.bool false)),type:=4, pos := "law.go:236",after:=#[{on:=24,ground:=Ground.data}, {on:=28,ground:=Ground.data}],guard:=none }) (v := ?_) rfl (by kernel_rfl) (by kernel_rfl) (by kernel_rfl) (fun _ _ _ h => h) (Or.inl ⟨by rfl, ?_⟩) (by assumption) ?_
                    rotate_left
                    · intro w hSw
                      try dsimp only at hSw
                      go_simp
                      try with_reducible rfl
                    try simp only [Act.put, List.setIfInBounds_toArray, List.set_cons_zero, List.set_cons_succ]
                    refine wpAnyH_take (i := 30) (oi := {dst:=some 95,op:=Op.move (Operand.tmp 94),type:=4, pos := "law.go:236",after:=#[{on:=29,ground:=Ground.data}, {on:=27,ground:=Ground.chain}],guard:=none }) (v := ?_) rfl (by kernel_rfl) (by kernel_rfl) (by kernel_rfl) (fun _ _ _ h => h) (Or.inl ⟨by rfl, ?_⟩) (by assumption) ?_
                    rotate_left
                    · intro w hSw
                      try dsimp only at hSw
                      go_simp
                      try with_reducible rfl
                    try simp only [Act.put, List.setIfInBounds_toArray, List.set_cons_zero, List.set_cons_succ]
                    refine wpAnyH_take (i := 31) (oi := {dst:=some 96,op:=Op.load 31 (Operand.tmp 13),type:=31, pos := "law.go:236",after:=#[{on:=30,ground:=Ground.guard}],guard:=some (30, true) }) (v := _) rfl (by kernel_rfl) (by kernel_rfl) (by kernel_rfl) (fun _ _ _ h => h) (yields_row (by rfl) _ _ rfl _ 0 rfl (fun w h => h.1) Tryz.underlying31 rfl #[.int .i64 i1, .int .i64 i2, .slice oa a.length oc, .int .i64 1, .int .i64 0, .int .i64 0, .int .i64 x1, .int .i64 x2, .bool true, .slice sa sF.length sc, .int .i64 0, .int .i64 0, .bool false, .int .i64 0, .int .i64 0, .bool false, .int .i64 0, .int .i64 0, .slice ea eF.length ec, .bool false, .slice wa ([] : List Wrt).length wc, .slice pa ([] : Al Nat).length pc] szCmd all_at) (by assumption) ?_
                    try simp only [Act.put, List.setIfInBounds_toArray, List.set_cons_zero, List.set_cons_succ]
                    refine wpAnyH_take (i := 33) (oi := {dst:=some 98,op:=Op.load 23 (Operand.tmp 9),type:=23, pos := "law.go:236",after:=#[{on:=30,ground:=Ground.guard}],guard:=some (30, true) }) (v := _) rfl (by kernel_rfl) (by kernel_rfl) (by kernel_rfl) (fun _ _ _ h => h) (yields_row (by rfl) _ _ rfl _ 0 rfl (fun w h => h.2.2) Tryz.underlying23 rfl #[.int .i64 x1, .int .i64 x2] (by kernel_rfl) (two_at rfl rfl)) (by assumption) ?_
                    try simp only [Act.put, List.setIfInBounds_toArray, List.set_cons_zero, List.set_cons_succ]
                    refine wpAnyH_ready (rs := [32]) (by kernel_rfl) (by simp) ?_
                    refine AllReadyH.cons (o := {dst:=some 97,op:=Op.call { callee := Callee.value (Operand.func 20), args := #[Operand.tmp 96], argTypes := #[31] },type:=23, pos := "law.go:236",after:=#[{on:=31,ground:=Ground.data}, {on:=30,ground:=Ground.chain}, {on:=30,ground:=Ground.guard}],guard:=some (30, true) }) rfl (fun K hK => ?_) ?_
                    rotate_left
                    · exact AllReadyH.nil
                    go_simp
                    go_at_call 20
                    refine (top_any (c1F (i1, i2) (x1, x2) a (SD.toD F)) ⟨.slice oa a.length oc, .slice sa sF.length sc, .slice ea eF.length ec, .slice wa ([] : List Wrt).length wc, .slice pa ([] : Al Nat).length pc⟩ w15 HC_15.out).mono ?_
                    rw [HTOP.out]
                    rintro e w16 ⟨rfl, h5⟩
                    have HB_16 : Hid (Below W.heap.size W w16) := Lib.hid (blThen HB_15.out h5)
                    have Ki_16 := row_up Ki_15 Li_15 h5
                    have Li_16 := lt_up Li_15 h5
                    have Kx_16 := row_up Kx_15 Lx_15 h5
                    have Lx_16 := lt_up Lx_15 h5
                    have Ky_16 := row_up Ky_15 Ly_15 h5
                    have Ly_16 := lt_up Ly_15 h5
                    have Kc_16 := row_up Kc_15 Lc_15 h5
                    have Lc_16 := lt_up Lc_15 h5
                    have Ke_16 := row_up Ke_15 Le_15 h5
                    have Le_16 := lt_up Le_15 h5
                    have HAa_16 := Lib.hid (HAa_15.out.later h5)
                    have HAb_16 := Lib.hid (HAb_15.out.later h5)
                    have HD_16 := Lib.hid (HD_15.out.later h5)
                    have HC_16 := Lib.hid (HC_15.out.later h5)
                    refine hK.out _ _ (⟨Kc_16.out, Ke_16.out, Kx_16.out⟩) (fun hHeld => ?_)
                    clear hK K h5
                    try simp only [Act.put, List.setIfInBounds_toArray, List.set_cons_zero, List.set_cons_succ]
                    refine wpAnyH_take (i := 34) (oi := {dst:=some 99,op:=Op.binOp BinOp.eql 23 (Operand.tmp 97) (Operand.tmp 98) 23,type:=4, pos := "law.go:236",after:=#[{on:=32,ground:=Ground.data}, {on:=33,ground:=Ground.data}, {on:=30,ground:=Ground.guard}],guard:=some (30, true) }) (v := ?_) rfl (by kernel_rfl) (by kernel_rfl) (by kernel_rfl) (fun _ _ _ h => h) (Or.inl ⟨by rfl, ?_⟩) (by assumption) ?_
                    rotate_left
                    · intro w hSw
                      try dsimp only at hSw
                      go_simp
                      try with_reducible rfl
                    try simp only [Act.put, List.setIfInBounds_toArray, List.set_cons_zero, List.set_cons_succ]
                    refine wpAnyH_take (i := 35) (oi := {dst:=some 100,op:=Op.pick (Operand.tmp 95) (Operand.tmp 99) (Operand.const (Value.bool false)),type:=4, pos := "law.go:236",after:=#[{on:=30,ground:=Ground.data}, {on:=34,ground:=Ground.data}],guard:=none }) (v := ?_) rfl (by kernel_rfl) (by kernel_rfl) (by kernel_rfl) (fun _ _ _ h => h) (Or.inl ⟨by rfl, ?_⟩) (by assumption) ?_
                    rotate_left
                    · intro w hSw
                      try dsimp only at hSw
                      go_simp
                      try with_reducible rfl
                    try simp only [Act.put, List.setIfInBounds_toArray, List.set_cons_zero, List.set_cons_succ]
                    refine wpAnyH_take (i := 36) (oi := {dst:=some 101,op:=Op.move (Operand.tmp 100),type:=4, pos := "law.go:236",after:=#[{on:=35,ground:=Ground.data}, {on:=32,ground:=Ground.chain}],guard:=none }) (v := ?_) rfl (by kernel_rfl) (by kernel_rfl) (by kernel_rfl) (fun _ _ _ h => h) (Or.inl ⟨by rfl, ?_⟩) (by assumption) ?_
                    rotate_left
                    · intro w hSw
                      try dsimp only at hSw
                      go_simp
                      try with_reducible rfl
                    try simp only [Act.put, List.setIfInBounds_toArray, List.set_cons_zero, List.set_cons_succ]
                    refine wpAnyH_ready (rs := [37]) (by kernel_rfl) (by simp) ?_
                    refine AllReadyH.cons (o := {dst:=some 102,op:=Op.call { callee := Callee.value (Operand.func 10), args := #[], argTypes := #[] },type:=4, pos := "law.go:236",after:=#[{on:=36,ground:=Ground.chain}, {on:=36,ground:=Ground.guard}],guard:=some (36, true) }) rfl (fun K hK => ?_) ?_
                    rotate_left
                    · exact AllReadyH.nil
                    go_simp
                    go_at_call 10
                    refine (live9_any w16).mono ?_
                    rintro e w17 ⟨rfl, h5⟩
                    have HB_17 : Hid (Below W.heap.size W w17) := Lib.hid (blThen HB_16.out h5)
                    have Ki_17 := row_up Ki_16 Li_16 h5
                    have Li_17 := lt_up Li_16 h5
                    have Kx_17 := row_up Kx_16 Lx_16 h5
                    have Lx_17 := lt_up Lx_16 h5
                    have Ky_17 := row_up Ky_16 Ly_16 h5
                    have Ly_17 := lt_up Ly_16 h5
                    have Kc_17 := row_up Kc_16 Lc_16 h5
                    have Lc_17 := lt_up Lc_16 h5
                    have Ke_17 := row_up Ke_16 Le_16 h5
                    have Le_17 := lt_up Le_16 h5
                    have HAa_17 := Lib.hid (HAa_16.out.later h5)
                    have HAb_17 := Lib.hid (HAb_16.out.later h5)
                    have HD_17 := Lib.hid (HD_16.out.later h5)
                    have HC_17 := Lib.hid (HC_16.out.later h5)
                    refine hK.out _ _ (⟨Kc_17.out, Ke_17.out, Kx_17.out⟩) (fun hHeld => ?_)
                    clear hK K h5
                    try simp only [Act.put, List.setIfInBounds_toArray, List.set_cons_zero, List.set_cons_succ]
                    refine wpAnyH_take (i := 38) (oi := {dst:=some 103,op:=Op.pick (Operand.tmp 101) (Operand.tmp 102) (Operand.const (Value.bool false)),type:=4, pos := "law.go:236",after:=#[{on:=36,ground:=Ground.data}, {on:=37,ground:=Ground.data}],guard:=none }) (v := ?_) rfl (by kernel_rfl) (by kernel_rfl) (by kernel_rfl) (fun _ _ _ h => h) (Or.inl ⟨by rfl, ?_⟩) (by assumption) ?_
                    rotate_left
                    · intro w hSw
                      try dsimp only at hSw
                      go_simp
                      try with_reducible rfl
                    try simp only [Act.put, List.setIfInBounds_toArray, List.set_cons_zero, List.set_cons_succ]
                    refine wpAnyH_take (i := 39) (oi := {dst:=some 12,op:=Op.assign (Operand.tmp 103),type:=4, pos := "law.go:236",after:=#[{on:=38,ground:=Ground.data}, {on:=37,ground:=Ground.chain}, {on:=0,ground:=Ground.phase}, {on:=1,ground:=Ground.phase}, {on:=2,ground:=Ground.phase}, {on:=3,ground:=Ground.phase}, {on:=4,ground:=Ground.phase}, {on:=5,ground:=Ground.phase}, {on:=6,ground:=Ground.phase}, {on:=7,ground:=Ground.phase}, {on:=8,ground:=Ground.phase}, {on:=9,ground:=Ground.phase}, {on:=10,ground:=Ground.phase}, {on:=11,ground:=Ground.phase}, {on:=12,ground:=Ground.phase}, {on:=13,ground:=Ground.phase}, {on:=14,ground:=Ground.phase}, {on:=15,ground:=Ground.phase}, {on:=16,ground:=Ground.phase}, {on:=17,ground:=Ground.phase}, {on:=18,ground:=Ground.phase}, {on:=19,ground:=Ground.phase}, {on:=20,ground:=Ground.phase}, {on:=21,ground:=Ground.phase}, {on:=22,ground:=Ground.phase}, {on:=23,ground:=Ground.phase}, {on:=24,ground:=Ground.phase}, {on:=25,ground:=Ground.phase}, {on:=26,ground:=Ground.phase}, {on:=27,ground:=Ground.phase}, {on:=28,ground:=Ground.phase}, {on:=29,ground:=Ground.phase}, {on:=30,ground:=Ground.phase}, {on:=31,ground:=Ground.phase}, {on:=32,ground:=Ground.phase}, {on:=33,ground:=Ground.phase}, {on:=34,ground:=Ground.phase}, {on:=35,ground:=Ground.phase}, {on:=36,ground:=Ground.phase}, {on:=37,ground:=Ground.phase}, {on:=38,ground:=Ground.phase}],guard:=none }) (v := ?_) rfl (by kernel_rfl) (by kernel_rfl) (by kernel_rfl) (fun _ _ _ h => h) (Or.inl ⟨by rfl, ?_⟩) (by assumption) ?_
                    rotate_left
                    · intro w hSw
                      try dsimp only at hSw
                      go_simp
                      try with_reducible rfl
                    try simp only [Act.put, List.setIfInBounds_toArray, List.set_cons_zero, List.set_cons_succ]
                    refine wpAnyH_done (by kernel_rfl) ?_ _
                    go_wp2
                    go_ret
                    exact ⟨rfl, HB_17.out⟩
          · go_wp2_with (first | go_skip | ((with_reducible refine atC w5 ?_); go_at_call 10; go_must (refine (live9_any w5).mono ?_; rintro e w6 ⟨rfl, h5⟩; have HB_6 : Hid (Below W.heap.size W w6) := Lib.hid (blThen HB_5.out h5); have Ki_6 := row_up Ki_5 Li_5 h5; have Li_6 := lt_up Li_5 h5; have Kx_6 := row_up Kx_5 Lx_5 h5; have Lx_6 := lt_up Lx_5 h5; have Ky_6 := row_up Ky_5 Ly_5 h5; have Ly_6 := lt_up Ly_5 h5; have HAa_6 := Lib.hid (HAa_5.out.later h5); have HAb_6 := Lib.hid (HAb_5.out.later h5); have HD_6 := Lib.hid (HD_5.out.later h5); clear h5)) | ((with_reducible refine atC w4 ?_); go_at_call 28; go_must (refine (S1.less_any x1 x2 i1 i2 w4).mono ?_; rw [hc]; rintro e w5 ⟨rfl, h5⟩; have h5 := below_grow (Below.refl _ _) h5; have HB_5 : Hid (Below W.heap.size W w5) := Lib.hid (blThen HB_4.out h5); have Ki_5 := row_up Ki_4 Li_4 h5; have Li_5 := lt_up Li_4 h5; have Kx_5 := row_up Kx_4 Lx_4 h5; have Lx_5 := lt_up Lx_4 h5; have Ky_5 := row_up Ky_4 Ly_4 h5; have Ly_5 := lt_up Ly_4 h5; have HAa_5 := Lib.hid (HAa_4.out.later h5); have HAb_5 := Lib.hid (HAb_4.out.later h5); have HD_5 := Lib.hid (HD_4.out.later h5); clear h5)))
            go_ret
            exact ⟨rfl, HB_6.out⟩
end SC
end Go.Proofs.YtabeakddkmefgaaGreat

namespace Go.Proofs.YtabeakddkmefgaaGreat
open S3 SN SP
namespace SC
open Go.ChangeShapes Go.WideShapes Go.ChangeAt Go.RowKit Go.Joins Go.Deep
set_option maxRecDepth 100000 in
theorem cmdFirst_lifted (os : Os) (started : os.Started) (H : Type) (enc : TypeId × Value → H) :
    ReturnsInHanded {} Tryz.checked os 8 .any (Rows.cmdFirstSpec.pre6 enc Tryz.prog Tryz.f8 Rows.cmdFirstRow.domain false) (Rows.cmdFirstSpec.post enc Tryz.prog Tryz.f8 false true false false) := by
  refine law_lift_sized (C := Tryz.checked) own0 started (by kernel_rfl) Tryz.func8 laid0 rfl (by kernel_rfl) (fun _ _ _ _ => trodAll_mk1 (shut_bool Tryz.underlying4 true)) (fun ds h => match ds, h with | [_, _, _, _, _, _], _ => ⟨rfl, rfl, rfl⟩)
    (ChangeSpec.witness6 (enc := enc) (C := Tryz.checked) false ⟨#[], #[.agg #[.int .i64 0, .int .i64 0], .slice none 0 0, .slice none 0 0, .agg #[.int .i64 0, .int .i64 0], .agg #[.int .i64 0, .int .i64 0], .slice none 0 0], []⟩ 8 (by kernel_rfl) (by kernel_rfl) (by kernel_rfl) (by kernel_rfl)) ?_
  intro W base args ds before hval0 hA0 hlt hsz
  have hval : ∀ (j : Nat) t v, Tryz.f8.params[j]? = some t → args[j]? = some v → Value.okWide Tryz.prog W .any base t v := hval0
  have hA : DataW.TrodAll enc Tryz.prog W 0 (fun _ => true) true Tryz.f8.params.toList args.toList ds before := hA0
  rw [Tryz.params8] at hA hval
  obtain ⟨v0, v1, v2, v3, v4, v5, d0, d1, d2, d3, d4, d5, p0, p1, p2, p3, p4, p5, rfl, rfl, rfl, h0, h1, h2, h3, h4, h5⟩ := trodAll_six9 hA
  obtain ⟨i1, i2, rfl, _, _⟩ := S1.open_stamp (hval 0 23 v0 rfl rfl) h0
  obtain ⟨a, ha, hma, ra⟩ := open_ops (hval 1 24 v1 rfl rfl) h1
  obtain ⟨b, hb, hmb, rb⟩ := open_ops (hval 2 24 v2 rfl rfl) h2
  obtain ⟨x1, x2, rfl, _, _⟩ := S1.open_stamp (hval 3 23 v3 rfl rfl) h3
  obtain ⟨y1, y2, rfl, _, _⟩ := S1.open_stamp (hval 4 23 v4 rfl rfl) h4
  obtain ⟨da, F, dc, rfl, hl, hm, hdn, _, hwf, hr⟩ := SD.open_deps (hval 5 25 v5 rfl rfl) h5
  exact cmdFirst_walk (i1, i2) (x1, x2) (y1, y2) v1 v2 a b da dc F W hma (fun o ho => (ra o ho).2.1) ha hmb (fun o ho => (rb o ho).2.1) hb hm (hr _ _ 5 hsz (by kernel_rfl) rfl) hl hdn (wf_deps hwf)
theorem cmdFirst_f_inPlace : (Rows.cmdFirstRow.inPlace == Tryz.prog.inPlace 8) = true := by kernel_rfl
theorem cmdFirst_f_unfollowed : (Rows.cmdFirstRow.unfollowed == Tryz.prog.unfollowed 8) = true := by kernel_rfl
theorem cmdFirst_f_recurses : (Rows.cmdFirstRow.recurses == Tryz.prog.recurses 8) = true := by kernel_rfl
theorem cmdFirst_f_named : (Rows.cmdFirstRow.named == Tryz.prog.varsNamed 8) = true := by kernel_rfl
theorem cmdFirst_laid : laidOutB Tryz.prog = true := by kernel_rfl
theorem cmdFirst_rowed : mapsRowed Tryz.prog = true := by kernel_rfl
theorem cmdFirst_closed : joinedFacts Tryz.prog 8 Tryz.f8 Rows.cmdFirstSpec Rows.cmdFirstRow = true := by
  unfold joinedFacts
  rw [cmdFirst_laid, cmdFirst_rowed, cmdFirst_f_inPlace, cmdFirst_f_unfollowed, cmdFirst_f_recurses, cmdFirst_f_named]
  kernel_rfl
theorem cmdFirst_holds : Rows.CmdFirstSaid :=
  OpenClaim.holds_of_wide 8 Tryz.f8 rfl rfl rfl rfl rfl rfl rfl ⟨rfl, rfl, rfl, rfl, rfl⟩ rfl rfl rfl rfl rfl (by kernel_rfl) Tryz.func8 cmdFirst_closed
    (of_decide_eq_true (by kernel_rfl)) (by unfold Func.isWrapper; rw [if_neg (of_decide_eq_false (by kernel_rfl))]; exact ⟨rfl, rfl⟩)
    (fun os started H enc _ => cmdFirst_lifted os started H enc)
#print axioms cmdFirst_holds
end SC
end Go.Proofs.YtabeakddkmefgaaGreat
