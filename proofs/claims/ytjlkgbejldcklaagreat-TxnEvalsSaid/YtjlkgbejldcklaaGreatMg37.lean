/- note of the reference: a write in its place. Conditions: at most a hundred thousand writes. -/
import Derived.Deep.RegionHeld3
import Derived.WalkSpells
import Derived.Test.YtjlkgbejldcklaaGreatMg36
set_option linter.unusedVariables false
set_option linter.unusedSimpArgs false
namespace Go.Proofs.YtjlkgbejldcklaaGreat
open S3 SN
namespace SP
open Go.ChangeShapes Go.WideShapes Go.ChangeAt Go.RowKit Go.Joins Go.Deep
theorem wp_append_G {α : Type} {E : Enc α} {T : TypeId} {w : World} {o : Oper} {a : Act} {K : Act → World → Prop} {Q : Exit → Act → World → Prop} (S : TypeId) (zv : Value) (bytes : Nat)
    (hinfo : (Tryz.prog.info? T).map (fun i => (i.zero, i.size, i.bytes)) = some (some zv, E.K, bytes)) (hund : Tryz.prog.underlying S = some (.slice T)) (hzc : zv.cells.size = E.K) (hbytes : bytes ≤ 1000) (s x : Operand)
    (ho : o.op = .call { callee := .builtin .append, args := #[s, x], argTypes := #[S, S] })
    (base : Nat) (v : Value) (d : List α) (hs : a.eval s = v) (hown : OwnG E T w base v d) (xv : Value) (l : List α) (hx : a.eval x = xv) (hsl : SlG E w xv l)
    (hlen : d.length + l.length ≤ 4000000) (hbase : base ≤ w.heap.size)
    (h : ∀ v' w', OwnG E T w' base v' (d ++ l) → w.grownBy w' v.ownBlock → K (a.put o.dst v') w') : o.wp Tryz.prog a w K Q := by
  obtain ⟨i0, hi, hz0, hz1, hz2⟩ := info_parts hinfo
  obtain ⟨ad, cap, rfl, hn, hr⟩ := hsl
  cases ad with
  | none =>
    obtain rfl : cap = 0 := hn rfl
    obtain rfl : l = [] := by
      apply Classical.byContradiction
      intro hne
      obtain ⟨_, _, h, _⟩ := hr hne
      cases h
    have hx' : a.eval x = .slice none 0 0 := hx
    have hrun := run_append_owned_none (P := Tryz.prog) (w := w) base S o.type T i0 E.K hund hi v d.length (cellsG E d) hown
    unfold Oper.wp
    simp [execOp, ho, resolve, invoke, builtin, hs, hx', hrun, Result.andThen]
    exact (h v w (by rw [List.append_nil]; exact hown) ⟨rfl, rfl, rfl, Nat.le_refl _, fun _ _ _ => rfl⟩)
  | some ad =>
    have hc : ∀ (j : Nat) (u : Value), (cellsG E l)[j]? = some u → w.cell? (ad.add j) = some u := by
      intro j u hj
      have hne : l ≠ [] := by rintro rfl; simp [cellsG] at hj
      obtain ⟨g, o', ha, _, hrow⟩ := hr hne
      simp only [Option.some.injEq] at ha
      subst ha
      exact hrow.cells j u hj
    have hb2 : (d.length + l.length) * bytes ≤ 4000000 * 1000 := Nat.mul_le_mul hlen hbytes
    refine wp_append_own w s x S ho base T i0 zv E.K bytes hund hi hz0 hz1 hz2 hzc E.pos v d.length (cellsG E d) hs hown ad l.length cap (cellsG E l) hx (cellsG_length l) hc (cellsG_one l) (by unfold maxLen; omega) (by omega) hbase fun v' w' h2 h3 _ => ?_
    refine h v' w' ?_ h3
    show w'.ownsRow base _ E.K v' _ _
    rw [List.length_append, cellsG_append]
    exact h2
theorem SlG.kept {α : Type} {E : Enc α} {w w' : World} {g o n c : Nat} {l : List α} {row : Option Nat} (h : SlG E w (.slice (some ⟨g, o, none⟩) n c) l) (hg : w.grownBy w' row) (hne : row ≠ some g) : SlG E w' (.slice (some ⟨g, o, none⟩) n c) l := by
  obtain ⟨a', cap', hv, hn, hr⟩ := h
  refine ⟨a', cap', hv, hn, fun hl => ?_⟩
  obtain ⟨g', o', ha, hlt, hrow⟩ := hr hl
  subst ha
  cases hv
  refine ⟨g, o, rfl, Nat.lt_of_lt_of_le hlt hg.size, fun i x hi j u hu => ?_⟩
  have := hrow i x hi j u hu
  have hb := hg.block g hlt (fun e => hne e.symm)
  simp only [World.cell?] at this ⊢
  rw [hb]
  exact this
set_option maxRecDepth 100000 in
set_option maxHeartbeats 64000000 in
theorem rnote_any (a : Option Addr) (cap : Nat) (d : Al (Nat × Bool)) (x : Wrt) (w : World) (hlen : d.length ≤ 100000) (hcap : d.length ≤ cap) (ha : SlG eW w (.slice a d.length cap) d) : Calls Tryz.prog 147 #[.slice a d.length cap, wrV x] w fun e w' => ∃ v, e = .returned v ∧ OwnWr w' w.heap.size v (putA d x.1 x.2) ∧ Below w.heap.size w w' := by
  obtain ⟨key, n, gone⟩ := x
  have hv : putA d key (n, gone) = d.take (fndA d key) ++ [(key, n, gone)] ++ d.drop (fndA d key + if thereA d key = true then 1 else 0) := by
    rw [putA_cut]; simp
  simp only
  generalize putA d key (n, gone) = V at *
  have HA := Lib.hid ha
  unfold wrV
  simp only
  have HB0 : Hid (Below w.heap.size w (w.alloc (.cells #[.string key, .int .u64 (n : Int), .bool gone] 178))) := blAlloc (Below.refl _ _) _
  obtain ⟨y0, y1, y2, y3⟩ := one_wr w (key, n, gone) _ rfl
  simp only at y0 y1 y2 y3
  have HA0 := Lib.hid (ha.later HB0.out)
  have HV0 := Lib.hid hv
  generalize hN : d.length = N at *
  have HN := Lib.hid hN
  clear hN ha hv
  go_enter Tryz.func147, Tryz.ntmps147
  go_wp2_with fail
  generalize hW0 : (w.alloc (.cells #[.string key, .int .u64 (n : Int), .bool gone] 178)) = W0 at *
  have hs0 : w.heap.size < W0.heap.size := y3
  have KB := Lib.hid (fun (Y : World) (hY : Below W0.heap.size W0 Y) => (⟨cell_in hY y3 y0, cell_in hY y3 y1, cell_in hY y3 y2⟩ : Y.cell? ⟨w.heap.size, 0, none⟩ = some (.string key) ∧ Y.cell? ⟨w.heap.size, 1, none⟩ = some (.int .u64 (n : Int)) ∧ Y.cell? ⟨w.heap.size, 2, none⟩ = some (.bool gone)))
  clear hW0 y0 y1 y2 y3
  go_loopw [5] (fun i wr => ∃ k : Nat, k ≤ N ∧ i = .int .i64 k ∧ (∀ (j : Nat) p, j < k → d[j]? = some p → ltT p.1 key = true) ∧ Below W0.heap.size W0 wr) (fun i _ => N - (intOf i).toNat)
  case atStart => exact ⟨0, Nat.zero_le _, rfl, fun j p h => by omega, Below.refl _ _⟩
  case round =>
    obtain ⟨k, hk, rfl, hlow, hb⟩ := hrel
    have HB := Lib.hid hb
    have HLOW := Lib.hid hlow
    have HAr := Lib.hid (HA0.out.later hb)
    clear hb hlow
    have hq0 : (0 : Int) ≤ (k : Int) := by omega
    have hqN : (k : Int) ≤ (N : Int) := by omega
    have hqC : (k : Int) ≤ (cap : Int) := by omega
    by_cases hlt : k < N
    · obtain ⟨⟨pk, pn, pg⟩, hx⟩ := at_lt (l := d) (k := k) (by have := HN.out; omega)
      have HX := Lib.hid hx
      obtain ⟨g, o, hA, hg, c0, _⟩ := wrs_at HA0.out hx
      simp only at c0
      have K3 := Lib.hid (fun (Y : World) (hY : Below W0.heap.size W0 Y) => (⟨cell_in hY hg c0, (KB.out Y hY).1⟩ : Y.cell? ⟨g, o + k * 3, none⟩ = some (.string pk) ∧ Y.cell? ⟨w.heap.size, 0, none⟩ = some (.string key)))
      have hk1 : (k : Int) < (N : Int) := by omega
      have hdk : decide ((k : Int) < (N : Int)) = true := decide_eq_true hk1
      have hdn : decide (k < N) = true := decide_eq_true hlt
      clear hx c0 hg
      subst hA
      cases hL : ltT pk key
      · have t1 : Op.bytesLess pk.toList key.toList = false := hL
        have hq : fndA d key = k := fndA_is (by have := HN.out; omega) HLOW.out fun p hp => by
          rw [HX.out] at hp
          cases hp
          exact hL
        have hTH : thereA d key = (pk.toList == key.toList) := thereA_of (p := (pk, pn, pg)) (by rw [hq]; exact HX.out)
        rw [hq, hTH] at HV0
        clear hq hTH HLOW HX
        have hc0 : ¬ cap = 0 := by omega
        have hcq : ¬ cap = k := by omega
        cases hE : pk.toList == key.toList
        · have HV : Hid (V = d.take k ++ [(key, n, gone)] ++ d.drop k) := by have := HV0.out; rw [hE] at this; show _ = _; simpa using this
          clear HV0
          have HTK := Lib.hid (slG_take HAr.out k (by have := HN.out; omega))
          have HR := Lib.hid (fun (Y : World) (hY : Below wr.heap.size wr Y) => (show SlG eW wr (.slice (some ⟨g, o + k * 3, none⟩) (N - k) (cap - k)) (d.drop k) from slG_drop HAr.out k _ _ (by rw [List.length_drop, HN.out])).later hY)
          have HLR : Hid (((d.drop k)).length ≤ 100000) := by show _ ≤ _; rw [List.length_drop]; have := HN.out; omega
          have HLT : Hid ((d.take k).length ≤ 100000) := by show _ ≤ _; rw [List.length_take]; have := HN.out; omega
          go_wp2_with fail
          refine wp_region_held_drew (S := fun Y => Y.cell? ⟨g, o + k * 3, none⟩ = some (.string pk) ∧ Y.cell? ⟨w.heap.size, 0, none⟩ = some (.string key)) (by kernel_rfl) (K3.out _ HB.out.drew) (fun hHeld => ?_)
          refine wpAnyH_take (i := 0) (oi := { dst := some 7, op := Op.move (Operand.tmp 5), type := 3, pos := "ref.go:142", after := #[], guard := none }) (v := ?_) rfl (by kernel_rfl) (by kernel_rfl) (by kernel_rfl) (fun _ _ _ h => h) (Or.inl ⟨by rfl, ?_⟩) (by assumption) ?_
          rotate_left
          · intro w hSw
            try dsimp only at hSw
            go_simp
            try with_reducible rfl
          try simp only [Act.put, List.setIfInBounds_toArray, List.set_cons_zero, List.set_cons_succ]
          refine wpAnyH_take (i := 1) (oi := { dst := some 8, op := Op.move (Operand.tmp 0), type := 75, pos := "ref.go:142", after := #[], guard := none }) (v := ?_) rfl (by kernel_rfl) (by kernel_rfl) (by kernel_rfl) (fun _ _ _ h => h) (Or.inl ⟨by rfl, ?_⟩) (by assumption) ?_
          rotate_left
          · intro w hSw
            try dsimp only at hSw
            go_simp
            try with_reducible rfl
          try simp only [Act.put, List.setIfInBounds_toArray, List.set_cons_zero, List.set_cons_succ]
          refine wpAnyH_take (i := 2) (oi := { dst := some 9, op := Op.call { callee := Callee.builtin Builtin.len, args := #[Operand.tmp 8], argTypes := #[75] }, type := 3, pos := "ref.go:142", after := #[{ on := 1, ground := Ground.data }], guard := none }) (v := ?_) rfl (by kernel_rfl) (by kernel_rfl) (by kernel_rfl) (fun _ _ _ h => h) (Or.inl ⟨by rfl, ?_⟩) (by assumption) ?_
          rotate_left
          · intro w hSw
            try dsimp only at hSw
            go_simp
            try with_reducible rfl
          try simp only [Act.put, List.setIfInBounds_toArray, List.set_cons_zero, List.set_cons_succ]
          refine wpAnyH_take (i := 3) (oi := { dst := some 10, op := Op.binOp BinOp.lss 3 (Operand.tmp 7) (Operand.tmp 9) 3, type := 4, pos := "ref.go:142", after := #[{ on := 0, ground := Ground.data }, { on := 2, ground := Ground.data }], guard := none }) (v := ?_) rfl (by kernel_rfl) (by kernel_rfl) (by kernel_rfl) (fun _ _ _ h => h) (Or.inl ⟨by rfl, ?_⟩) (by assumption) ?_
          rotate_left
          · intro w hSw
            try dsimp only at hSw
            go_simp
            try with_reducible rfl
          try simp only [Act.put, List.setIfInBounds_toArray, List.set_cons_zero, List.set_cons_succ]
          refine wpAnyH_take (i := 4) (oi := { dst := some 11, op := Op.move (Operand.tmp 10), type := 4, pos := "ref.go:142", after := #[{ on := 3, ground := Ground.data }], guard := none }) (v := ?_) rfl (by kernel_rfl) (by kernel_rfl) (by kernel_rfl) (fun _ _ _ h => h) (Or.inl ⟨by rfl, ?_⟩) (by assumption) ?_
          rotate_left
          · intro w hSw
            try dsimp only at hSw
            go_simp
            try with_reducible rfl
          try simp only [Act.put, List.setIfInBounds_toArray, List.set_cons_zero, List.set_cons_succ]
          refine wpAnyH_take (i := 5) (oi := { dst := some 12, op := Op.move (Operand.tmp 0), type := 75, pos := "ref.go:142", after := #[{ on := 4, ground := Ground.guard }], guard := some (4, true) }) (v := ?_) rfl (by kernel_rfl) (by kernel_rfl) (by kernel_rfl) (fun _ _ _ h => h) (Or.inl ⟨by rfl, ?_⟩) (by assumption) ?_
          rotate_left
          · intro w hSw
            try dsimp only at hSw
            go_simp
            try with_reducible rfl
          try simp only [Act.put, List.setIfInBounds_toArray, List.set_cons_zero, List.set_cons_succ]
          refine wpAnyH_take (i := 6) (oi := { dst := some 13, op := Op.move (Operand.tmp 5), type := 3, pos := "ref.go:142", after := #[{ on := 4, ground := Ground.guard }], guard := some (4, true) }) (v := ?_) rfl (by kernel_rfl) (by kernel_rfl) (by kernel_rfl) (fun _ _ _ h => h) (Or.inl ⟨by rfl, ?_⟩) (by assumption) ?_
          rotate_left
          · intro w hSw
            try dsimp only at hSw
            go_simp
            try with_reducible rfl
          try simp only [Act.put, List.setIfInBounds_toArray, List.set_cons_zero, List.set_cons_succ]
          refine wpAnyH_take (i := 7) (oi := { dst := some 14, op := Op.indexAddr 75 (Operand.tmp 12) (Operand.tmp 13), type := 0, pos := "ref.go:142", after := #[{ on := 5, ground := Ground.data }, { on := 6, ground := Ground.data }, { on := 4, ground := Ground.guard }], guard := some (4, true) }) (v := ?_) rfl (by kernel_rfl) (by kernel_rfl) (by kernel_rfl) (fun _ _ _ h => h) (Or.inl ⟨by rfl, ?_⟩) (by assumption) ?_
          rotate_left
          · intro w hSw
            try dsimp only at hSw
            go_simp
            try with_reducible rfl
          try simp only [Act.put, List.setIfInBounds_toArray, List.set_cons_zero, List.set_cons_succ]
          refine wpAnyH_take (i := 8) (oi := { dst := some 15, op := Op.fieldAddr 178 (Operand.tmp 14) 0, type := 0, pos := "ref.go:142", after := #[{ on := 7, ground := Ground.data }, { on := 4, ground := Ground.guard }], guard := some (4, true) }) (v := ?_) rfl (by kernel_rfl) (by kernel_rfl) (by kernel_rfl) (fun _ _ _ h => h) (Or.inl ⟨by rfl, ?_⟩) (by assumption) ?_
          rotate_left
          · intro w hSw
            try dsimp only at hSw
            go_simp
            try with_reducible rfl
          try simp only [Act.put, List.setIfInBounds_toArray, List.set_cons_zero, List.set_cons_succ]
          refine wpAnyH_take (i := 9) (oi := { dst := some 16, op := Op.load 9 (Operand.tmp 15), type := 9, pos := "ref.go:142", after := #[{ on := 8, ground := Ground.data }, { on := 4, ground := Ground.guard }], guard := some (4, true) }) (v := ?_) rfl (by kernel_rfl) (by kernel_rfl) (by kernel_rfl) (fun _ _ _ h => h) (Or.inl ⟨by rfl, ?_⟩) (by assumption) ?_
          rotate_left
          · intro w hSw
            try dsimp only at hSw
            go_simp
            try with_reducible rfl
          try simp only [Act.put, List.setIfInBounds_toArray, List.set_cons_zero, List.set_cons_succ]
          refine wpAnyH_take (i := 10) (oi := { dst := some 17, op := Op.fieldAddr 178 (Operand.tmp 3) 0, type := 0, pos := "ref.go:142", after := #[{ on := 4, ground := Ground.guard }], guard := some (4, true) }) (v := ?_) rfl (by kernel_rfl) (by kernel_rfl) (by kernel_rfl) (fun _ _ _ h => h) (Or.inl ⟨by rfl, ?_⟩) (by assumption) ?_
          rotate_left
          · intro w hSw
            try dsimp only at hSw
            go_simp
            try with_reducible rfl
          try simp only [Act.put, List.setIfInBounds_toArray, List.set_cons_zero, List.set_cons_succ]
          refine wpAnyH_take (i := 11) (oi := { dst := some 18, op := Op.load 9 (Operand.tmp 17), type := 9, pos := "ref.go:142", after := #[{ on := 10, ground := Ground.data }, { on := 4, ground := Ground.guard }], guard := some (4, true) }) (v := ?_) rfl (by kernel_rfl) (by kernel_rfl) (by kernel_rfl) (fun _ _ _ h => h) (Or.inl ⟨by rfl, ?_⟩) (by assumption) ?_
          rotate_left
          · intro w hSw
            try dsimp only at hSw
            go_simp
            try with_reducible rfl
          try simp only [Act.put, List.setIfInBounds_toArray, List.set_cons_zero, List.set_cons_succ]
          refine wpAnyH_take (i := 12) (oi := { dst := some 19, op := Op.binOp BinOp.lss 9 (Operand.tmp 16) (Operand.tmp 18) 9, type := 4, pos := "ref.go:142", after := #[{ on := 9, ground := Ground.data }, { on := 11, ground := Ground.data }, { on := 4, ground := Ground.guard }], guard := some (4, true) }) (v := ?_) rfl (by kernel_rfl) (by kernel_rfl) (by kernel_rfl) (fun _ _ _ h => h) (Or.inl ⟨by rfl, ?_⟩) (by assumption) ?_
          rotate_left
          · intro w hSw
            try dsimp only at hSw
            go_simp
            try with_reducible rfl
          try simp only [Act.put, List.setIfInBounds_toArray, List.set_cons_zero, List.set_cons_succ]
          refine wpAnyH_take (i := 13) (oi := { dst := some 20, op := Op.pick (Operand.tmp 11) (Operand.tmp 19) (Operand.const (Value.bool false)), type := 4, pos := "ref.go:142", after := #[{ on := 4, ground := Ground.data }, { on := 12, ground := Ground.data }], guard := none }) (v := ?_) rfl (by kernel_rfl) (by kernel_rfl) (by kernel_rfl) (fun _ _ _ h => h) (Or.inl ⟨by rfl, ?_⟩) (by assumption) ?_
          rotate_left
          · intro w hSw
            try dsimp only at hSw
            go_simp
            try with_reducible rfl
          try simp only [Act.put, List.setIfInBounds_toArray, List.set_cons_zero, List.set_cons_succ]
          refine wpAnyH_done (by kernel_rfl) ?_ _
          go_wp2_with fail
          refine wp_region_held_drew (S := fun Y => Y.cell? ⟨g, o + k * 3, none⟩ = some (.string pk) ∧ Y.cell? ⟨w.heap.size, 0, none⟩ = some (.string key)) (by kernel_rfl) (K3.out _ HB.out.drew.drew) (fun hHeld => ?_)
          refine wpAnyH_take (i := 0) (oi := { dst := some 26, op := Op.move (Operand.tmp 5), type := 3, pos := "ref.go:146", after := #[], guard := none }) (v := ?_) rfl (by kernel_rfl) (by kernel_rfl) (by kernel_rfl) (fun _ _ _ h => h) (Or.inl ⟨by rfl, ?_⟩) (by assumption) ?_
          rotate_left
          · intro w hSw
            try dsimp only at hSw
            go_simp
            try with_reducible rfl
          try simp only [Act.put, List.setIfInBounds_toArray, List.set_cons_zero, List.set_cons_succ]
          refine wpAnyH_take (i := 1) (oi := { dst := some 27, op := Op.move (Operand.tmp 0), type := 75, pos := "ref.go:146", after := #[], guard := none }) (v := ?_) rfl (by kernel_rfl) (by kernel_rfl) (by kernel_rfl) (fun _ _ _ h => h) (Or.inl ⟨by rfl, ?_⟩) (by assumption) ?_
          rotate_left
          · intro w hSw
            try dsimp only at hSw
            go_simp
            try with_reducible rfl
          try simp only [Act.put, List.setIfInBounds_toArray, List.set_cons_zero, List.set_cons_succ]
          refine wpAnyH_take (i := 2) (oi := { dst := some 28, op := Op.call { callee := Callee.builtin Builtin.len, args := #[Operand.tmp 27], argTypes := #[75] }, type := 3, pos := "ref.go:146", after := #[{ on := 1, ground := Ground.data }], guard := none }) (v := ?_) rfl (by kernel_rfl) (by kernel_rfl) (by kernel_rfl) (fun _ _ _ h => h) (Or.inl ⟨by rfl, ?_⟩) (by assumption) ?_
          rotate_left
          · intro w hSw
            try dsimp only at hSw
            go_simp
            try with_reducible rfl
          try simp only [Act.put, List.setIfInBounds_toArray, List.set_cons_zero, List.set_cons_succ]
          refine wpAnyH_take (i := 3) (oi := { dst := some 29, op := Op.binOp BinOp.lss 3 (Operand.tmp 26) (Operand.tmp 28) 3, type := 4, pos := "ref.go:146", after := #[{ on := 0, ground := Ground.data }, { on := 2, ground := Ground.data }], guard := none }) (v := ?_) rfl (by kernel_rfl) (by kernel_rfl) (by kernel_rfl) (fun _ _ _ h => h) (Or.inl ⟨by rfl, ?_⟩) (by assumption) ?_
          rotate_left
          · intro w hSw
            try dsimp only at hSw
            go_simp
            try with_reducible rfl
          try simp only [Act.put, List.setIfInBounds_toArray, List.set_cons_zero, List.set_cons_succ]
          refine wpAnyH_take (i := 4) (oi := { dst := some 30, op := Op.move (Operand.tmp 29), type := 4, pos := "ref.go:146", after := #[{ on := 3, ground := Ground.data }], guard := none }) (v := ?_) rfl (by kernel_rfl) (by kernel_rfl) (by kernel_rfl) (fun _ _ _ h => h) (Or.inl ⟨by rfl, ?_⟩) (by assumption) ?_
          rotate_left
          · intro w hSw
            try dsimp only at hSw
            go_simp
            try with_reducible rfl
          try simp only [Act.put, List.setIfInBounds_toArray, List.set_cons_zero, List.set_cons_succ]
          refine wpAnyH_take (i := 5) (oi := { dst := some 31, op := Op.move (Operand.tmp 0), type := 75, pos := "ref.go:146", after := #[{ on := 4, ground := Ground.guard }], guard := some (4, true) }) (v := ?_) rfl (by kernel_rfl) (by kernel_rfl) (by kernel_rfl) (fun _ _ _ h => h) (Or.inl ⟨by rfl, ?_⟩) (by assumption) ?_
          rotate_left
          · intro w hSw
            try dsimp only at hSw
            go_simp
            try with_reducible rfl
          try simp only [Act.put, List.setIfInBounds_toArray, List.set_cons_zero, List.set_cons_succ]
          refine wpAnyH_take (i := 6) (oi := { dst := some 32, op := Op.move (Operand.tmp 5), type := 3, pos := "ref.go:146", after := #[{ on := 4, ground := Ground.guard }], guard := some (4, true) }) (v := ?_) rfl (by kernel_rfl) (by kernel_rfl) (by kernel_rfl) (fun _ _ _ h => h) (Or.inl ⟨by rfl, ?_⟩) (by assumption) ?_
          rotate_left
          · intro w hSw
            try dsimp only at hSw
            go_simp
            try with_reducible rfl
          try simp only [Act.put, List.setIfInBounds_toArray, List.set_cons_zero, List.set_cons_succ]
          refine wpAnyH_take (i := 7) (oi := { dst := some 33, op := Op.indexAddr 75 (Operand.tmp 31) (Operand.tmp 32), type := 0, pos := "ref.go:146", after := #[{ on := 5, ground := Ground.data }, { on := 6, ground := Ground.data }, { on := 4, ground := Ground.guard }], guard := some (4, true) }) (v := ?_) rfl (by kernel_rfl) (by kernel_rfl) (by kernel_rfl) (fun _ _ _ h => h) (Or.inl ⟨by rfl, ?_⟩) (by assumption) ?_
          rotate_left
          · intro w hSw
            try dsimp only at hSw
            go_simp
            try with_reducible rfl
          try simp only [Act.put, List.setIfInBounds_toArray, List.set_cons_zero, List.set_cons_succ]
          refine wpAnyH_take (i := 8) (oi := { dst := some 34, op := Op.fieldAddr 178 (Operand.tmp 33) 0, type := 0, pos := "ref.go:146", after := #[{ on := 7, ground := Ground.data }, { on := 4, ground := Ground.guard }], guard := some (4, true) }) (v := ?_) rfl (by kernel_rfl) (by kernel_rfl) (by kernel_rfl) (fun _ _ _ h => h) (Or.inl ⟨by rfl, ?_⟩) (by assumption) ?_
          rotate_left
          · intro w hSw
            try dsimp only at hSw
            go_simp
            try with_reducible rfl
          try simp only [Act.put, List.setIfInBounds_toArray, List.set_cons_zero, List.set_cons_succ]
          refine wpAnyH_take (i := 9) (oi := { dst := some 35, op := Op.load 9 (Operand.tmp 34), type := 9, pos := "ref.go:146", after := #[{ on := 8, ground := Ground.data }, { on := 4, ground := Ground.guard }], guard := some (4, true) }) (v := ?_) rfl (by kernel_rfl) (by kernel_rfl) (by kernel_rfl) (fun _ _ _ h => h) (Or.inl ⟨by rfl, ?_⟩) (by assumption) ?_
          rotate_left
          · intro w hSw
            try dsimp only at hSw
            go_simp
            try with_reducible rfl
          try simp only [Act.put, List.setIfInBounds_toArray, List.set_cons_zero, List.set_cons_succ]
          refine wpAnyH_take (i := 10) (oi := { dst := some 36, op := Op.fieldAddr 178 (Operand.tmp 3) 0, type := 0, pos := "ref.go:146", after := #[{ on := 4, ground := Ground.guard }], guard := some (4, true) }) (v := ?_) rfl (by kernel_rfl) (by kernel_rfl) (by kernel_rfl) (fun _ _ _ h => h) (Or.inl ⟨by rfl, ?_⟩) (by assumption) ?_
          rotate_left
          · intro w hSw
            try dsimp only at hSw
            go_simp
            try with_reducible rfl
          try simp only [Act.put, List.setIfInBounds_toArray, List.set_cons_zero, List.set_cons_succ]
          refine wpAnyH_take (i := 11) (oi := { dst := some 37, op := Op.load 9 (Operand.tmp 36), type := 9, pos := "ref.go:146", after := #[{ on := 10, ground := Ground.data }, { on := 4, ground := Ground.guard }], guard := some (4, true) }) (v := ?_) rfl (by kernel_rfl) (by kernel_rfl) (by kernel_rfl) (fun _ _ _ h => h) (Or.inl ⟨by rfl, ?_⟩) (by assumption) ?_
          rotate_left
          · intro w hSw
            try dsimp only at hSw
            go_simp
            try with_reducible rfl
          try simp only [Act.put, List.setIfInBounds_toArray, List.set_cons_zero, List.set_cons_succ]
          refine wpAnyH_take (i := 12) (oi := { dst := some 38, op := Op.binOp BinOp.eql 9 (Operand.tmp 35) (Operand.tmp 37) 9, type := 4, pos := "ref.go:146", after := #[{ on := 9, ground := Ground.data }, { on := 11, ground := Ground.data }, { on := 4, ground := Ground.guard }], guard := some (4, true) }) (v := ?_) rfl (by kernel_rfl) (by kernel_rfl) (by kernel_rfl) (fun _ _ _ h => h) (Or.inl ⟨by rfl, ?_⟩) (by assumption) ?_
          rotate_left
          · intro w hSw
            try dsimp only at hSw
            go_simp
            try with_reducible rfl
          try simp only [Act.put, List.setIfInBounds_toArray, List.set_cons_zero, List.set_cons_succ]
          refine wpAnyH_take (i := 13) (oi := { dst := some 39, op := Op.pick (Operand.tmp 30) (Operand.tmp 38) (Operand.const (Value.bool false)), type := 4, pos := "ref.go:146", after := #[{ on := 4, ground := Ground.data }, { on := 12, ground := Ground.data }], guard := none }) (v := ?_) rfl (by kernel_rfl) (by kernel_rfl) (by kernel_rfl) (fun _ _ _ h => h) (Or.inl ⟨by rfl, ?_⟩) (by assumption) ?_
          rotate_left
          · intro w hSw
            try dsimp only at hSw
            go_simp
            try with_reducible rfl
          try simp only [Act.put, List.setIfInBounds_toArray, List.set_cons_zero, List.set_cons_succ]
          refine wpAnyH_done (by kernel_rfl) ?_ _
          go_wp2_with fail
          refine wp_region_held_drew (S := fun Y => Y.cell? ⟨w.heap.size, 0, none⟩ = some (.string key) ∧ Y.cell? ⟨w.heap.size, 1, none⟩ = some (.int .u64 (n : Int)) ∧ Y.cell? ⟨w.heap.size, 2, none⟩ = some (.bool gone)) (by kernel_rfl) (KB.out _ (blThen HB.out (Below.refl wr.heap.size wr)).drew.drew.drew) (fun hHeld => ?_)
          refine wpAnyH_take (i := 1) (oi := { dst := some 45, op := Op.move (Operand.tmp 0), type := 75, pos := "ref.go:149", after := #[], guard := none }) (v := ?_) rfl (by kernel_rfl) (by kernel_rfl) (by kernel_rfl) (fun _ _ _ h => h) (Or.inl ⟨by rfl, ?_⟩) (by assumption) ?_
          rotate_left
          · intro w hSw
            try dsimp only at hSw
            go_simp
            try with_reducible rfl
          try simp only [Act.put, List.setIfInBounds_toArray, List.set_cons_zero, List.set_cons_succ]
          refine wpAnyH_take (i := 2) (oi := { dst := some 46, op := Op.move (Operand.tmp 5), type := 3, pos := "ref.go:149", after := #[], guard := none }) (v := ?_) rfl (by kernel_rfl) (by kernel_rfl) (by kernel_rfl) (fun _ _ _ h => h) (Or.inl ⟨by rfl, ?_⟩) (by assumption) ?_
          rotate_left
          · intro w hSw
            try dsimp only at hSw
            go_simp
            try with_reducible rfl
          try simp only [Act.put, List.setIfInBounds_toArray, List.set_cons_zero, List.set_cons_succ]
          refine wpAnyH_take (i := 3) (oi := { dst := some 47, op := Op.slice 75 (Operand.tmp 45) none (some (Operand.tmp 46)) none, type := 75, pos := "ref.go:149", after := #[{ on := 1, ground := Ground.data }, { on := 2, ground := Ground.data }], guard := none }) (v := ?_) rfl (by kernel_rfl) (by kernel_rfl) (by kernel_rfl) (fun _ _ _ h => h) (Or.inl ⟨by rfl, ?_⟩) (by assumption) ?_
          rotate_left
          · intro w hSw
            try dsimp only at hSw
            go_simp
            try with_reducible rfl
          try simp only [Act.put, List.setIfInBounds_toArray, List.set_cons_zero, List.set_cons_succ]
          refine wpAnyH_take (i := 5) (oi := { dst := some 49, op := Op.load 178 (Operand.tmp 3), type := 178, pos := "ref.go:149", after := #[], guard := none }) (v := ?_) rfl (by kernel_rfl) (by kernel_rfl) (by kernel_rfl) (fun _ _ _ h => h) (Or.inl ⟨by rfl, ?_⟩) (by assumption) ?_
          rotate_left
          · intro w hSw
            try dsimp only at hSw
            go_simp
            try with_reducible rfl
          try simp only [Act.put, List.setIfInBounds_toArray, List.set_cons_zero, List.set_cons_succ]
          refine wpAnyH_take (i := 8) (oi := { dst := some 52, op := Op.move (Operand.tmp 6), type := 75, pos := "ref.go:149", after := #[], guard := none }) (v := ?_) rfl (by kernel_rfl) (by kernel_rfl) (by kernel_rfl) (fun _ _ _ h => h) (Or.inl ⟨by rfl, ?_⟩) (by assumption) ?_
          rotate_left
          · intro w hSw
            try dsimp only at hSw
            go_simp
            try with_reducible rfl
          try simp only [Act.put, List.setIfInBounds_toArray, List.set_cons_zero, List.set_cons_succ]
          refine wpAnyH_ready (rs := [0, 6]) (by kernel_rfl) (by simp) ?_
          refine AllReadyH.cons (o := { dst := some 44, op := Op.buildSlice 75 0 #[], type := 75, pos := "ref.go:149", after := #[], guard := none }) rfl (fun K hK => ?_) (AllReadyH.cons (o := { dst := some 50, op := Op.buildSlice 75 1 #[(0, Operand.tmp 49)], type := 75, pos := "ref.go:149", after := #[{ on := 5, ground := Ground.data }], guard := none }) rfl (fun K hK => ?_) (AllReadyH.nil))
          · go_simp
            have HOE : Hid (OwnWr (wr.drew.drew.drew.alloc (.cells #[] 178)) wr.heap.size (.slice (some ⟨wr.heap.size, 0, none⟩) 0 0) []) := own_emptyG wr.drew.drew.drew 178 _ wr.heap.size (by simp) (by omega)
            refine hK.out _ _ (KB.out _ (blThen HB.out (by repeat (first | with_reducible exact Below.refl _ _ | with_reducible refine blAlloc ?_ _ | with_reducible refine Below.drew ?_)))) (fun hHeld => ?_)
            clear hK K
            try simp only [Act.put, List.setIfInBounds_toArray, List.set_cons_zero, List.set_cons_succ]
            refine wpAnyH_ready (rs := [4, 6]) (by kernel_rfl) (by simp) ?_
            refine AllReadyH.cons (o := { dst := some 48, op := Op.call { callee := Callee.builtin Builtin.append, args := #[Operand.tmp 44, Operand.tmp 47], argTypes := #[75, 75] }, type := 75, pos := "ref.go:149", after := #[{ on := 0, ground := Ground.data }, { on := 3, ground := Ground.data }], guard := none }) rfl (fun K hK => ?_) (AllReadyH.cons (o := { dst := some 50, op := Op.buildSlice 75 1 #[(0, Operand.tmp 49)], type := 75, pos := "ref.go:149", after := #[{ on := 5, ground := Ground.data }], guard := none }) rfl (fun K hK => ?_) (AllReadyH.nil))
            · refine wp_append_G 75 _ 32 info_wr Tryz.underlying75 rfl (by decide) _ _ rfl wr.heap.size _ [] rfl HOE.out _ (d.take k) rfl (HTK.out.later (by repeat (first | with_reducible exact Below.refl _ _ | with_reducible refine blAlloc ?_ _ | with_reducible refine Below.drew ?_))) (by have := HLT.out; simp only [List.length_nil]; omega) ((by repeat (first | with_reducible exact Below.refl _ _ | with_reducible refine blAlloc ?_ _ | with_reducible refine Below.drew ?_)) : Below wr.heap.size wr (wr.drew.drew.drew.alloc (.cells #[] 178))).size ?_
              intro v3 w3 h1 h2
              rw [List.nil_append] at h1
              have HB3 : Hid (Below wr.heap.size wr w3) := grown_belowG ((by repeat (first | with_reducible exact Below.refl _ _ | with_reducible refine blAlloc ?_ _ | with_reducible refine Below.drew ?_)) : Below wr.heap.size wr (wr.drew.drew.drew.alloc (.cells #[] 178))) HOE.out (Nat.le_refl _) ((by repeat (first | with_reducible exact Below.refl _ _ | with_reducible refine blAlloc ?_ _ | with_reducible refine Below.drew ?_)) : Below wr.heap.size wr (wr.drew.drew.drew.alloc (.cells #[] 178))).size h2
              have HO3 := Lib.hid h1
              clear h1 h2 HOE
              refine hK.out _ _ (KB.out _ (blThen HB.out HB3.out)) (fun hHeld => ?_)
              clear hK K
              try simp only [Act.put, List.setIfInBounds_toArray, List.set_cons_zero, List.set_cons_succ]
              refine wpAnyH_ready (rs := [6]) (by kernel_rfl) (by simp) ?_
              refine AllReadyH.cons (o := { dst := some 50, op := Op.buildSlice 75 1 #[(0, Operand.tmp 49)], type := 75, pos := "ref.go:149", after := #[{ on := 5, ground := Ground.data }], guard := none }) rfl (fun K hK => ?_) (AllReadyH.nil)
              go_simp
              have HC : Hid (SlG eW (w3.alloc (.cells #[.string key, .int .u64 (n : Int), .bool gone] 178)) (.slice (some ⟨w3.heap.size, 0, none⟩) 1 1) [(key, n, gone)]) := one_G eW w3 _ (key, n, gone) _ _ rfl (by simp)
              have HO3 := Lib.hid (HO3.out.later (blAlloc (Below.refl w3.heap.size w3) (.cells #[.string key, .int .u64 (n : Int), .bool gone] 178)))
              refine hK.out _ _ (KB.out _ (blThen HB.out (by repeat (first | with_reducible exact HB3.out | with_reducible exact Below.refl _ _ | with_reducible refine blAlloc ?_ _ | with_reducible refine Below.drew ?_)))) (fun hHeld => ?_)
              clear hK K
              try simp only [Act.put, List.setIfInBounds_toArray, List.set_cons_zero, List.set_cons_succ]
              refine wpAnyH_ready (rs := [7]) (by kernel_rfl) (by simp) ?_
              refine AllReadyH.cons (o := { dst := some 51, op := Op.call { callee := Callee.builtin Builtin.append, args := #[Operand.tmp 48, Operand.tmp 50], argTypes := #[75, 75] }, type := 75, pos := "ref.go:149", after := #[{ on := 4, ground := Ground.data }, { on := 6, ground := Ground.data }, { on := 4, ground := Ground.chain }], guard := none }) rfl (fun K hK => ?_) (AllReadyH.nil)
              refine wp_append_G 75 _ 32 info_wr Tryz.underlying75 rfl (by decide) _ _ rfl wr.heap.size _ (d.take k) rfl HO3.out _ [(key, n, gone)] rfl HC.out (by have := HLT.out; simp only [List.length_cons, List.length_nil]; omega) ((by repeat (first | with_reducible exact HB3.out | with_reducible exact Below.refl _ _ | with_reducible refine blAlloc ?_ _ | with_reducible refine Below.drew ?_)) : Below wr.heap.size wr (w3.alloc (.cells #[.string key, .int .u64 (n : Int), .bool gone] 178))).size ?_
              intro v4 w4 h1 h2
              have HB4 : Hid (Below wr.heap.size wr w4) := grown_belowG ((by repeat (first | with_reducible exact HB3.out | with_reducible exact Below.refl _ _ | with_reducible refine blAlloc ?_ _ | with_reducible refine Below.drew ?_)) : Below wr.heap.size wr (w3.alloc (.cells #[.string key, .int .u64 (n : Int), .bool gone] 178))) HO3.out (Nat.le_refl _) ((by repeat (first | with_reducible exact HB3.out | with_reducible exact Below.refl _ _ | with_reducible refine blAlloc ?_ _ | with_reducible refine Below.drew ?_)) : Below wr.heap.size wr (w3.alloc (.cells #[.string key, .int .u64 (n : Int), .bool gone] 178))).size h2
              have HO4 := Lib.hid h1
              clear h1 h2
              refine hK.out _ _ (KB.out _ (blThen HB.out HB4.out)) (fun hHeld => ?_)
              clear hK K
              try simp only [Act.put, List.setIfInBounds_toArray, List.set_cons_zero, List.set_cons_succ]
              refine wpAnyH_ready (rs := [9]) (by kernel_rfl) (by simp) ?_
              refine AllReadyH.cons (o := { dst := some 53, op := Op.call { callee := Callee.builtin Builtin.append, args := #[Operand.tmp 51, Operand.tmp 52], argTypes := #[75, 75] }, type := 75, pos := "ref.go:149", after := #[{ on := 7, ground := Ground.data }, { on := 8, ground := Ground.data }, { on := 7, ground := Ground.chain }], guard := none }) rfl (fun K hK => ?_) (AllReadyH.nil)
              refine wp_append_G 75 _ 32 info_wr Tryz.underlying75 rfl (by decide) _ _ rfl wr.heap.size _ (d.take k ++ [(key, n, gone)]) rfl HO4.out _ (d.drop k) rfl (HR.out _ HB4.out) (by have := HLT.out; have := HLR.out; simp only [List.length_append, List.length_cons, List.length_nil]; omega) HB4.out.size ?_
              intro v5 w5 h1 h2
              have HB5 : Hid (Below wr.heap.size wr w5) := grown_belowG HB4.out HO4.out (Nat.le_refl _) HB4.out.size h2
              have HO5 := Lib.hid h1
              clear h1 h2
              refine hK.out _ _ (KB.out _ (blThen HB.out HB5.out)) (fun hHeld => ?_)
              clear hK K
              try simp only [Act.put, List.setIfInBounds_toArray, List.set_cons_zero, List.set_cons_succ]
              refine wpAnyH_take (i := 10) (oi := { dst := some 4, op := Op.assign (Operand.tmp 53), type := 75, pos := "ref.go:149", after := #[{ on := 9, ground := Ground.data }, { on := 9, ground := Ground.chain }, { on := 0, ground := Ground.phase }, { on := 1, ground := Ground.phase }, { on := 2, ground := Ground.phase }, { on := 3, ground := Ground.phase }, { on := 4, ground := Ground.phase }, { on := 5, ground := Ground.phase }, { on := 6, ground := Ground.phase }, { on := 7, ground := Ground.phase }, { on := 8, ground := Ground.phase }, { on := 9, ground := Ground.phase }], guard := none }) (v := ?_) rfl (by kernel_rfl) (by kernel_rfl) (by kernel_rfl) (fun _ _ _ h => h) (Or.inl ⟨by rfl, ?_⟩) (by assumption) ?_
              rotate_left
              · intro w hSw
                try dsimp only at hSw
                go_simp
                try with_reducible rfl
              try simp only [Act.put, List.setIfInBounds_toArray, List.set_cons_zero, List.set_cons_succ]
              refine wpAnyH_done (by kernel_rfl) ?_ _
              go_wp2
              go_ret
              exact ⟨_, rfl, by rw [HV.out]; exact HO5.out.mono (blThen HB0.out HB.out).size, blThen (blThen HB0.out HB.out) HB5.out⟩
            · go_simp
              have HC : Hid (SlG eW ((wr.drew.drew.drew.alloc (.cells #[] 178)).alloc (.cells #[.string key, .int .u64 (n : Int), .bool gone] 178)) (.slice (some ⟨wr.heap.size + 1, 0, none⟩) 1 1) [(key, n, gone)]) := one_G eW (wr.drew.drew.drew.alloc (.cells #[] 178)) _ (key, n, gone) _ _ rfl (by simp)
              have HOE := Lib.hid (HOE.out.later (blAlloc (Below.refl (wr.drew.drew.drew.alloc (.cells #[] 178)).heap.size (wr.drew.drew.drew.alloc (.cells #[] 178))) (.cells #[.string key, .int .u64 (n : Int), .bool gone] 178)))
              refine hK.out _ _ (KB.out _ (blThen HB.out (by repeat (first | with_reducible exact Below.refl _ _ | with_reducible refine blAlloc ?_ _ | with_reducible refine Below.drew ?_)))) (fun hHeld => ?_)
              clear hK K
              try simp only [Act.put, List.setIfInBounds_toArray, List.set_cons_zero, List.set_cons_succ]
              refine wpAnyH_ready (rs := [4]) (by kernel_rfl) (by simp) ?_
              refine AllReadyH.cons (o := { dst := some 48, op := Op.call { callee := Callee.builtin Builtin.append, args := #[Operand.tmp 44, Operand.tmp 47], argTypes := #[75, 75] }, type := 75, pos := "ref.go:149", after := #[{ on := 0, ground := Ground.data }, { on := 3, ground := Ground.data }], guard := none }) rfl (fun K hK => ?_) (AllReadyH.nil)
              refine wp_append_G 75 _ 32 info_wr Tryz.underlying75 rfl (by decide) _ _ rfl wr.heap.size _ [] rfl HOE.out _ (d.take k) rfl (HTK.out.later (by repeat (first | with_reducible exact Below.refl _ _ | with_reducible refine blAlloc ?_ _ | with_reducible refine Below.drew ?_))) (by have := HLT.out; simp only [List.length_nil]; omega) ((by repeat (first | with_reducible exact Below.refl _ _ | with_reducible refine blAlloc ?_ _ | with_reducible refine Below.drew ?_)) : Below wr.heap.size wr ((wr.drew.drew.drew.alloc (.cells #[] 178)).alloc (.cells #[.string key, .int .u64 (n : Int), .bool gone] 178))).size ?_
              intro v3 w3 h1 h2
              rw [List.nil_append] at h1
              have HB3 : Hid (Below wr.heap.size wr w3) := grown_belowG ((by repeat (first | with_reducible exact Below.refl _ _ | with_reducible refine blAlloc ?_ _ | with_reducible refine Below.drew ?_)) : Below wr.heap.size wr ((wr.drew.drew.drew.alloc (.cells #[] 178)).alloc (.cells #[.string key, .int .u64 (n : Int), .bool gone] 178))) HOE.out (Nat.le_refl _) ((by repeat (first | with_reducible exact Below.refl _ _ | with_reducible refine blAlloc ?_ _ | with_reducible refine Below.drew ?_)) : Below wr.heap.size wr ((wr.drew.drew.drew.alloc (.cells #[] 178)).alloc (.cells #[.string key, .int .u64 (n : Int), .bool gone] 178))).size h2
              have h3 : (((wr.drew.drew.drew.alloc (.cells #[] 178)).alloc (.cells #[.string key, .int .u64 (n : Int), .bool gone] 178))).grownBy w3 (some (wr.heap.size)) := h2
              have HC := Lib.hid (HC.out.kept h3 (by simp))
              clear h3
              have HO3 := Lib.hid h1
              clear h1 h2 HOE
              refine hK.out _ _ (KB.out _ (blThen HB.out HB3.out)) (fun hHeld => ?_)
              clear hK K
              try simp only [Act.put, List.setIfInBounds_toArray, List.set_cons_zero, List.set_cons_succ]
              refine wpAnyH_ready (rs := [7]) (by kernel_rfl) (by simp) ?_
              refine AllReadyH.cons (o := { dst := some 51, op := Op.call { callee := Callee.builtin Builtin.append, args := #[Operand.tmp 48, Operand.tmp 50], argTypes := #[75, 75] }, type := 75, pos := "ref.go:149", after := #[{ on := 4, ground := Ground.data }, { on := 6, ground := Ground.data }, { on := 4, ground := Ground.chain }], guard := none }) rfl (fun K hK => ?_) (AllReadyH.nil)
              refine wp_append_G 75 _ 32 info_wr Tryz.underlying75 rfl (by decide) _ _ rfl wr.heap.size _ (d.take k) rfl HO3.out _ [(key, n, gone)] rfl HC.out (by have := HLT.out; simp only [List.length_cons, List.length_nil]; omega) ((by repeat (first | with_reducible exact HB3.out | with_reducible exact Below.refl _ _ | with_reducible refine blAlloc ?_ _ | with_reducible refine Below.drew ?_)) : Below wr.heap.size wr w3).size ?_
              intro v4 w4 h1 h2
              have HB4 : Hid (Below wr.heap.size wr w4) := grown_belowG ((by repeat (first | with_reducible exact HB3.out | with_reducible exact Below.refl _ _ | with_reducible refine blAlloc ?_ _ | with_reducible refine Below.drew ?_)) : Below wr.heap.size wr w3) HO3.out (Nat.le_refl _) ((by repeat (first | with_reducible exact HB3.out | with_reducible exact Below.refl _ _ | with_reducible refine blAlloc ?_ _ | with_reducible refine Below.drew ?_)) : Below wr.heap.size wr w3).size h2
              have HO4 := Lib.hid h1
              clear h1 h2
              refine hK.out _ _ (KB.out _ (blThen HB.out HB4.out)) (fun hHeld => ?_)
              clear hK K
              try simp only [Act.put, List.setIfInBounds_toArray, List.set_cons_zero, List.set_cons_succ]
              refine wpAnyH_ready (rs := [9]) (by kernel_rfl) (by simp) ?_
              refine AllReadyH.cons (o := { dst := some 53, op := Op.call { callee := Callee.builtin Builtin.append, args := #[Operand.tmp 51, Operand.tmp 52], argTypes := #[75, 75] }, type := 75, pos := "ref.go:149", after := #[{ on := 7, ground := Ground.data }, { on := 8, ground := Ground.data }, { on := 7, ground := Ground.chain }], guard := none }) rfl (fun K hK => ?_) (AllReadyH.nil)
              refine wp_append_G 75 _ 32 info_wr Tryz.underlying75 rfl (by decide) _ _ rfl wr.heap.size _ (d.take k ++ [(key, n, gone)]) rfl HO4.out _ (d.drop k) rfl (HR.out _ HB4.out) (by have := HLT.out; have := HLR.out; simp only [List.length_append, List.length_cons, List.length_nil]; omega) HB4.out.size ?_
              intro v5 w5 h1 h2
              have HB5 : Hid (Below wr.heap.size wr w5) := grown_belowG HB4.out HO4.out (Nat.le_refl _) HB4.out.size h2
              have HO5 := Lib.hid h1
              clear h1 h2
              refine hK.out _ _ (KB.out _ (blThen HB.out HB5.out)) (fun hHeld => ?_)
              clear hK K
              try simp only [Act.put, List.setIfInBounds_toArray, List.set_cons_zero, List.set_cons_succ]
              refine wpAnyH_take (i := 10) (oi := { dst := some 4, op := Op.assign (Operand.tmp 53), type := 75, pos := "ref.go:149", after := #[{ on := 9, ground := Ground.data }, { on := 9, ground := Ground.chain }, { on := 0, ground := Ground.phase }, { on := 1, ground := Ground.phase }, { on := 2, ground := Ground.phase }, { on := 3, ground := Ground.phase }, { on := 4, ground := Ground.phase }, { on := 5, ground := Ground.phase }, { on := 6, ground := Ground.phase }, { on := 7, ground := Ground.phase }, { on := 8, ground := Ground.phase }, { on := 9, ground := Ground.phase }], guard := none }) (v := ?_) rfl (by kernel_rfl) (by kernel_rfl) (by kernel_rfl) (fun _ _ _ h => h) (Or.inl ⟨by rfl, ?_⟩) (by assumption) ?_
              rotate_left
              · intro w hSw
                try dsimp only at hSw
                go_simp
                try with_reducible rfl
              try simp only [Act.put, List.setIfInBounds_toArray, List.set_cons_zero, List.set_cons_succ]
              refine wpAnyH_done (by kernel_rfl) ?_ _
              go_wp2
              go_ret
              exact ⟨_, rfl, by rw [HV.out]; exact HO5.out.mono (blThen HB0.out HB.out).size, blThen (blThen HB0.out HB.out) HB5.out⟩
          · go_simp
            have HC : Hid (SlG eW (wr.drew.drew.drew.alloc (.cells #[.string key, .int .u64 (n : Int), .bool gone] 178)) (.slice (some ⟨wr.heap.size, 0, none⟩) 1 1) [(key, n, gone)]) := one_G eW wr.drew.drew.drew _ (key, n, gone) _ _ rfl (by simp)
            refine hK.out _ _ (KB.out _ (blThen HB.out (by repeat (first | with_reducible exact Below.refl _ _ | with_reducible refine blAlloc ?_ _ | with_reducible refine Below.drew ?_)))) (fun hHeld => ?_)
            clear hK K
            try simp only [Act.put, List.setIfInBounds_toArray, List.set_cons_zero, List.set_cons_succ]
            refine wpAnyH_ready (rs := [0]) (by kernel_rfl) (by simp) ?_
            refine AllReadyH.cons (o := { dst := some 44, op := Op.buildSlice 75 0 #[], type := 75, pos := "ref.go:149", after := #[], guard := none }) rfl (fun K hK => ?_) (AllReadyH.nil)
            go_simp
            have HOE : Hid (OwnWr ((wr.drew.drew.drew.alloc (.cells #[.string key, .int .u64 (n : Int), .bool gone] 178)).alloc (.cells #[] 178)) wr.heap.size (.slice (some ⟨wr.heap.size + 1, 0, none⟩) 0 0) []) := own_emptyG (wr.drew.drew.drew.alloc (.cells #[.string key, .int .u64 (n : Int), .bool gone] 178)) 178 _ wr.heap.size (by simp) (by omega)
            have HC := Lib.hid (HC.out.later (blAlloc (Below.refl (wr.drew.drew.drew.alloc (.cells #[.string key, .int .u64 (n : Int), .bool gone] 178)).heap.size (wr.drew.drew.drew.alloc (.cells #[.string key, .int .u64 (n : Int), .bool gone] 178))) (.cells #[] 178)))
            refine hK.out _ _ (KB.out _ (blThen HB.out (by repeat (first | with_reducible exact Below.refl _ _ | with_reducible refine blAlloc ?_ _ | with_reducible refine Below.drew ?_)))) (fun hHeld => ?_)
            clear hK K
            try simp only [Act.put, List.setIfInBounds_toArray, List.set_cons_zero, List.set_cons_succ]
            refine wpAnyH_ready (rs := [4]) (by kernel_rfl) (by simp) ?_
            refine AllReadyH.cons (o := { dst := some 48, op := Op.call { callee := Callee.builtin Builtin.append, args := #[Operand.tmp 44, Operand.tmp 47], argTypes := #[75, 75] }, type := 75, pos := "ref.go:149", after := #[{ on := 0, ground := Ground.data }, { on := 3, ground := Ground.data }], guard := none }) rfl (fun K hK => ?_) (AllReadyH.nil)
            refine wp_append_G 75 _ 32 info_wr Tryz.underlying75 rfl (by decide) _ _ rfl wr.heap.size _ [] rfl HOE.out _ (d.take k) rfl (HTK.out.later (by repeat (first | with_reducible exact Below.refl _ _ | with_reducible refine blAlloc ?_ _ | with_reducible refine Below.drew ?_))) (by have := HLT.out; simp only [List.length_nil]; omega) ((by repeat (first | with_reducible exact Below.refl _ _ | with_reducible refine blAlloc ?_ _ | with_reducible refine Below.drew ?_)) : Below wr.heap.size wr ((wr.drew.drew.drew.alloc (.cells #[.string key, .int .u64 (n : Int), .bool gone] 178)).alloc (.cells #[] 178))).size ?_
            intro v3 w3 h1 h2
            rw [List.nil_append] at h1
            have HB3 : Hid (Below wr.heap.size wr w3) := grown_belowG ((by repeat (first | with_reducible exact Below.refl _ _ | with_reducible refine blAlloc ?_ _ | with_reducible refine Below.drew ?_)) : Below wr.heap.size wr ((wr.drew.drew.drew.alloc (.cells #[.string key, .int .u64 (n : Int), .bool gone] 178)).alloc (.cells #[] 178))) HOE.out (Nat.le_refl _) ((by repeat (first | with_reducible exact Below.refl _ _ | with_reducible refine blAlloc ?_ _ | with_reducible refine Below.drew ?_)) : Below wr.heap.size wr ((wr.drew.drew.drew.alloc (.cells #[.string key, .int .u64 (n : Int), .bool gone] 178)).alloc (.cells #[] 178))).size h2
            have h3 : (((wr.drew.drew.drew.alloc (.cells #[.string key, .int .u64 (n : Int), .bool gone] 178)).alloc (.cells #[] 178))).grownBy w3 (some (wr.heap.size + 1)) := h2
            have HC := Lib.hid (HC.out.kept h3 (by simp))
            clear h3
            have HO3 := Lib.hid h1
            clear h1 h2 HOE
            refine hK.out _ _ (KB.out _ (blThen HB.out HB3.out)) (fun hHeld => ?_)
            clear hK K
            try simp only [Act.put, List.setIfInBounds_toArray, List.set_cons_zero, List.set_cons_succ]
            refine wpAnyH_ready (rs := [7]) (by kernel_rfl) (by simp) ?_
            refine AllReadyH.cons (o := { dst := some 51, op := Op.call { callee := Callee.builtin Builtin.append, args := #[Operand.tmp 48, Operand.tmp 50], argTypes := #[75, 75] }, type := 75, pos := "ref.go:149", after := #[{ on := 4, ground := Ground.data }, { on := 6, ground := Ground.data }, { on := 4, ground := Ground.chain }], guard := none }) rfl (fun K hK => ?_) (AllReadyH.nil)
            refine wp_append_G 75 _ 32 info_wr Tryz.underlying75 rfl (by decide) _ _ rfl wr.heap.size _ (d.take k) rfl HO3.out _ [(key, n, gone)] rfl HC.out (by have := HLT.out; simp only [List.length_cons, List.length_nil]; omega) ((by repeat (first | with_reducible exact HB3.out | with_reducible exact Below.refl _ _ | with_reducible refine blAlloc ?_ _ | with_reducible refine Below.drew ?_)) : Below wr.heap.size wr w3).size ?_
            intro v4 w4 h1 h2
            have HB4 : Hid (Below wr.heap.size wr w4) := grown_belowG ((by repeat (first | with_reducible exact HB3.out | with_reducible exact Below.refl _ _ | with_reducible refine blAlloc ?_ _ | with_reducible refine Below.drew ?_)) : Below wr.heap.size wr w3) HO3.out (Nat.le_refl _) ((by repeat (first | with_reducible exact HB3.out | with_reducible exact Below.refl _ _ | with_reducible refine blAlloc ?_ _ | with_reducible refine Below.drew ?_)) : Below wr.heap.size wr w3).size h2
            have HO4 := Lib.hid h1
            clear h1 h2
            refine hK.out _ _ (KB.out _ (blThen HB.out HB4.out)) (fun hHeld => ?_)
            clear hK K
            try simp only [Act.put, List.setIfInBounds_toArray, List.set_cons_zero, List.set_cons_succ]
            refine wpAnyH_ready (rs := [9]) (by kernel_rfl) (by simp) ?_
            refine AllReadyH.cons (o := { dst := some 53, op := Op.call { callee := Callee.builtin Builtin.append, args := #[Operand.tmp 51, Operand.tmp 52], argTypes := #[75, 75] }, type := 75, pos := "ref.go:149", after := #[{ on := 7, ground := Ground.data }, { on := 8, ground := Ground.data }, { on := 7, ground := Ground.chain }], guard := none }) rfl (fun K hK => ?_) (AllReadyH.nil)
            refine wp_append_G 75 _ 32 info_wr Tryz.underlying75 rfl (by decide) _ _ rfl wr.heap.size _ (d.take k ++ [(key, n, gone)]) rfl HO4.out _ (d.drop k) rfl (HR.out _ HB4.out) (by have := HLT.out; have := HLR.out; simp only [List.length_append, List.length_cons, List.length_nil]; omega) HB4.out.size ?_
            intro v5 w5 h1 h2
            have HB5 : Hid (Below wr.heap.size wr w5) := grown_belowG HB4.out HO4.out (Nat.le_refl _) HB4.out.size h2
            have HO5 := Lib.hid h1
            clear h1 h2
            refine hK.out _ _ (KB.out _ (blThen HB.out HB5.out)) (fun hHeld => ?_)
            clear hK K
            try simp only [Act.put, List.setIfInBounds_toArray, List.set_cons_zero, List.set_cons_succ]
            refine wpAnyH_take (i := 10) (oi := { dst := some 4, op := Op.assign (Operand.tmp 53), type := 75, pos := "ref.go:149", after := #[{ on := 9, ground := Ground.data }, { on := 9, ground := Ground.chain }, { on := 0, ground := Ground.phase }, { on := 1, ground := Ground.phase }, { on := 2, ground := Ground.phase }, { on := 3, ground := Ground.phase }, { on := 4, ground := Ground.phase }, { on := 5, ground := Ground.phase }, { on := 6, ground := Ground.phase }, { on := 7, ground := Ground.phase }, { on := 8, ground := Ground.phase }, { on := 9, ground := Ground.phase }], guard := none }) (v := ?_) rfl (by kernel_rfl) (by kernel_rfl) (by kernel_rfl) (fun _ _ _ h => h) (Or.inl ⟨by rfl, ?_⟩) (by assumption) ?_
            rotate_left
            · intro w hSw
              try dsimp only at hSw
              go_simp
              try with_reducible rfl
            try simp only [Act.put, List.setIfInBounds_toArray, List.set_cons_zero, List.set_cons_succ]
            refine wpAnyH_done (by kernel_rfl) ?_ _
            go_wp2
            go_ret
            exact ⟨_, rfl, by rw [HV.out]; exact HO5.out.mono (blThen HB0.out HB.out).size, blThen (blThen HB0.out HB.out) HB5.out⟩
        · have HV : Hid (V = d.take k ++ [(key, n, gone)] ++ d.drop (k + 1)) := by have := HV0.out; rw [hE] at this; show _ = _; simpa using this
          clear HV0
          have hq1 : ((k : Int) + 1) ≤ (N : Int) := by omega
          have hw1 : wrap64 ((k : Int) + 1) = ((k + 1 : Nat) : Int) := by unfold wrap64; omega
          have hw2 : IntKind.i64.wrap ((k : Int) + 1) = ((k + 1 : Nat) : Int) := by rw [IntKind.wrap_i64]; omega
          by_cases hc : cap = k + 1
          · subst hc
            obtain rfl : N = k + 1 := by omega
            have hz1 : (k : Int) < (k : Int) + 1 := by omega
            have hz0 : (k : Int) ≤ (k : Int) + 1 := by omega
            have hz2 : decide ((k : Int) < (k : Int) + 1) = true := decide_eq_true hz1
            have hz3 : decide (k < k + 1) = true := decide_eq_true (by omega)
            have HTK := Lib.hid (slG_take HAr.out k (by have := HN.out; omega))
            have HR := Lib.hid (fun (Y : World) (hY : Below wr.heap.size wr Y) => (show SlG eW wr (.slice (some ⟨g, o, none⟩) 0 0) (d.drop (k + 1)) from by have e : d.drop (k + 1) = [] := List.drop_of_length_le (by have := HN.out; omega); rw [e]; exact SlG.zero _ (some ⟨g, o, none⟩) 0 (fun h => (by cases h))).later hY)
            have HLR : Hid (((d.drop (k + 1))).length ≤ 100000) := by show _ ≤ _; rw [List.length_drop]; have := HN.out; omega
            have HLT : Hid ((d.take k).length ≤ 100000) := by show _ ≤ _; rw [List.length_take]; have := HN.out; omega
            go_wp2_with fail
            refine wp_region_held_drew (S := fun Y => Y.cell? ⟨g, o + k * 3, none⟩ = some (.string pk) ∧ Y.cell? ⟨w.heap.size, 0, none⟩ = some (.string key)) (by kernel_rfl) (K3.out _ HB.out.drew) (fun hHeld => ?_)
            refine wpAnyH_take (i := 0) (oi := { dst := some 7, op := Op.move (Operand.tmp 5), type := 3, pos := "ref.go:142", after := #[], guard := none }) (v := ?_) rfl (by kernel_rfl) (by kernel_rfl) (by kernel_rfl) (fun _ _ _ h => h) (Or.inl ⟨by rfl, ?_⟩) (by assumption) ?_
            rotate_left
            · intro w hSw
              try dsimp only at hSw
              go_simp
              try with_reducible rfl
            try simp only [Act.put, List.setIfInBounds_toArray, List.set_cons_zero, List.set_cons_succ]
            refine wpAnyH_take (i := 1) (oi := { dst := some 8, op := Op.move (Operand.tmp 0), type := 75, pos := "ref.go:142", after := #[], guard := none }) (v := ?_) rfl (by kernel_rfl) (by kernel_rfl) (by kernel_rfl) (fun _ _ _ h => h) (Or.inl ⟨by rfl, ?_⟩) (by assumption) ?_
            rotate_left
            · intro w hSw
              try dsimp only at hSw
              go_simp
              try with_reducible rfl
            try simp only [Act.put, List.setIfInBounds_toArray, List.set_cons_zero, List.set_cons_succ]
            refine wpAnyH_take (i := 2) (oi := { dst := some 9, op := Op.call { callee := Callee.builtin Builtin.len, args := #[Operand.tmp 8], argTypes := #[75] }, type := 3, pos := "ref.go:142", after := #[{ on := 1, ground := Ground.data }], guard := none }) (v := ?_) rfl (by kernel_rfl) (by kernel_rfl) (by kernel_rfl) (fun _ _ _ h => h) (Or.inl ⟨by rfl, ?_⟩) (by assumption) ?_
            rotate_left
            · intro w hSw
              try dsimp only at hSw
              go_simp
              try with_reducible rfl
            try simp only [Act.put, List.setIfInBounds_toArray, List.set_cons_zero, List.set_cons_succ]
            refine wpAnyH_take (i := 3) (oi := { dst := some 10, op := Op.binOp BinOp.lss 3 (Operand.tmp 7) (Operand.tmp 9) 3, type := 4, pos := "ref.go:142", after := #[{ on := 0, ground := Ground.data }, { on := 2, ground := Ground.data }], guard := none }) (v := ?_) rfl (by kernel_rfl) (by kernel_rfl) (by kernel_rfl) (fun _ _ _ h => h) (Or.inl ⟨by rfl, ?_⟩) (by assumption) ?_
            rotate_left
            · intro w hSw
              try dsimp only at hSw
              go_simp
              try with_reducible rfl
            try simp only [Act.put, List.setIfInBounds_toArray, List.set_cons_zero, List.set_cons_succ]
            refine wpAnyH_take (i := 4) (oi := { dst := some 11, op := Op.move (Operand.tmp 10), type := 4, pos := "ref.go:142", after := #[{ on := 3, ground := Ground.data }], guard := none }) (v := ?_) rfl (by kernel_rfl) (by kernel_rfl) (by kernel_rfl) (fun _ _ _ h => h) (Or.inl ⟨by rfl, ?_⟩) (by assumption) ?_
            rotate_left
            · intro w hSw
              try dsimp only at hSw
              go_simp
              try with_reducible rfl
            try simp only [Act.put, List.setIfInBounds_toArray, List.set_cons_zero, List.set_cons_succ]
            refine wpAnyH_take (i := 5) (oi := { dst := some 12, op := Op.move (Operand.tmp 0), type := 75, pos := "ref.go:142", after := #[{ on := 4, ground := Ground.guard }], guard := some (4, true) }) (v := ?_) rfl (by kernel_rfl) (by kernel_rfl) (by kernel_rfl) (fun _ _ _ h => h) (Or.inl ⟨by rfl, ?_⟩) (by assumption) ?_
            rotate_left
            · intro w hSw
              try dsimp only at hSw
              go_simp
              try with_reducible rfl
            try simp only [Act.put, List.setIfInBounds_toArray, List.set_cons_zero, List.set_cons_succ]
            refine wpAnyH_take (i := 6) (oi := { dst := some 13, op := Op.move (Operand.tmp 5), type := 3, pos := "ref.go:142", after := #[{ on := 4, ground := Ground.guard }], guard := some (4, true) }) (v := ?_) rfl (by kernel_rfl) (by kernel_rfl) (by kernel_rfl) (fun _ _ _ h => h) (Or.inl ⟨by rfl, ?_⟩) (by assumption) ?_
            rotate_left
            · intro w hSw
              try dsimp only at hSw
              go_simp
              try with_reducible rfl
            try simp only [Act.put, List.setIfInBounds_toArray, List.set_cons_zero, List.set_cons_succ]
            refine wpAnyH_take (i := 7) (oi := { dst := some 14, op := Op.indexAddr 75 (Operand.tmp 12) (Operand.tmp 13), type := 0, pos := "ref.go:142", after := #[{ on := 5, ground := Ground.data }, { on := 6, ground := Ground.data }, { on := 4, ground := Ground.guard }], guard := some (4, true) }) (v := ?_) rfl (by kernel_rfl) (by kernel_rfl) (by kernel_rfl) (fun _ _ _ h => h) (Or.inl ⟨by rfl, ?_⟩) (by assumption) ?_
            rotate_left
            · intro w hSw
              try dsimp only at hSw
              go_simp
              try with_reducible rfl
            try simp only [Act.put, List.setIfInBounds_toArray, List.set_cons_zero, List.set_cons_succ]
            refine wpAnyH_take (i := 8) (oi := { dst := some 15, op := Op.fieldAddr 178 (Operand.tmp 14) 0, type := 0, pos := "ref.go:142", after := #[{ on := 7, ground := Ground.data }, { on := 4, ground := Ground.guard }], guard := some (4, true) }) (v := ?_) rfl (by kernel_rfl) (by kernel_rfl) (by kernel_rfl) (fun _ _ _ h => h) (Or.inl ⟨by rfl, ?_⟩) (by assumption) ?_
            rotate_left
            · intro w hSw
              try dsimp only at hSw
              go_simp
              try with_reducible rfl
            try simp only [Act.put, List.setIfInBounds_toArray, List.set_cons_zero, List.set_cons_succ]
            refine wpAnyH_take (i := 9) (oi := { dst := some 16, op := Op.load 9 (Operand.tmp 15), type := 9, pos := "ref.go:142", after := #[{ on := 8, ground := Ground.data }, { on := 4, ground := Ground.guard }], guard := some (4, true) }) (v := ?_) rfl (by kernel_rfl) (by kernel_rfl) (by kernel_rfl) (fun _ _ _ h => h) (Or.inl ⟨by rfl, ?_⟩) (by assumption) ?_
            rotate_left
            · intro w hSw
              try dsimp only at hSw
              go_simp
              try with_reducible rfl
            try simp only [Act.put, List.setIfInBounds_toArray, List.set_cons_zero, List.set_cons_succ]
            refine wpAnyH_take (i := 10) (oi := { dst := some 17, op := Op.fieldAddr 178 (Operand.tmp 3) 0, type := 0, pos := "ref.go:142", after := #[{ on := 4, ground := Ground.guard }], guard := some (4, true) }) (v := ?_) rfl (by kernel_rfl) (by kernel_rfl) (by kernel_rfl) (fun _ _ _ h => h) (Or.inl ⟨by rfl, ?_⟩) (by assumption) ?_
            rotate_left
            · intro w hSw
              try dsimp only at hSw
              go_simp
              try with_reducible rfl
            try simp only [Act.put, List.setIfInBounds_toArray, List.set_cons_zero, List.set_cons_succ]
            refine wpAnyH_take (i := 11) (oi := { dst := some 18, op := Op.load 9 (Operand.tmp 17), type := 9, pos := "ref.go:142", after := #[{ on := 10, ground := Ground.data }, { on := 4, ground := Ground.guard }], guard := some (4, true) }) (v := ?_) rfl (by kernel_rfl) (by kernel_rfl) (by kernel_rfl) (fun _ _ _ h => h) (Or.inl ⟨by rfl, ?_⟩) (by assumption) ?_
            rotate_left
            · intro w hSw
              try dsimp only at hSw
              go_simp
              try with_reducible rfl
            try simp only [Act.put, List.setIfInBounds_toArray, List.set_cons_zero, List.set_cons_succ]
            refine wpAnyH_take (i := 12) (oi := { dst := some 19, op := Op.binOp BinOp.lss 9 (Operand.tmp 16) (Operand.tmp 18) 9, type := 4, pos := "ref.go:142", after := #[{ on := 9, ground := Ground.data }, { on := 11, ground := Ground.data }, { on := 4, ground := Ground.guard }], guard := some (4, true) }) (v := ?_) rfl (by kernel_rfl) (by kernel_rfl) (by kernel_rfl) (fun _ _ _ h => h) (Or.inl ⟨by rfl, ?_⟩) (by assumption) ?_
            rotate_left
            · intro w hSw
              try dsimp only at hSw
              go_simp
              try with_reducible rfl
            try simp only [Act.put, List.setIfInBounds_toArray, List.set_cons_zero, List.set_cons_succ]
            refine wpAnyH_take (i := 13) (oi := { dst := some 20, op := Op.pick (Operand.tmp 11) (Operand.tmp 19) (Operand.const (Value.bool false)), type := 4, pos := "ref.go:142", after := #[{ on := 4, ground := Ground.data }, { on := 12, ground := Ground.data }], guard := none }) (v := ?_) rfl (by kernel_rfl) (by kernel_rfl) (by kernel_rfl) (fun _ _ _ h => h) (Or.inl ⟨by rfl, ?_⟩) (by assumption) ?_
            rotate_left
            · intro w hSw
              try dsimp only at hSw
              go_simp
              try with_reducible rfl
            try simp only [Act.put, List.setIfInBounds_toArray, List.set_cons_zero, List.set_cons_succ]
            refine wpAnyH_done (by kernel_rfl) ?_ _
            go_wp2_with fail
            refine wp_region_held_drew (S := fun Y => Y.cell? ⟨g, o + k * 3, none⟩ = some (.string pk) ∧ Y.cell? ⟨w.heap.size, 0, none⟩ = some (.string key)) (by kernel_rfl) (K3.out _ HB.out.drew.drew) (fun hHeld => ?_)
            refine wpAnyH_take (i := 0) (oi := { dst := some 26, op := Op.move (Operand.tmp 5), type := 3, pos := "ref.go:146", after := #[], guard := none }) (v := ?_) rfl (by kernel_rfl) (by kernel_rfl) (by kernel_rfl) (fun _ _ _ h => h) (Or.inl ⟨by rfl, ?_⟩) (by assumption) ?_
            rotate_left
            · intro w hSw
              try dsimp only at hSw
              go_simp
              try with_reducible rfl
            try simp only [Act.put, List.setIfInBounds_toArray, List.set_cons_zero, List.set_cons_succ]
            refine wpAnyH_take (i := 1) (oi := { dst := some 27, op := Op.move (Operand.tmp 0), type := 75, pos := "ref.go:146", after := #[], guard := none }) (v := ?_) rfl (by kernel_rfl) (by kernel_rfl) (by kernel_rfl) (fun _ _ _ h => h) (Or.inl ⟨by rfl, ?_⟩) (by assumption) ?_
            rotate_left
            · intro w hSw
              try dsimp only at hSw
              go_simp
              try with_reducible rfl
            try simp only [Act.put, List.setIfInBounds_toArray, List.set_cons_zero, List.set_cons_succ]
            refine wpAnyH_take (i := 2) (oi := { dst := some 28, op := Op.call { callee := Callee.builtin Builtin.len, args := #[Operand.tmp 27], argTypes := #[75] }, type := 3, pos := "ref.go:146", after := #[{ on := 1, ground := Ground.data }], guard := none }) (v := ?_) rfl (by kernel_rfl) (by kernel_rfl) (by kernel_rfl) (fun _ _ _ h => h) (Or.inl ⟨by rfl, ?_⟩) (by assumption) ?_
            rotate_left
            · intro w hSw
              try dsimp only at hSw
              go_simp
              try with_reducible rfl
            try simp only [Act.put, List.setIfInBounds_toArray, List.set_cons_zero, List.set_cons_succ]
            refine wpAnyH_take (i := 3) (oi := { dst := some 29, op := Op.binOp BinOp.lss 3 (Operand.tmp 26) (Operand.tmp 28) 3, type := 4, pos := "ref.go:146", after := #[{ on := 0, ground := Ground.data }, { on := 2, ground := Ground.data }], guard := none }) (v := ?_) rfl (by kernel_rfl) (by kernel_rfl) (by kernel_rfl) (fun _ _ _ h => h) (Or.inl ⟨by rfl, ?_⟩) (by assumption) ?_
            rotate_left
            · intro w hSw
              try dsimp only at hSw
              go_simp
              try with_reducible rfl
            try simp only [Act.put, List.setIfInBounds_toArray, List.set_cons_zero, List.set_cons_succ]
            refine wpAnyH_take (i := 4) (oi := { dst := some 30, op := Op.move (Operand.tmp 29), type := 4, pos := "ref.go:146", after := #[{ on := 3, ground := Ground.data }], guard := none }) (v := ?_) rfl (by kernel_rfl) (by kernel_rfl) (by kernel_rfl) (fun _ _ _ h => h) (Or.inl ⟨by rfl, ?_⟩) (by assumption) ?_
            rotate_left
            · intro w hSw
              try dsimp only at hSw
              go_simp
              try with_reducible rfl
            try simp only [Act.put, List.setIfInBounds_toArray, List.set_cons_zero, List.set_cons_succ]
            refine wpAnyH_take (i := 5) (oi := { dst := some 31, op := Op.move (Operand.tmp 0), type := 75, pos := "ref.go:146", after := #[{ on := 4, ground := Ground.guard }], guard := some (4, true) }) (v := ?_) rfl (by kernel_rfl) (by kernel_rfl) (by kernel_rfl) (fun _ _ _ h => h) (Or.inl ⟨by rfl, ?_⟩) (by assumption) ?_
            rotate_left
            · intro w hSw
              try dsimp only at hSw
              go_simp
              try with_reducible rfl
            try simp only [Act.put, List.setIfInBounds_toArray, List.set_cons_zero, List.set_cons_succ]
            refine wpAnyH_take (i := 6) (oi := { dst := some 32, op := Op.move (Operand.tmp 5), type := 3, pos := "ref.go:146", after := #[{ on := 4, ground := Ground.guard }], guard := some (4, true) }) (v := ?_) rfl (by kernel_rfl) (by kernel_rfl) (by kernel_rfl) (fun _ _ _ h => h) (Or.inl ⟨by rfl, ?_⟩) (by assumption) ?_
            rotate_left
            · intro w hSw
              try dsimp only at hSw
              go_simp
              try with_reducible rfl
            try simp only [Act.put, List.setIfInBounds_toArray, List.set_cons_zero, List.set_cons_succ]
            refine wpAnyH_take (i := 7) (oi := { dst := some 33, op := Op.indexAddr 75 (Operand.tmp 31) (Operand.tmp 32), type := 0, pos := "ref.go:146", after := #[{ on := 5, ground := Ground.data }, { on := 6, ground := Ground.data }, { on := 4, ground := Ground.guard }], guard := some (4, true) }) (v := ?_) rfl (by kernel_rfl) (by kernel_rfl) (by kernel_rfl) (fun _ _ _ h => h) (Or.inl ⟨by rfl, ?_⟩) (by assumption) ?_
            rotate_left
            · intro w hSw
              try dsimp only at hSw
              go_simp
              try with_reducible rfl
            try simp only [Act.put, List.setIfInBounds_toArray, List.set_cons_zero, List.set_cons_succ]
            refine wpAnyH_take (i := 8) (oi := { dst := some 34, op := Op.fieldAddr 178 (Operand.tmp 33) 0, type := 0, pos := "ref.go:146", after := #[{ on := 7, ground := Ground.data }, { on := 4, ground := Ground.guard }], guard := some (4, true) }) (v := ?_) rfl (by kernel_rfl) (by kernel_rfl) (by kernel_rfl) (fun _ _ _ h => h) (Or.inl ⟨by rfl, ?_⟩) (by assumption) ?_
            rotate_left
            · intro w hSw
              try dsimp only at hSw
              go_simp
              try with_reducible rfl
            try simp only [Act.put, List.setIfInBounds_toArray, List.set_cons_zero, List.set_cons_succ]
            refine wpAnyH_take (i := 9) (oi := { dst := some 35, op := Op.load 9 (Operand.tmp 34), type := 9, pos := "ref.go:146", after := #[{ on := 8, ground := Ground.data }, { on := 4, ground := Ground.guard }], guard := some (4, true) }) (v := ?_) rfl (by kernel_rfl) (by kernel_rfl) (by kernel_rfl) (fun _ _ _ h => h) (Or.inl ⟨by rfl, ?_⟩) (by assumption) ?_
            rotate_left
            · intro w hSw
              try dsimp only at hSw
              go_simp
              try with_reducible rfl
            try simp only [Act.put, List.setIfInBounds_toArray, List.set_cons_zero, List.set_cons_succ]
            refine wpAnyH_take (i := 10) (oi := { dst := some 36, op := Op.fieldAddr 178 (Operand.tmp 3) 0, type := 0, pos := "ref.go:146", after := #[{ on := 4, ground := Ground.guard }], guard := some (4, true) }) (v := ?_) rfl (by kernel_rfl) (by kernel_rfl) (by kernel_rfl) (fun _ _ _ h => h) (Or.inl ⟨by rfl, ?_⟩) (by assumption) ?_
            rotate_left
            · intro w hSw
              try dsimp only at hSw
              go_simp
              try with_reducible rfl
            try simp only [Act.put, List.setIfInBounds_toArray, List.set_cons_zero, List.set_cons_succ]
            refine wpAnyH_take (i := 11) (oi := { dst := some 37, op := Op.load 9 (Operand.tmp 36), type := 9, pos := "ref.go:146", after := #[{ on := 10, ground := Ground.data }, { on := 4, ground := Ground.guard }], guard := some (4, true) }) (v := ?_) rfl (by kernel_rfl) (by kernel_rfl) (by kernel_rfl) (fun _ _ _ h => h) (Or.inl ⟨by rfl, ?_⟩) (by assumption) ?_
            rotate_left
            · intro w hSw
              try dsimp only at hSw
              go_simp
              try with_reducible rfl
            try simp only [Act.put, List.setIfInBounds_toArray, List.set_cons_zero, List.set_cons_succ]
            refine wpAnyH_take (i := 12) (oi := { dst := some 38, op := Op.binOp BinOp.eql 9 (Operand.tmp 35) (Operand.tmp 37) 9, type := 4, pos := "ref.go:146", after := #[{ on := 9, ground := Ground.data }, { on := 11, ground := Ground.data }, { on := 4, ground := Ground.guard }], guard := some (4, true) }) (v := ?_) rfl (by kernel_rfl) (by kernel_rfl) (by kernel_rfl) (fun _ _ _ h => h) (Or.inl ⟨by rfl, ?_⟩) (by assumption) ?_
            rotate_left
            · intro w hSw
              try dsimp only at hSw
              go_simp
              try with_reducible rfl
            try simp only [Act.put, List.setIfInBounds_toArray, List.set_cons_zero, List.set_cons_succ]
            refine wpAnyH_take (i := 13) (oi := { dst := some 39, op := Op.pick (Operand.tmp 30) (Operand.tmp 38) (Operand.const (Value.bool false)), type := 4, pos := "ref.go:146", after := #[{ on := 4, ground := Ground.data }, { on := 12, ground := Ground.data }], guard := none }) (v := ?_) rfl (by kernel_rfl) (by kernel_rfl) (by kernel_rfl) (fun _ _ _ h => h) (Or.inl ⟨by rfl, ?_⟩) (by assumption) ?_
            rotate_left
            · intro w hSw
              try dsimp only at hSw
              go_simp
              try with_reducible rfl
            try simp only [Act.put, List.setIfInBounds_toArray, List.set_cons_zero, List.set_cons_succ]
            refine wpAnyH_done (by kernel_rfl) ?_ _
            go_wp2_with fail
            refine wp_region_held_drew (S := fun Y => Y.cell? ⟨w.heap.size, 0, none⟩ = some (.string key) ∧ Y.cell? ⟨w.heap.size, 1, none⟩ = some (.int .u64 (n : Int)) ∧ Y.cell? ⟨w.heap.size, 2, none⟩ = some (.bool gone)) (by kernel_rfl) (KB.out _ (blThen HB.out (Below.refl wr.heap.size wr)).drew.drew.drew) (fun hHeld => ?_)
            refine wpAnyH_take (i := 1) (oi := { dst := some 45, op := Op.move (Operand.tmp 0), type := 75, pos := "ref.go:149", after := #[], guard := none }) (v := ?_) rfl (by kernel_rfl) (by kernel_rfl) (by kernel_rfl) (fun _ _ _ h => h) (Or.inl ⟨by rfl, ?_⟩) (by assumption) ?_
            rotate_left
            · intro w hSw
              try dsimp only at hSw
              go_simp
              try with_reducible rfl
            try simp only [Act.put, List.setIfInBounds_toArray, List.set_cons_zero, List.set_cons_succ]
            refine wpAnyH_take (i := 2) (oi := { dst := some 46, op := Op.move (Operand.tmp 5), type := 3, pos := "ref.go:149", after := #[], guard := none }) (v := ?_) rfl (by kernel_rfl) (by kernel_rfl) (by kernel_rfl) (fun _ _ _ h => h) (Or.inl ⟨by rfl, ?_⟩) (by assumption) ?_
            rotate_left
            · intro w hSw
              try dsimp only at hSw
              go_simp
              try with_reducible rfl
            try simp only [Act.put, List.setIfInBounds_toArray, List.set_cons_zero, List.set_cons_succ]
            refine wpAnyH_take (i := 3) (oi := { dst := some 47, op := Op.slice 75 (Operand.tmp 45) none (some (Operand.tmp 46)) none, type := 75, pos := "ref.go:149", after := #[{ on := 1, ground := Ground.data }, { on := 2, ground := Ground.data }], guard := none }) (v := ?_) rfl (by kernel_rfl) (by kernel_rfl) (by kernel_rfl) (fun _ _ _ h => h) (Or.inl ⟨by rfl, ?_⟩) (by assumption) ?_
            rotate_left
            · intro w hSw
              try dsimp only at hSw
              go_simp
              try with_reducible rfl
            try simp only [Act.put, List.setIfInBounds_toArray, List.set_cons_zero, List.set_cons_succ]
            refine wpAnyH_take (i := 5) (oi := { dst := some 49, op := Op.load 178 (Operand.tmp 3), type := 178, pos := "ref.go:149", after := #[], guard := none }) (v := ?_) rfl (by kernel_rfl) (by kernel_rfl) (by kernel_rfl) (fun _ _ _ h => h) (Or.inl ⟨by rfl, ?_⟩) (by assumption) ?_
            rotate_left
            · intro w hSw
              try dsimp only at hSw
              go_simp
              try with_reducible rfl
            try simp only [Act.put, List.setIfInBounds_toArray, List.set_cons_zero, List.set_cons_succ]
            refine wpAnyH_take (i := 8) (oi := { dst := some 52, op := Op.move (Operand.tmp 6), type := 75, pos := "ref.go:149", after := #[], guard := none }) (v := ?_) rfl (by kernel_rfl) (by kernel_rfl) (by kernel_rfl) (fun _ _ _ h => h) (Or.inl ⟨by rfl, ?_⟩) (by assumption) ?_
            rotate_left
            · intro w hSw
              try dsimp only at hSw
              go_simp
              try with_reducible rfl
            try simp only [Act.put, List.setIfInBounds_toArray, List.set_cons_zero, List.set_cons_succ]
            refine wpAnyH_ready (rs := [0, 6]) (by kernel_rfl) (by simp) ?_
            refine AllReadyH.cons (o := { dst := some 44, op := Op.buildSlice 75 0 #[], type := 75, pos := "ref.go:149", after := #[], guard := none }) rfl (fun K hK => ?_) (AllReadyH.cons (o := { dst := some 50, op := Op.buildSlice 75 1 #[(0, Operand.tmp 49)], type := 75, pos := "ref.go:149", after := #[{ on := 5, ground := Ground.data }], guard := none }) rfl (fun K hK => ?_) (AllReadyH.nil))
            · go_simp
              have HOE : Hid (OwnWr (wr.drew.drew.drew.alloc (.cells #[] 178)) wr.heap.size (.slice (some ⟨wr.heap.size, 0, none⟩) 0 0) []) := own_emptyG wr.drew.drew.drew 178 _ wr.heap.size (by simp) (by omega)
              refine hK.out _ _ (KB.out _ (blThen HB.out (by repeat (first | with_reducible exact Below.refl _ _ | with_reducible refine blAlloc ?_ _ | with_reducible refine Below.drew ?_)))) (fun hHeld => ?_)
              clear hK K
              try simp only [Act.put, List.setIfInBounds_toArray, List.set_cons_zero, List.set_cons_succ]
              refine wpAnyH_ready (rs := [4, 6]) (by kernel_rfl) (by simp) ?_
              refine AllReadyH.cons (o := { dst := some 48, op := Op.call { callee := Callee.builtin Builtin.append, args := #[Operand.tmp 44, Operand.tmp 47], argTypes := #[75, 75] }, type := 75, pos := "ref.go:149", after := #[{ on := 0, ground := Ground.data }, { on := 3, ground := Ground.data }], guard := none }) rfl (fun K hK => ?_) (AllReadyH.cons (o := { dst := some 50, op := Op.buildSlice 75 1 #[(0, Operand.tmp 49)], type := 75, pos := "ref.go:149", after := #[{ on := 5, ground := Ground.data }], guard := none }) rfl (fun K hK => ?_) (AllReadyH.nil))
              · refine wp_append_G 75 _ 32 info_wr Tryz.underlying75 rfl (by decide) _ _ rfl wr.heap.size _ [] rfl HOE.out _ (d.take k) rfl (HTK.out.later (by repeat (first | with_reducible exact Below.refl _ _ | with_reducible refine blAlloc ?_ _ | with_reducible refine Below.drew ?_))) (by have := HLT.out; simp only [List.length_nil]; omega) ((by repeat (first | with_reducible exact Below.refl _ _ | with_reducible refine blAlloc ?_ _ | with_reducible refine Below.drew ?_)) : Below wr.heap.size wr (wr.drew.drew.drew.alloc (.cells #[] 178))).size ?_
                intro v3 w3 h1 h2
                rw [List.nil_append] at h1
                have HB3 : Hid (Below wr.heap.size wr w3) := grown_belowG ((by repeat (first | with_reducible exact Below.refl _ _ | with_reducible refine blAlloc ?_ _ | with_reducible refine Below.drew ?_)) : Below wr.heap.size wr (wr.drew.drew.drew.alloc (.cells #[] 178))) HOE.out (Nat.le_refl _) ((by repeat (first | with_reducible exact Below.refl _ _ | with_reducible refine blAlloc ?_ _ | with_reducible refine Below.drew ?_)) : Below wr.heap.size wr (wr.drew.drew.drew.alloc (.cells #[] 178))).size h2
                have HO3 := Lib.hid h1
                clear h1 h2 HOE
                refine hK.out _ _ (KB.out _ (blThen HB.out HB3.out)) (fun hHeld => ?_)
                clear hK K
                try simp only [Act.put, List.setIfInBounds_toArray, List.set_cons_zero, List.set_cons_succ]
                refine wpAnyH_ready (rs := [6]) (by kernel_rfl) (by simp) ?_
                refine AllReadyH.cons (o := { dst := some 50, op := Op.buildSlice 75 1 #[(0, Operand.tmp 49)], type := 75, pos := "ref.go:149", after := #[{ on := 5, ground := Ground.data }], guard := none }) rfl (fun K hK => ?_) (AllReadyH.nil)
                go_simp
                have HC : Hid (SlG eW (w3.alloc (.cells #[.string key, .int .u64 (n : Int), .bool gone] 178)) (.slice (some ⟨w3.heap.size, 0, none⟩) 1 1) [(key, n, gone)]) := one_G eW w3 _ (key, n, gone) _ _ rfl (by simp)
                have HO3 := Lib.hid (HO3.out.later (blAlloc (Below.refl w3.heap.size w3) (.cells #[.string key, .int .u64 (n : Int), .bool gone] 178)))
                refine hK.out _ _ (KB.out _ (blThen HB.out (by repeat (first | with_reducible exact HB3.out | with_reducible exact Below.refl _ _ | with_reducible refine blAlloc ?_ _ | with_reducible refine Below.drew ?_)))) (fun hHeld => ?_)
                clear hK K
                try simp only [Act.put, List.setIfInBounds_toArray, List.set_cons_zero, List.set_cons_succ]
                refine wpAnyH_ready (rs := [7]) (by kernel_rfl) (by simp) ?_
                refine AllReadyH.cons (o := { dst := some 51, op := Op.call { callee := Callee.builtin Builtin.append, args := #[Operand.tmp 48, Operand.tmp 50], argTypes := #[75, 75] }, type := 75, pos := "ref.go:149", after := #[{ on := 4, ground := Ground.data }, { on := 6, ground := Ground.data }, { on := 4, ground := Ground.chain }], guard := none }) rfl (fun K hK => ?_) (AllReadyH.nil)
                refine wp_append_G 75 _ 32 info_wr Tryz.underlying75 rfl (by decide) _ _ rfl wr.heap.size _ (d.take k) rfl HO3.out _ [(key, n, gone)] rfl HC.out (by have := HLT.out; simp only [List.length_cons, List.length_nil]; omega) ((by repeat (first | with_reducible exact HB3.out | with_reducible exact Below.refl _ _ | with_reducible refine blAlloc ?_ _ | with_reducible refine Below.drew ?_)) : Below wr.heap.size wr (w3.alloc (.cells #[.string key, .int .u64 (n : Int), .bool gone] 178))).size ?_
                intro v4 w4 h1 h2
                have HB4 : Hid (Below wr.heap.size wr w4) := grown_belowG ((by repeat (first | with_reducible exact HB3.out | with_reducible exact Below.refl _ _ | with_reducible refine blAlloc ?_ _ | with_reducible refine Below.drew ?_)) : Below wr.heap.size wr (w3.alloc (.cells #[.string key, .int .u64 (n : Int), .bool gone] 178))) HO3.out (Nat.le_refl _) ((by repeat (first | with_reducible exact HB3.out | with_reducible exact Below.refl _ _ | with_reducible refine blAlloc ?_ _ | with_reducible refine Below.drew ?_)) : Below wr.heap.size wr (w3.alloc (.cells #[.string key, .int .u64 (n : Int), .bool gone] 178))).size h2
                have HO4 := Lib.hid h1
                clear h1 h2
                refine hK.out _ _ (KB.out _ (blThen HB.out HB4.out)) (fun hHeld => ?_)
                clear hK K
                try simp only [Act.put, List.setIfInBounds_toArray, List.set_cons_zero, List.set_cons_succ]
                refine wpAnyH_ready (rs := [9]) (by kernel_rfl) (by simp) ?_
                refine AllReadyH.cons (o := { dst := some 53, op := Op.call { callee := Callee.builtin Builtin.append, args := #[Operand.tmp 51, Operand.tmp 52], argTypes := #[75, 75] }, type := 75, pos := "ref.go:149", after := #[{ on := 7, ground := Ground.data }, { on := 8, ground := Ground.data }, { on := 7, ground := Ground.chain }], guard := none }) rfl (fun K hK => ?_) (AllReadyH.nil)
                refine wp_append_G 75 _ 32 info_wr Tryz.underlying75 rfl (by decide) _ _ rfl wr.heap.size _ (d.take k ++ [(key, n, gone)]) rfl HO4.out _ (d.drop (k + 1)) rfl (HR.out _ HB4.out) (by have := HLT.out; have := HLR.out; simp only [List.length_append, List.length_cons, List.length_nil]; omega) HB4.out.size ?_
                intro v5 w5 h1 h2
                have HB5 : Hid (Below wr.heap.size wr w5) := grown_belowG HB4.out HO4.out (Nat.le_refl _) HB4.out.size h2
                have HO5 := Lib.hid h1
                clear h1 h2
                refine hK.out _ _ (KB.out _ (blThen HB.out HB5.out)) (fun hHeld => ?_)
                clear hK K
                try simp only [Act.put, List.setIfInBounds_toArray, List.set_cons_zero, List.set_cons_succ]
                refine wpAnyH_take (i := 10) (oi := { dst := some 4, op := Op.assign (Operand.tmp 53), type := 75, pos := "ref.go:149", after := #[{ on := 9, ground := Ground.data }, { on := 9, ground := Ground.chain }, { on := 0, ground := Ground.phase }, { on := 1, ground := Ground.phase }, { on := 2, ground := Ground.phase }, { on := 3, ground := Ground.phase }, { on := 4, ground := Ground.phase }, { on := 5, ground := Ground.phase }, { on := 6, ground := Ground.phase }, { on := 7, ground := Ground.phase }, { on := 8, ground := Ground.phase }, { on := 9, ground := Ground.phase }], guard := none }) (v := ?_) rfl (by kernel_rfl) (by kernel_rfl) (by kernel_rfl) (fun _ _ _ h => h) (Or.inl ⟨by rfl, ?_⟩) (by assumption) ?_
                rotate_left
                · intro w hSw
                  try dsimp only at hSw
                  go_simp
                  try with_reducible rfl
                try simp only [Act.put, List.setIfInBounds_toArray, List.set_cons_zero, List.set_cons_succ]
                refine wpAnyH_done (by kernel_rfl) ?_ _
                go_wp2
                go_ret
                exact ⟨_, rfl, by rw [HV.out]; exact HO5.out.mono (blThen HB0.out HB.out).size, blThen (blThen HB0.out HB.out) HB5.out⟩
              · go_simp
                have HC : Hid (SlG eW ((wr.drew.drew.drew.alloc (.cells #[] 178)).alloc (.cells #[.string key, .int .u64 (n : Int), .bool gone] 178)) (.slice (some ⟨wr.heap.size + 1, 0, none⟩) 1 1) [(key, n, gone)]) := one_G eW (wr.drew.drew.drew.alloc (.cells #[] 178)) _ (key, n, gone) _ _ rfl (by simp)
                have HOE := Lib.hid (HOE.out.later (blAlloc (Below.refl (wr.drew.drew.drew.alloc (.cells #[] 178)).heap.size (wr.drew.drew.drew.alloc (.cells #[] 178))) (.cells #[.string key, .int .u64 (n : Int), .bool gone] 178)))
                refine hK.out _ _ (KB.out _ (blThen HB.out (by repeat (first | with_reducible exact Below.refl _ _ | with_reducible refine blAlloc ?_ _ | with_reducible refine Below.drew ?_)))) (fun hHeld => ?_)
                clear hK K
                try simp only [Act.put, List.setIfInBounds_toArray, List.set_cons_zero, List.set_cons_succ]
                refine wpAnyH_ready (rs := [4]) (by kernel_rfl) (by simp) ?_
                refine AllReadyH.cons (o := { dst := some 48, op := Op.call { callee := Callee.builtin Builtin.append, args := #[Operand.tmp 44, Operand.tmp 47], argTypes := #[75, 75] }, type := 75, pos := "ref.go:149", after := #[{ on := 0, ground := Ground.data }, { on := 3, ground := Ground.data }], guard := none }) rfl (fun K hK => ?_) (AllReadyH.nil)
                refine wp_append_G 75 _ 32 info_wr Tryz.underlying75 rfl (by decide) _ _ rfl wr.heap.size _ [] rfl HOE.out _ (d.take k) rfl (HTK.out.later (by repeat (first | with_reducible exact Below.refl _ _ | with_reducible refine blAlloc ?_ _ | with_reducible refine Below.drew ?_))) (by have := HLT.out; simp only [List.length_nil]; omega) ((by repeat (first | with_reducible exact Below.refl _ _ | with_reducible refine blAlloc ?_ _ | with_reducible refine Below.drew ?_)) : Below wr.heap.size wr ((wr.drew.drew.drew.alloc (.cells #[] 178)).alloc (.cells #[.string key, .int .u64 (n : Int), .bool gone] 178))).size ?_
                intro v3 w3 h1 h2
                rw [List.nil_append] at h1
                have HB3 : Hid (Below wr.heap.size wr w3) := grown_belowG ((by repeat (first | with_reducible exact Below.refl _ _ | with_reducible refine blAlloc ?_ _ | with_reducible refine Below.drew ?_)) : Below wr.heap.size wr ((wr.drew.drew.drew.alloc (.cells #[] 178)).alloc (.cells #[.string key, .int .u64 (n : Int), .bool gone] 178))) HOE.out (Nat.le_refl _) ((by repeat (first | with_reducible exact Below.refl _ _ | with_reducible refine blAlloc ?_ _ | with_reducible refine Below.drew ?_)) : Below wr.heap.size wr ((wr.drew.drew.drew.alloc (.cells #[] 178)).alloc (.cells #[.string key, .int .u64 (n : Int), .bool gone] 178))).size h2
                have h3 : (((wr.drew.drew.drew.alloc (.cells #[] 178)).alloc (.cells #[.string key, .int .u64 (n : Int), .bool gone] 178))).grownBy w3 (some (wr.heap.size)) := h2
                have HC := Lib.hid (HC.out.kept h3 (by simp))
                clear h3
                have HO3 := Lib.hid h1
                clear h1 h2 HOE
                refine hK.out _ _ (KB.out _ (blThen HB.out HB3.out)) (fun hHeld => ?_)
                clear hK K
                try simp only [Act.put, List.setIfInBounds_toArray, List.set_cons_zero, List.set_cons_succ]
                refine wpAnyH_ready (rs := [7]) (by kernel_rfl) (by simp) ?_
                refine AllReadyH.cons (o := { dst := some 51, op := Op.call { callee := Callee.builtin Builtin.append, args := #[Operand.tmp 48, Operand.tmp 50], argTypes := #[75, 75] }, type := 75, pos := "ref.go:149", after := #[{ on := 4, ground := Ground.data }, { on := 6, ground := Ground.data }, { on := 4, ground := Ground.chain }], guard := none }) rfl (fun K hK => ?_) (AllReadyH.nil)
                refine wp_append_G 75 _ 32 info_wr Tryz.underlying75 rfl (by decide) _ _ rfl wr.heap.size _ (d.take k) rfl HO3.out _ [(key, n, gone)] rfl HC.out (by have := HLT.out; simp only [List.length_cons, List.length_nil]; omega) ((by repeat (first | with_reducible exact HB3.out | with_reducible exact Below.refl _ _ | with_reducible refine blAlloc ?_ _ | with_reducible refine Below.drew ?_)) : Below wr.heap.size wr w3).size ?_
                intro v4 w4 h1 h2
                have HB4 : Hid (Below wr.heap.size wr w4) := grown_belowG ((by repeat (first | with_reducible exact HB3.out | with_reducible exact Below.refl _ _ | with_reducible refine blAlloc ?_ _ | with_reducible refine Below.drew ?_)) : Below wr.heap.size wr w3) HO3.out (Nat.le_refl _) ((by repeat (first | with_reducible exact HB3.out | with_reducible exact Below.refl _ _ | with_reducible refine blAlloc ?_ _ | with_reducible refine Below.drew ?_)) : Below wr.heap.size wr w3).size h2
                have HO4 := Lib.hid h1
                clear h1 h2
                refine hK.out _ _ (KB.out _ (blThen HB.out HB4.out)) (fun hHeld => ?_)
                clear hK K
                try simp only [Act.put, List.setIfInBounds_toArray, List.set_cons_zero, List.set_cons_succ]
                refine wpAnyH_ready (rs := [9]) (by kernel_rfl) (by simp) ?_
                refine AllReadyH.cons (o := { dst := some 53, op := Op.call { callee := Callee.builtin Builtin.append, args := #[Operand.tmp 51, Operand.tmp 52], argTypes := #[75, 75] }, type := 75, pos := "ref.go:149", after := #[{ on := 7, ground := Ground.data }, { on := 8, ground := Ground.data }, { on := 7, ground := Ground.chain }], guard := none }) rfl (fun K hK => ?_) (AllReadyH.nil)
                refine wp_append_G 75 _ 32 info_wr Tryz.underlying75 rfl (by decide) _ _ rfl wr.heap.size _ (d.take k ++ [(key, n, gone)]) rfl HO4.out _ (d.drop (k + 1)) rfl (HR.out _ HB4.out) (by have := HLT.out; have := HLR.out; simp only [List.length_append, List.length_cons, List.length_nil]; omega) HB4.out.size ?_
                intro v5 w5 h1 h2
                have HB5 : Hid (Below wr.heap.size wr w5) := grown_belowG HB4.out HO4.out (Nat.le_refl _) HB4.out.size h2
                have HO5 := Lib.hid h1
                clear h1 h2
                refine hK.out _ _ (KB.out _ (blThen HB.out HB5.out)) (fun hHeld => ?_)
                clear hK K
                try simp only [Act.put, List.setIfInBounds_toArray, List.set_cons_zero, List.set_cons_succ]
                refine wpAnyH_take (i := 10) (oi := { dst := some 4, op := Op.assign (Operand.tmp 53), type := 75, pos := "ref.go:149", after := #[{ on := 9, ground := Ground.data }, { on := 9, ground := Ground.chain }, { on := 0, ground := Ground.phase }, { on := 1, ground := Ground.phase }, { on := 2, ground := Ground.phase }, { on := 3, ground := Ground.phase }, { on := 4, ground := Ground.phase }, { on := 5, ground := Ground.phase }, { on := 6, ground := Ground.phase }, { on := 7, ground := Ground.phase }, { on := 8, ground := Ground.phase }, { on := 9, ground := Ground.phase }], guard := none }) (v := ?_) rfl (by kernel_rfl) (by kernel_rfl) (by kernel_rfl) (fun _ _ _ h => h) (Or.inl ⟨by rfl, ?_⟩) (by assumption) ?_
                rotate_left
                · intro w hSw
                  try dsimp only at hSw
                  go_simp
                  try with_reducible rfl
                try simp only [Act.put, List.setIfInBounds_toArray, List.set_cons_zero, List.set_cons_succ]
                refine wpAnyH_done (by kernel_rfl) ?_ _
                go_wp2
                go_ret
                exact ⟨_, rfl, by rw [HV.out]; exact HO5.out.mono (blThen HB0.out HB.out).size, blThen (blThen HB0.out HB.out) HB5.out⟩
            · go_simp
              have HC : Hid (SlG eW (wr.drew.drew.drew.alloc (.cells #[.string key, .int .u64 (n : Int), .bool gone] 178)) (.slice (some ⟨wr.heap.size, 0, none⟩) 1 1) [(key, n, gone)]) := one_G eW wr.drew.drew.drew _ (key, n, gone) _ _ rfl (by simp)
              refine hK.out _ _ (KB.out _ (blThen HB.out (by repeat (first | with_reducible exact Below.refl _ _ | with_reducible refine blAlloc ?_ _ | with_reducible refine Below.drew ?_)))) (fun hHeld => ?_)
              clear hK K
              try simp only [Act.put, List.setIfInBounds_toArray, List.set_cons_zero, List.set_cons_succ]
              refine wpAnyH_ready (rs := [0]) (by kernel_rfl) (by simp) ?_
              refine AllReadyH.cons (o := { dst := some 44, op := Op.buildSlice 75 0 #[], type := 75, pos := "ref.go:149", after := #[], guard := none }) rfl (fun K hK => ?_) (AllReadyH.nil)
              go_simp
              have HOE : Hid (OwnWr ((wr.drew.drew.drew.alloc (.cells #[.string key, .int .u64 (n : Int), .bool gone] 178)).alloc (.cells #[] 178)) wr.heap.size (.slice (some ⟨wr.heap.size + 1, 0, none⟩) 0 0) []) := own_emptyG (wr.drew.drew.drew.alloc (.cells #[.string key, .int .u64 (n : Int), .bool gone] 178)) 178 _ wr.heap.size (by simp) (by omega)
              have HC := Lib.hid (HC.out.later (blAlloc (Below.refl (wr.drew.drew.drew.alloc (.cells #[.string key, .int .u64 (n : Int), .bool gone] 178)).heap.size (wr.drew.drew.drew.alloc (.cells #[.string key, .int .u64 (n : Int), .bool gone] 178))) (.cells #[] 178)))
              refine hK.out _ _ (KB.out _ (blThen HB.out (by repeat (first | with_reducible exact Below.refl _ _ | with_reducible refine blAlloc ?_ _ | with_reducible refine Below.drew ?_)))) (fun hHeld => ?_)
              clear hK K
              try simp only [Act.put, List.setIfInBounds_toArray, List.set_cons_zero, List.set_cons_succ]
              refine wpAnyH_ready (rs := [4]) (by kernel_rfl) (by simp) ?_
              refine AllReadyH.cons (o := { dst := some 48, op := Op.call { callee := Callee.builtin Builtin.append, args := #[Operand.tmp 44, Operand.tmp 47], argTypes := #[75, 75] }, type := 75, pos := "ref.go:149", after := #[{ on := 0, ground := Ground.data }, { on := 3, ground := Ground.data }], guard := none }) rfl (fun K hK => ?_) (AllReadyH.nil)
              refine wp_append_G 75 _ 32 info_wr Tryz.underlying75 rfl (by decide) _ _ rfl wr.heap.size _ [] rfl HOE.out _ (d.take k) rfl (HTK.out.later (by repeat (first | with_reducible exact Below.refl _ _ | with_reducible refine blAlloc ?_ _ | with_reducible refine Below.drew ?_))) (by have := HLT.out; simp only [List.length_nil]; omega) ((by repeat (first | with_reducible exact Below.refl _ _ | with_reducible refine blAlloc ?_ _ | with_reducible refine Below.drew ?_)) : Below wr.heap.size wr ((wr.drew.drew.drew.alloc (.cells #[.string key, .int .u64 (n : Int), .bool gone] 178)).alloc (.cells #[] 178))).size ?_
              intro v3 w3 h1 h2
              rw [List.nil_append] at h1
              have HB3 : Hid (Below wr.heap.size wr w3) := grown_belowG ((by repeat (first | with_reducible exact Below.refl _ _ | with_reducible refine blAlloc ?_ _ | with_reducible refine Below.drew ?_)) : Below wr.heap.size wr ((wr.drew.drew.drew.alloc (.cells #[.string key, .int .u64 (n : Int), .bool gone] 178)).alloc (.cells #[] 178))) HOE.out (Nat.le_refl _) ((by repeat (first | with_reducible exact Below.refl _ _ | with_reducible refine blAlloc ?_ _ | with_reducible refine Below.drew ?_)) : Below wr.heap.size wr ((wr.drew.drew.drew.alloc (.cells #[.string key, .int .u64 (n : Int), .bool gone] 178)).alloc (.cells #[] 178))).size h2
              have h3 : (((wr.drew.drew.drew.alloc (.cells #[.string key, .int .u64 (n : Int), .bool gone] 178)).alloc (.cells #[] 178))).grownBy w3 (some (wr.heap.size + 1)) := h2
              have HC := Lib.hid (HC.out.kept h3 (by simp))
              clear h3
              have HO3 := Lib.hid h1
              clear h1 h2 HOE
              refine hK.out _ _ (KB.out _ (blThen HB.out HB3.out)) (fun hHeld => ?_)
              clear hK K
              try simp only [Act.put, List.setIfInBounds_toArray, List.set_cons_zero, List.set_cons_succ]
              refine wpAnyH_ready (rs := [7]) (by kernel_rfl) (by simp) ?_
              refine AllReadyH.cons (o := { dst := some 51, op := Op.call { callee := Callee.builtin Builtin.append, args := #[Operand.tmp 48, Operand.tmp 50], argTypes := #[75, 75] }, type := 75, pos := "ref.go:149", after := #[{ on := 4, ground := Ground.data }, { on := 6, ground := Ground.data }, { on := 4, ground := Ground.chain }], guard := none }) rfl (fun K hK => ?_) (AllReadyH.nil)
              refine wp_append_G 75 _ 32 info_wr Tryz.underlying75 rfl (by decide) _ _ rfl wr.heap.size _ (d.take k) rfl HO3.out _ [(key, n, gone)] rfl HC.out (by have := HLT.out; simp only [List.length_cons, List.length_nil]; omega) ((by repeat (first | with_reducible exact HB3.out | with_reducible exact Below.refl _ _ | with_reducible refine blAlloc ?_ _ | with_reducible refine Below.drew ?_)) : Below wr.heap.size wr w3).size ?_
              intro v4 w4 h1 h2
              have HB4 : Hid (Below wr.heap.size wr w4) := grown_belowG ((by repeat (first | with_reducible exact HB3.out | with_reducible exact Below.refl _ _ | with_reducible refine blAlloc ?_ _ | with_reducible refine Below.drew ?_)) : Below wr.heap.size wr w3) HO3.out (Nat.le_refl _) ((by repeat (first | with_reducible exact HB3.out | with_reducible exact Below.refl _ _ | with_reducible refine blAlloc ?_ _ | with_reducible refine Below.drew ?_)) : Below wr.heap.size wr w3).size h2
              have HO4 := Lib.hid h1
              clear h1 h2
              refine hK.out _ _ (KB.out _ (blThen HB.out HB4.out)) (fun hHeld => ?_)
              clear hK K
              try simp only [Act.put, List.setIfInBounds_toArray, List.set_cons_zero, List.set_cons_succ]
              refine wpAnyH_ready (rs := [9]) (by kernel_rfl) (by simp) ?_
              refine AllReadyH.cons (o := { dst := some 53, op := Op.call { callee := Callee.builtin Builtin.append, args := #[Operand.tmp 51, Operand.tmp 52], argTypes := #[75, 75] }, type := 75, pos := "ref.go:149", after := #[{ on := 7, ground := Ground.data }, { on := 8, ground := Ground.data }, { on := 7, ground := Ground.chain }], guard := none }) rfl (fun K hK => ?_) (AllReadyH.nil)
              refine wp_append_G 75 _ 32 info_wr Tryz.underlying75 rfl (by decide) _ _ rfl wr.heap.size _ (d.take k ++ [(key, n, gone)]) rfl HO4.out _ (d.drop (k + 1)) rfl (HR.out _ HB4.out) (by have := HLT.out; have := HLR.out; simp only [List.length_append, List.length_cons, List.length_nil]; omega) HB4.out.size ?_
              intro v5 w5 h1 h2
              have HB5 : Hid (Below wr.heap.size wr w5) := grown_belowG HB4.out HO4.out (Nat.le_refl _) HB4.out.size h2
              have HO5 := Lib.hid h1
              clear h1 h2
              refine hK.out _ _ (KB.out _ (blThen HB.out HB5.out)) (fun hHeld => ?_)
              clear hK K
              try simp only [Act.put, List.setIfInBounds_toArray, List.set_cons_zero, List.set_cons_succ]
              refine wpAnyH_take (i := 10) (oi := { dst := some 4, op := Op.assign (Operand.tmp 53), type := 75, pos := "ref.go:149", after := #[{ on := 9, ground := Ground.data }, { on := 9, ground := Ground.chain }, { on := 0, ground := Ground.phase }, { on := 1, ground := Ground.phase }, { on := 2, ground := Ground.phase }, { on := 3, ground := Ground.phase }, { on := 4, ground := Ground.phase }, { on := 5, ground := Ground.phase }, { on := 6, ground := Ground.phase }, { on := 7, ground := Ground.phase }, { on := 8, ground := Ground.phase }, { on := 9, ground := Ground.phase }], guard := none }) (v := ?_) rfl (by kernel_rfl) (by kernel_rfl) (by kernel_rfl) (fun _ _ _ h => h) (Or.inl ⟨by rfl, ?_⟩) (by assumption) ?_
              rotate_left
              · intro w hSw
                try dsimp only at hSw
                go_simp
                try with_reducible rfl
              try simp only [Act.put, List.setIfInBounds_toArray, List.set_cons_zero, List.set_cons_succ]
              refine wpAnyH_done (by kernel_rfl) ?_ _
              go_wp2
              go_ret
              exact ⟨_, rfl, by rw [HV.out]; exact HO5.out.mono (blThen HB0.out HB.out).size, blThen (blThen HB0.out HB.out) HB5.out⟩
          · skip
            have HTK := Lib.hid (slG_take HAr.out k (by have := HN.out; omega))
            have HR := Lib.hid (fun (Y : World) (hY : Below wr.heap.size wr Y) => (show SlG eW wr (.slice (some ⟨g, o + (k + 1) * 3, none⟩) (N - (k + 1)) (cap - (k + 1))) (d.drop (k + 1)) from slG_drop HAr.out (k + 1) _ _ (by rw [List.length_drop, HN.out])).later hY)
            have HLR : Hid (((d.drop (k + 1))).length ≤ 100000) := by show _ ≤ _; rw [List.length_drop]; have := HN.out; omega
            have HLT : Hid ((d.take k).length ≤ 100000) := by show _ ≤ _; rw [List.length_take]; have := HN.out; omega
            go_wp2_with fail
            refine wp_region_held_drew (S := fun Y => Y.cell? ⟨g, o + k * 3, none⟩ = some (.string pk) ∧ Y.cell? ⟨w.heap.size, 0, none⟩ = some (.string key)) (by kernel_rfl) (K3.out _ HB.out.drew) (fun hHeld => ?_)
            refine wpAnyH_take (i := 0) (oi := { dst := some 7, op := Op.move (Operand.tmp 5), type := 3, pos := "ref.go:142", after := #[], guard := none }) (v := ?_) rfl (by kernel_rfl) (by kernel_rfl) (by kernel_rfl) (fun _ _ _ h => h) (Or.inl ⟨by rfl, ?_⟩) (by assumption) ?_
            rotate_left
            · intro w hSw
              try dsimp only at hSw
              go_simp
              try with_reducible rfl
            try simp only [Act.put, List.setIfInBounds_toArray, List.set_cons_zero, List.set_cons_succ]
            refine wpAnyH_take (i := 1) (oi := { dst := some 8, op := Op.move (Operand.tmp 0), type := 75, pos := "ref.go:142", after := #[], guard := none }) (v := ?_) rfl (by kernel_rfl) (by kernel_rfl) (by kernel_rfl) (fun _ _ _ h => h) (Or.inl ⟨by rfl, ?_⟩) (by assumption) ?_
            rotate_left
            · intro w hSw
              try dsimp only at hSw
              go_simp
              try with_reducible rfl
            try simp only [Act.put, List.setIfInBounds_toArray, List.set_cons_zero, List.set_cons_succ]
            refine wpAnyH_take (i := 2) (oi := { dst := some 9, op := Op.call { callee := Callee.builtin Builtin.len, args := #[Operand.tmp 8], argTypes := #[75] }, type := 3, pos := "ref.go:142", after := #[{ on := 1, ground := Ground.data }], guard := none }) (v := ?_) rfl (by kernel_rfl) (by kernel_rfl) (by kernel_rfl) (fun _ _ _ h => h) (Or.inl ⟨by rfl, ?_⟩) (by assumption) ?_
            rotate_left
            · intro w hSw
              try dsimp only at hSw
              go_simp
              try with_reducible rfl
            try simp only [Act.put, List.setIfInBounds_toArray, List.set_cons_zero, List.set_cons_succ]
            refine wpAnyH_take (i := 3) (oi := { dst := some 10, op := Op.binOp BinOp.lss 3 (Operand.tmp 7) (Operand.tmp 9) 3, type := 4, pos := "ref.go:142", after := #[{ on := 0, ground := Ground.data }, { on := 2, ground := Ground.data }], guard := none }) (v := ?_) rfl (by kernel_rfl) (by kernel_rfl) (by kernel_rfl) (fun _ _ _ h => h) (Or.inl ⟨by rfl, ?_⟩) (by assumption) ?_
            rotate_left
            · intro w hSw
              try dsimp only at hSw
              go_simp
              try with_reducible rfl
            try simp only [Act.put, List.setIfInBounds_toArray, List.set_cons_zero, List.set_cons_succ]
            refine wpAnyH_take (i := 4) (oi := { dst := some 11, op := Op.move (Operand.tmp 10), type := 4, pos := "ref.go:142", after := #[{ on := 3, ground := Ground.data }], guard := none }) (v := ?_) rfl (by kernel_rfl) (by kernel_rfl) (by kernel_rfl) (fun _ _ _ h => h) (Or.inl ⟨by rfl, ?_⟩) (by assumption) ?_
            rotate_left
            · intro w hSw
              try dsimp only at hSw
              go_simp
              try with_reducible rfl
            try simp only [Act.put, List.setIfInBounds_toArray, List.set_cons_zero, List.set_cons_succ]
            refine wpAnyH_take (i := 5) (oi := { dst := some 12, op := Op.move (Operand.tmp 0), type := 75, pos := "ref.go:142", after := #[{ on := 4, ground := Ground.guard }], guard := some (4, true) }) (v := ?_) rfl (by kernel_rfl) (by kernel_rfl) (by kernel_rfl) (fun _ _ _ h => h) (Or.inl ⟨by rfl, ?_⟩) (by assumption) ?_
            rotate_left
            · intro w hSw
              try dsimp only at hSw
              go_simp
              try with_reducible rfl
            try simp only [Act.put, List.setIfInBounds_toArray, List.set_cons_zero, List.set_cons_succ]
            refine wpAnyH_take (i := 6) (oi := { dst := some 13, op := Op.move (Operand.tmp 5), type := 3, pos := "ref.go:142", after := #[{ on := 4, ground := Ground.guard }], guard := some (4, true) }) (v := ?_) rfl (by kernel_rfl) (by kernel_rfl) (by kernel_rfl) (fun _ _ _ h => h) (Or.inl ⟨by rfl, ?_⟩) (by assumption) ?_
            rotate_left
            · intro w hSw
              try dsimp only at hSw
              go_simp
              try with_reducible rfl
            try simp only [Act.put, List.setIfInBounds_toArray, List.set_cons_zero, List.set_cons_succ]
            refine wpAnyH_take (i := 7) (oi := { dst := some 14, op := Op.indexAddr 75 (Operand.tmp 12) (Operand.tmp 13), type := 0, pos := "ref.go:142", after := #[{ on := 5, ground := Ground.data }, { on := 6, ground := Ground.data }, { on := 4, ground := Ground.guard }], guard := some (4, true) }) (v := ?_) rfl (by kernel_rfl) (by kernel_rfl) (by kernel_rfl) (fun _ _ _ h => h) (Or.inl ⟨by rfl, ?_⟩) (by assumption) ?_
            rotate_left
            · intro w hSw
              try dsimp only at hSw
              go_simp
              try with_reducible rfl
            try simp only [Act.put, List.setIfInBounds_toArray, List.set_cons_zero, List.set_cons_succ]
            refine wpAnyH_take (i := 8) (oi := { dst := some 15, op := Op.fieldAddr 178 (Operand.tmp 14) 0, type := 0, pos := "ref.go:142", after := #[{ on := 7, ground := Ground.data }, { on := 4, ground := Ground.guard }], guard := some (4, true) }) (v := ?_) rfl (by kernel_rfl) (by kernel_rfl) (by kernel_rfl) (fun _ _ _ h => h) (Or.inl ⟨by rfl, ?_⟩) (by assumption) ?_
            rotate_left
            · intro w hSw
              try dsimp only at hSw
              go_simp
              try with_reducible rfl
            try simp only [Act.put, List.setIfInBounds_toArray, List.set_cons_zero, List.set_cons_succ]
            refine wpAnyH_take (i := 9) (oi := { dst := some 16, op := Op.load 9 (Operand.tmp 15), type := 9, pos := "ref.go:142", after := #[{ on := 8, ground := Ground.data }, { on := 4, ground := Ground.guard }], guard := some (4, true) }) (v := ?_) rfl (by kernel_rfl) (by kernel_rfl) (by kernel_rfl) (fun _ _ _ h => h) (Or.inl ⟨by rfl, ?_⟩) (by assumption) ?_
            rotate_left
            · intro w hSw
              try dsimp only at hSw
              go_simp
              try with_reducible rfl
            try simp only [Act.put, List.setIfInBounds_toArray, List.set_cons_zero, List.set_cons_succ]
            refine wpAnyH_take (i := 10) (oi := { dst := some 17, op := Op.fieldAddr 178 (Operand.tmp 3) 0, type := 0, pos := "ref.go:142", after := #[{ on := 4, ground := Ground.guard }], guard := some (4, true) }) (v := ?_) rfl (by kernel_rfl) (by kernel_rfl) (by kernel_rfl) (fun _ _ _ h => h) (Or.inl ⟨by rfl, ?_⟩) (by assumption) ?_
            rotate_left
            · intro w hSw
              try dsimp only at hSw
              go_simp
              try with_reducible rfl
            try simp only [Act.put, List.setIfInBounds_toArray, List.set_cons_zero, List.set_cons_succ]
            refine wpAnyH_take (i := 11) (oi := { dst := some 18, op := Op.load 9 (Operand.tmp 17), type := 9, pos := "ref.go:142", after := #[{ on := 10, ground := Ground.data }, { on := 4, ground := Ground.guard }], guard := some (4, true) }) (v := ?_) rfl (by kernel_rfl) (by kernel_rfl) (by kernel_rfl) (fun _ _ _ h => h) (Or.inl ⟨by rfl, ?_⟩) (by assumption) ?_
            rotate_left
            · intro w hSw
              try dsimp only at hSw
              go_simp
              try with_reducible rfl
            try simp only [Act.put, List.setIfInBounds_toArray, List.set_cons_zero, List.set_cons_succ]
            refine wpAnyH_take (i := 12) (oi := { dst := some 19, op := Op.binOp BinOp.lss 9 (Operand.tmp 16) (Operand.tmp 18) 9, type := 4, pos := "ref.go:142", after := #[{ on := 9, ground := Ground.data }, { on := 11, ground := Ground.data }, { on := 4, ground := Ground.guard }], guard := some (4, true) }) (v := ?_) rfl (by kernel_rfl) (by kernel_rfl) (by kernel_rfl) (fun _ _ _ h => h) (Or.inl ⟨by rfl, ?_⟩) (by assumption) ?_
            rotate_left
            · intro w hSw
              try dsimp only at hSw
              go_simp
              try with_reducible rfl
            try simp only [Act.put, List.setIfInBounds_toArray, List.set_cons_zero, List.set_cons_succ]
            refine wpAnyH_take (i := 13) (oi := { dst := some 20, op := Op.pick (Operand.tmp 11) (Operand.tmp 19) (Operand.const (Value.bool false)), type := 4, pos := "ref.go:142", after := #[{ on := 4, ground := Ground.data }, { on := 12, ground := Ground.data }], guard := none }) (v := ?_) rfl (by kernel_rfl) (by kernel_rfl) (by kernel_rfl) (fun _ _ _ h => h) (Or.inl ⟨by rfl, ?_⟩) (by assumption) ?_
            rotate_left
            · intro w hSw
              try dsimp only at hSw
              go_simp
              try with_reducible rfl
            try simp only [Act.put, List.setIfInBounds_toArray, List.set_cons_zero, List.set_cons_succ]
            refine wpAnyH_done (by kernel_rfl) ?_ _
            go_wp2_with fail
            refine wp_region_held_drew (S := fun Y => Y.cell? ⟨g, o + k * 3, none⟩ = some (.string pk) ∧ Y.cell? ⟨w.heap.size, 0, none⟩ = some (.string key)) (by kernel_rfl) (K3.out _ HB.out.drew.drew) (fun hHeld => ?_)
            refine wpAnyH_take (i := 0) (oi := { dst := some 26, op := Op.move (Operand.tmp 5), type := 3, pos := "ref.go:146", after := #[], guard := none }) (v := ?_) rfl (by kernel_rfl) (by kernel_rfl) (by kernel_rfl) (fun _ _ _ h => h) (Or.inl ⟨by rfl, ?_⟩) (by assumption) ?_
            rotate_left
            · intro w hSw
              try dsimp only at hSw
              go_simp
              try with_reducible rfl
            try simp only [Act.put, List.setIfInBounds_toArray, List.set_cons_zero, List.set_cons_succ]
            refine wpAnyH_take (i := 1) (oi := { dst := some 27, op := Op.move (Operand.tmp 0), type := 75, pos := "ref.go:146", after := #[], guard := none }) (v := ?_) rfl (by kernel_rfl) (by kernel_rfl) (by kernel_rfl) (fun _ _ _ h => h) (Or.inl ⟨by rfl, ?_⟩) (by assumption) ?_
            rotate_left
            · intro w hSw
              try dsimp only at hSw
              go_simp
              try with_reducible rfl
            try simp only [Act.put, List.setIfInBounds_toArray, List.set_cons_zero, List.set_cons_succ]
            refine wpAnyH_take (i := 2) (oi := { dst := some 28, op := Op.call { callee := Callee.builtin Builtin.len, args := #[Operand.tmp 27], argTypes := #[75] }, type := 3, pos := "ref.go:146", after := #[{ on := 1, ground := Ground.data }], guard := none }) (v := ?_) rfl (by kernel_rfl) (by kernel_rfl) (by kernel_rfl) (fun _ _ _ h => h) (Or.inl ⟨by rfl, ?_⟩) (by assumption) ?_
            rotate_left
            · intro w hSw
              try dsimp only at hSw
              go_simp
              try with_reducible rfl
            try simp only [Act.put, List.setIfInBounds_toArray, List.set_cons_zero, List.set_cons_succ]
            refine wpAnyH_take (i := 3) (oi := { dst := some 29, op := Op.binOp BinOp.lss 3 (Operand.tmp 26) (Operand.tmp 28) 3, type := 4, pos := "ref.go:146", after := #[{ on := 0, ground := Ground.data }, { on := 2, ground := Ground.data }], guard := none }) (v := ?_) rfl (by kernel_rfl) (by kernel_rfl) (by kernel_rfl) (fun _ _ _ h => h) (Or.inl ⟨by rfl, ?_⟩) (by assumption) ?_
            rotate_left
            · intro w hSw
              try dsimp only at hSw
              go_simp
              try with_reducible rfl
            try simp only [Act.put, List.setIfInBounds_toArray, List.set_cons_zero, List.set_cons_succ]
            refine wpAnyH_take (i := 4) (oi := { dst := some 30, op := Op.move (Operand.tmp 29), type := 4, pos := "ref.go:146", after := #[{ on := 3, ground := Ground.data }], guard := none }) (v := ?_) rfl (by kernel_rfl) (by kernel_rfl) (by kernel_rfl) (fun _ _ _ h => h) (Or.inl ⟨by rfl, ?_⟩) (by assumption) ?_
            rotate_left
            · intro w hSw
              try dsimp only at hSw
              go_simp
              try with_reducible rfl
            try simp only [Act.put, List.setIfInBounds_toArray, List.set_cons_zero, List.set_cons_succ]
            refine wpAnyH_take (i := 5) (oi := { dst := some 31, op := Op.move (Operand.tmp 0), type := 75, pos := "ref.go:146", after := #[{ on := 4, ground := Ground.guard }], guard := some (4, true) }) (v := ?_) rfl (by kernel_rfl) (by kernel_rfl) (by kernel_rfl) (fun _ _ _ h => h) (Or.inl ⟨by rfl, ?_⟩) (by assumption) ?_
            rotate_left
            · intro w hSw
              try dsimp only at hSw
              go_simp
              try with_reducible rfl
            try simp only [Act.put, List.setIfInBounds_toArray, List.set_cons_zero, List.set_cons_succ]
            refine wpAnyH_take (i := 6) (oi := { dst := some 32, op := Op.move (Operand.tmp 5), type := 3, pos := "ref.go:146", after := #[{ on := 4, ground := Ground.guard }], guard := some (4, true) }) (v := ?_) rfl (by kernel_rfl) (by kernel_rfl) (by kernel_rfl) (fun _ _ _ h => h) (Or.inl ⟨by rfl, ?_⟩) (by assumption) ?_
            rotate_left
            · intro w hSw
              try dsimp only at hSw
              go_simp
              try with_reducible rfl
            try simp only [Act.put, List.setIfInBounds_toArray, List.set_cons_zero, List.set_cons_succ]
            refine wpAnyH_take (i := 7) (oi := { dst := some 33, op := Op.indexAddr 75 (Operand.tmp 31) (Operand.tmp 32), type := 0, pos := "ref.go:146", after := #[{ on := 5, ground := Ground.data }, { on := 6, ground := Ground.data }, { on := 4, ground := Ground.guard }], guard := some (4, true) }) (v := ?_) rfl (by kernel_rfl) (by kernel_rfl) (by kernel_rfl) (fun _ _ _ h => h) (Or.inl ⟨by rfl, ?_⟩) (by assumption) ?_
            rotate_left
            · intro w hSw
              try dsimp only at hSw
              go_simp
              try with_reducible rfl
            try simp only [Act.put, List.setIfInBounds_toArray, List.set_cons_zero, List.set_cons_succ]
            refine wpAnyH_take (i := 8) (oi := { dst := some 34, op := Op.fieldAddr 178 (Operand.tmp 33) 0, type := 0, pos := "ref.go:146", after := #[{ on := 7, ground := Ground.data }, { on := 4, ground := Ground.guard }], guard := some (4, true) }) (v := ?_) rfl (by kernel_rfl) (by kernel_rfl) (by kernel_rfl) (fun _ _ _ h => h) (Or.inl ⟨by rfl, ?_⟩) (by assumption) ?_
            rotate_left
            · intro w hSw
              try dsimp only at hSw
              go_simp
              try with_reducible rfl
            try simp only [Act.put, List.setIfInBounds_toArray, List.set_cons_zero, List.set_cons_succ]
            refine wpAnyH_take (i := 9) (oi := { dst := some 35, op := Op.load 9 (Operand.tmp 34), type := 9, pos := "ref.go:146", after := #[{ on := 8, ground := Ground.data }, { on := 4, ground := Ground.guard }], guard := some (4, true) }) (v := ?_) rfl (by kernel_rfl) (by kernel_rfl) (by kernel_rfl) (fun _ _ _ h => h) (Or.inl ⟨by rfl, ?_⟩) (by assumption) ?_
            rotate_left
            · intro w hSw
              try dsimp only at hSw
              go_simp
              try with_reducible rfl
            try simp only [Act.put, List.setIfInBounds_toArray, List.set_cons_zero, List.set_cons_succ]
            refine wpAnyH_take (i := 10) (oi := { dst := some 36, op := Op.fieldAddr 178 (Operand.tmp 3) 0, type := 0, pos := "ref.go:146", after := #[{ on := 4, ground := Ground.guard }], guard := some (4, true) }) (v := ?_) rfl (by kernel_rfl) (by kernel_rfl) (by kernel_rfl) (fun _ _ _ h => h) (Or.inl ⟨by rfl, ?_⟩) (by assumption) ?_
            rotate_left
            · intro w hSw
              try dsimp only at hSw
              go_simp
              try with_reducible rfl
            try simp only [Act.put, List.setIfInBounds_toArray, List.set_cons_zero, List.set_cons_succ]
            refine wpAnyH_take (i := 11) (oi := { dst := some 37, op := Op.load 9 (Operand.tmp 36), type := 9, pos := "ref.go:146", after := #[{ on := 10, ground := Ground.data }, { on := 4, ground := Ground.guard }], guard := some (4, true) }) (v := ?_) rfl (by kernel_rfl) (by kernel_rfl) (by kernel_rfl) (fun _ _ _ h => h) (Or.inl ⟨by rfl, ?_⟩) (by assumption) ?_
            rotate_left
            · intro w hSw
              try dsimp only at hSw
              go_simp
              try with_reducible rfl
            try simp only [Act.put, List.setIfInBounds_toArray, List.set_cons_zero, List.set_cons_succ]
            refine wpAnyH_take (i := 12) (oi := { dst := some 38, op := Op.binOp BinOp.eql 9 (Operand.tmp 35) (Operand.tmp 37) 9, type := 4, pos := "ref.go:146", after := #[{ on := 9, ground := Ground.data }, { on := 11, ground := Ground.data }, { on := 4, ground := Ground.guard }], guard := some (4, true) }) (v := ?_) rfl (by kernel_rfl) (by kernel_rfl) (by kernel_rfl) (fun _ _ _ h => h) (Or.inl ⟨by rfl, ?_⟩) (by assumption) ?_
            rotate_left
            · intro w hSw
              try dsimp only at hSw
              go_simp
              try with_reducible rfl
            try simp only [Act.put, List.setIfInBounds_toArray, List.set_cons_zero, List.set_cons_succ]
            refine wpAnyH_take (i := 13) (oi := { dst := some 39, op := Op.pick (Operand.tmp 30) (Operand.tmp 38) (Operand.const (Value.bool false)), type := 4, pos := "ref.go:146", after := #[{ on := 4, ground := Ground.data }, { on := 12, ground := Ground.data }], guard := none }) (v := ?_) rfl (by kernel_rfl) (by kernel_rfl) (by kernel_rfl) (fun _ _ _ h => h) (Or.inl ⟨by rfl, ?_⟩) (by assumption) ?_
            rotate_left
            · intro w hSw
              try dsimp only at hSw
              go_simp
              try with_reducible rfl
            try simp only [Act.put, List.setIfInBounds_toArray, List.set_cons_zero, List.set_cons_succ]
            refine wpAnyH_done (by kernel_rfl) ?_ _
            go_wp2_with fail
            refine wp_region_held_drew (S := fun Y => Y.cell? ⟨w.heap.size, 0, none⟩ = some (.string key) ∧ Y.cell? ⟨w.heap.size, 1, none⟩ = some (.int .u64 (n : Int)) ∧ Y.cell? ⟨w.heap.size, 2, none⟩ = some (.bool gone)) (by kernel_rfl) (KB.out _ (blThen HB.out (Below.refl wr.heap.size wr)).drew.drew.drew) (fun hHeld => ?_)
            refine wpAnyH_take (i := 1) (oi := { dst := some 45, op := Op.move (Operand.tmp 0), type := 75, pos := "ref.go:149", after := #[], guard := none }) (v := ?_) rfl (by kernel_rfl) (by kernel_rfl) (by kernel_rfl) (fun _ _ _ h => h) (Or.inl ⟨by rfl, ?_⟩) (by assumption) ?_
            rotate_left
            · intro w hSw
              try dsimp only at hSw
              go_simp
              try with_reducible rfl
            try simp only [Act.put, List.setIfInBounds_toArray, List.set_cons_zero, List.set_cons_succ]
            refine wpAnyH_take (i := 2) (oi := { dst := some 46, op := Op.move (Operand.tmp 5), type := 3, pos := "ref.go:149", after := #[], guard := none }) (v := ?_) rfl (by kernel_rfl) (by kernel_rfl) (by kernel_rfl) (fun _ _ _ h => h) (Or.inl ⟨by rfl, ?_⟩) (by assumption) ?_
            rotate_left
            · intro w hSw
              try dsimp only at hSw
              go_simp
              try with_reducible rfl
            try simp only [Act.put, List.setIfInBounds_toArray, List.set_cons_zero, List.set_cons_succ]
            refine wpAnyH_take (i := 3) (oi := { dst := some 47, op := Op.slice 75 (Operand.tmp 45) none (some (Operand.tmp 46)) none, type := 75, pos := "ref.go:149", after := #[{ on := 1, ground := Ground.data }, { on := 2, ground := Ground.data }], guard := none }) (v := ?_) rfl (by kernel_rfl) (by kernel_rfl) (by kernel_rfl) (fun _ _ _ h => h) (Or.inl ⟨by rfl, ?_⟩) (by assumption) ?_
            rotate_left
            · intro w hSw
              try dsimp only at hSw
              go_simp
              try with_reducible rfl
            try simp only [Act.put, List.setIfInBounds_toArray, List.set_cons_zero, List.set_cons_succ]
            refine wpAnyH_take (i := 5) (oi := { dst := some 49, op := Op.load 178 (Operand.tmp 3), type := 178, pos := "ref.go:149", after := #[], guard := none }) (v := ?_) rfl (by kernel_rfl) (by kernel_rfl) (by kernel_rfl) (fun _ _ _ h => h) (Or.inl ⟨by rfl, ?_⟩) (by assumption) ?_
            rotate_left
            · intro w hSw
              try dsimp only at hSw
              go_simp
              try with_reducible rfl
            try simp only [Act.put, List.setIfInBounds_toArray, List.set_cons_zero, List.set_cons_succ]
            refine wpAnyH_take (i := 8) (oi := { dst := some 52, op := Op.move (Operand.tmp 6), type := 75, pos := "ref.go:149", after := #[], guard := none }) (v := ?_) rfl (by kernel_rfl) (by kernel_rfl) (by kernel_rfl) (fun _ _ _ h => h) (Or.inl ⟨by rfl, ?_⟩) (by assumption) ?_
            rotate_left
            · intro w hSw
              try dsimp only at hSw
              go_simp
              try with_reducible rfl
            try simp only [Act.put, List.setIfInBounds_toArray, List.set_cons_zero, List.set_cons_succ]
            refine wpAnyH_ready (rs := [0, 6]) (by kernel_rfl) (by simp) ?_
            refine AllReadyH.cons (o := { dst := some 44, op := Op.buildSlice 75 0 #[], type := 75, pos := "ref.go:149", after := #[], guard := none }) rfl (fun K hK => ?_) (AllReadyH.cons (o := { dst := some 50, op := Op.buildSlice 75 1 #[(0, Operand.tmp 49)], type := 75, pos := "ref.go:149", after := #[{ on := 5, ground := Ground.data }], guard := none }) rfl (fun K hK => ?_) (AllReadyH.nil))
            · go_simp
              have HOE : Hid (OwnWr (wr.drew.drew.drew.alloc (.cells #[] 178)) wr.heap.size (.slice (some ⟨wr.heap.size, 0, none⟩) 0 0) []) := own_emptyG wr.drew.drew.drew 178 _ wr.heap.size (by simp) (by omega)
              refine hK.out _ _ (KB.out _ (blThen HB.out (by repeat (first | with_reducible exact Below.refl _ _ | with_reducible refine blAlloc ?_ _ | with_reducible refine Below.drew ?_)))) (fun hHeld => ?_)
              clear hK K
              try simp only [Act.put, List.setIfInBounds_toArray, List.set_cons_zero, List.set_cons_succ]
              refine wpAnyH_ready (rs := [4, 6]) (by kernel_rfl) (by simp) ?_
              refine AllReadyH.cons (o := { dst := some 48, op := Op.call { callee := Callee.builtin Builtin.append, args := #[Operand.tmp 44, Operand.tmp 47], argTypes := #[75, 75] }, type := 75, pos := "ref.go:149", after := #[{ on := 0, ground := Ground.data }, { on := 3, ground := Ground.data }], guard := none }) rfl (fun K hK => ?_) (AllReadyH.cons (o := { dst := some 50, op := Op.buildSlice 75 1 #[(0, Operand.tmp 49)], type := 75, pos := "ref.go:149", after := #[{ on := 5, ground := Ground.data }], guard := none }) rfl (fun K hK => ?_) (AllReadyH.nil))
              · refine wp_append_G 75 _ 32 info_wr Tryz.underlying75 rfl (by decide) _ _ rfl wr.heap.size _ [] rfl HOE.out _ (d.take k) rfl (HTK.out.later (by repeat (first | with_reducible exact Below.refl _ _ | with_reducible refine blAlloc ?_ _ | with_reducible refine Below.drew ?_))) (by have := HLT.out; simp only [List.length_nil]; omega) ((by repeat (first | with_reducible exact Below.refl _ _ | with_reducible refine blAlloc ?_ _ | with_reducible refine Below.drew ?_)) : Below wr.heap.size wr (wr.drew.drew.drew.alloc (.cells #[] 178))).size ?_
                intro v3 w3 h1 h2
                rw [List.nil_append] at h1
                have HB3 : Hid (Below wr.heap.size wr w3) := grown_belowG ((by repeat (first | with_reducible exact Below.refl _ _ | with_reducible refine blAlloc ?_ _ | with_reducible refine Below.drew ?_)) : Below wr.heap.size wr (wr.drew.drew.drew.alloc (.cells #[] 178))) HOE.out (Nat.le_refl _) ((by repeat (first | with_reducible exact Below.refl _ _ | with_reducible refine blAlloc ?_ _ | with_reducible refine Below.drew ?_)) : Below wr.heap.size wr (wr.drew.drew.drew.alloc (.cells #[] 178))).size h2
                have HO3 := Lib.hid h1
                clear h1 h2 HOE
                refine hK.out _ _ (KB.out _ (blThen HB.out HB3.out)) (fun hHeld => ?_)
                clear hK K
                try simp only [Act.put, List.setIfInBounds_toArray, List.set_cons_zero, List.set_cons_succ]
                refine wpAnyH_ready (rs := [6]) (by kernel_rfl) (by simp) ?_
                refine AllReadyH.cons (o := { dst := some 50, op := Op.buildSlice 75 1 #[(0, Operand.tmp 49)], type := 75, pos := "ref.go:149", after := #[{ on := 5, ground := Ground.data }], guard := none }) rfl (fun K hK => ?_) (AllReadyH.nil)
                go_simp
                have HC : Hid (SlG eW (w3.alloc (.cells #[.string key, .int .u64 (n : Int), .bool gone] 178)) (.slice (some ⟨w3.heap.size, 0, none⟩) 1 1) [(key, n, gone)]) := one_G eW w3 _ (key, n, gone) _ _ rfl (by simp)
                have HO3 := Lib.hid (HO3.out.later (blAlloc (Below.refl w3.heap.size w3) (.cells #[.string key, .int .u64 (n : Int), .bool gone] 178)))
                refine hK.out _ _ (KB.out _ (blThen HB.out (by repeat (first | with_reducible exact HB3.out | with_reducible exact Below.refl _ _ | with_reducible refine blAlloc ?_ _ | with_reducible refine Below.drew ?_)))) (fun hHeld => ?_)
                clear hK K
                try simp only [Act.put, List.setIfInBounds_toArray, List.set_cons_zero, List.set_cons_succ]
                refine wpAnyH_ready (rs := [7]) (by kernel_rfl) (by simp) ?_
                refine AllReadyH.cons (o := { dst := some 51, op := Op.call { callee := Callee.builtin Builtin.append, args := #[Operand.tmp 48, Operand.tmp 50], argTypes := #[75, 75] }, type := 75, pos := "ref.go:149", after := #[{ on := 4, ground := Ground.data }, { on := 6, ground := Ground.data }, { on := 4, ground := Ground.chain }], guard := none }) rfl (fun K hK => ?_) (AllReadyH.nil)
                refine wp_append_G 75 _ 32 info_wr Tryz.underlying75 rfl (by decide) _ _ rfl wr.heap.size _ (d.take k) rfl HO3.out _ [(key, n, gone)] rfl HC.out (by have := HLT.out; simp only [List.length_cons, List.length_nil]; omega) ((by repeat (first | with_reducible exact HB3.out | with_reducible exact Below.refl _ _ | with_reducible refine blAlloc ?_ _ | with_reducible refine Below.drew ?_)) : Below wr.heap.size wr (w3.alloc (.cells #[.string key, .int .u64 (n : Int), .bool gone] 178))).size ?_
                intro v4 w4 h1 h2
                have HB4 : Hid (Below wr.heap.size wr w4) := grown_belowG ((by repeat (first | with_reducible exact HB3.out | with_reducible exact Below.refl _ _ | with_reducible refine blAlloc ?_ _ | with_reducible refine Below.drew ?_)) : Below wr.heap.size wr (w3.alloc (.cells #[.string key, .int .u64 (n : Int), .bool gone] 178))) HO3.out (Nat.le_refl _) ((by repeat (first | with_reducible exact HB3.out | with_reducible exact Below.refl _ _ | with_reducible refine blAlloc ?_ _ | with_reducible refine Below.drew ?_)) : Below wr.heap.size wr (w3.alloc (.cells #[.string key, .int .u64 (n : Int), .bool gone] 178))).size h2
                have HO4 := Lib.hid h1
                clear h1 h2
                refine hK.out _ _ (KB.out _ (blThen HB.out HB4.out)) (fun hHeld => ?_)
                clear hK K
                try simp only [Act.put, List.setIfInBounds_toArray, List.set_cons_zero, List.set_cons_succ]
                refine wpAnyH_ready (rs := [9]) (by kernel_rfl) (by simp) ?_
                refine AllReadyH.cons (o := { dst := some 53, op := Op.call { callee := Callee.builtin Builtin.append, args := #[Operand.tmp 51, Operand.tmp 52], argTypes := #[75, 75] }, type := 75, pos := "ref.go:149", after := #[{ on := 7, ground := Ground.data }, { on := 8, ground := Ground.data }, { on := 7, ground := Ground.chain }], guard := none }) rfl (fun K hK => ?_) (AllReadyH.nil)
                refine wp_append_G 75 _ 32 info_wr Tryz.underlying75 rfl (by decide) _ _ rfl wr.heap.size _ (d.take k ++ [(key, n, gone)]) rfl HO4.out _ (d.drop (k + 1)) rfl (HR.out _ HB4.out) (by have := HLT.out; have := HLR.out; simp only [List.length_append, List.length_cons, List.length_nil]; omega) HB4.out.size ?_
                intro v5 w5 h1 h2
                have HB5 : Hid (Below wr.heap.size wr w5) := grown_belowG HB4.out HO4.out (Nat.le_refl _) HB4.out.size h2
                have HO5 := Lib.hid h1
                clear h1 h2
                refine hK.out _ _ (KB.out _ (blThen HB.out HB5.out)) (fun hHeld => ?_)
                clear hK K
                try simp only [Act.put, List.setIfInBounds_toArray, List.set_cons_zero, List.set_cons_succ]
                refine wpAnyH_take (i := 10) (oi := { dst := some 4, op := Op.assign (Operand.tmp 53), type := 75, pos := "ref.go:149", after := #[{ on := 9, ground := Ground.data }, { on := 9, ground := Ground.chain }, { on := 0, ground := Ground.phase }, { on := 1, ground := Ground.phase }, { on := 2, ground := Ground.phase }, { on := 3, ground := Ground.phase }, { on := 4, ground := Ground.phase }, { on := 5, ground := Ground.phase }, { on := 6, ground := Ground.phase }, { on := 7, ground := Ground.phase }, { on := 8, ground := Ground.phase }, { on := 9, ground := Ground.phase }], guard := none }) (v := ?_) rfl (by kernel_rfl) (by kernel_rfl) (by kernel_rfl) (fun _ _ _ h => h) (Or.inl ⟨by rfl, ?_⟩) (by assumption) ?_
                rotate_left
                · intro w hSw
                  try dsimp only at hSw
                  go_simp
                  try with_reducible rfl
                try simp only [Act.put, List.setIfInBounds_toArray, List.set_cons_zero, List.set_cons_succ]
                refine wpAnyH_done (by kernel_rfl) ?_ _
                go_wp2
                go_ret
                exact ⟨_, rfl, by rw [HV.out]; exact HO5.out.mono (blThen HB0.out HB.out).size, blThen (blThen HB0.out HB.out) HB5.out⟩
              · go_simp
                have HC : Hid (SlG eW ((wr.drew.drew.drew.alloc (.cells #[] 178)).alloc (.cells #[.string key, .int .u64 (n : Int), .bool gone] 178)) (.slice (some ⟨wr.heap.size + 1, 0, none⟩) 1 1) [(key, n, gone)]) := one_G eW (wr.drew.drew.drew.alloc (.cells #[] 178)) _ (key, n, gone) _ _ rfl (by simp)
                have HOE := Lib.hid (HOE.out.later (blAlloc (Below.refl (wr.drew.drew.drew.alloc (.cells #[] 178)).heap.size (wr.drew.drew.drew.alloc (.cells #[] 178))) (.cells #[.string key, .int .u64 (n : Int), .bool gone] 178)))
                refine hK.out _ _ (KB.out _ (blThen HB.out (by repeat (first | with_reducible exact Below.refl _ _ | with_reducible refine blAlloc ?_ _ | with_reducible refine Below.drew ?_)))) (fun hHeld => ?_)
                clear hK K
                try simp only [Act.put, List.setIfInBounds_toArray, List.set_cons_zero, List.set_cons_succ]
                refine wpAnyH_ready (rs := [4]) (by kernel_rfl) (by simp) ?_
                refine AllReadyH.cons (o := { dst := some 48, op := Op.call { callee := Callee.builtin Builtin.append, args := #[Operand.tmp 44, Operand.tmp 47], argTypes := #[75, 75] }, type := 75, pos := "ref.go:149", after := #[{ on := 0, ground := Ground.data }, { on := 3, ground := Ground.data }], guard := none }) rfl (fun K hK => ?_) (AllReadyH.nil)
                refine wp_append_G 75 _ 32 info_wr Tryz.underlying75 rfl (by decide) _ _ rfl wr.heap.size _ [] rfl HOE.out _ (d.take k) rfl (HTK.out.later (by repeat (first | with_reducible exact Below.refl _ _ | with_reducible refine blAlloc ?_ _ | with_reducible refine Below.drew ?_))) (by have := HLT.out; simp only [List.length_nil]; omega) ((by repeat (first | with_reducible exact Below.refl _ _ | with_reducible refine blAlloc ?_ _ | with_reducible refine Below.drew ?_)) : Below wr.heap.size wr ((wr.drew.drew.drew.alloc (.cells #[] 178)).alloc (.cells #[.string key, .int .u64 (n : Int), .bool gone] 178))).size ?_
                intro v3 w3 h1 h2
                rw [List.nil_append] at h1
                have HB3 : Hid (Below wr.heap.size wr w3) := grown_belowG ((by repeat (first | with_reducible exact Below.refl _ _ | with_reducible refine blAlloc ?_ _ | with_reducible refine Below.drew ?_)) : Below wr.heap.size wr ((wr.drew.drew.drew.alloc (.cells #[] 178)).alloc (.cells #[.string key, .int .u64 (n : Int), .bool gone] 178))) HOE.out (Nat.le_refl _) ((by repeat (first | with_reducible exact Below.refl _ _ | with_reducible refine blAlloc ?_ _ | with_reducible refine Below.drew ?_)) : Below wr.heap.size wr ((wr.drew.drew.drew.alloc (.cells #[] 178)).alloc (.cells #[.string key, .int .u64 (n : Int), .bool gone] 178))).size h2
                have h3 : (((wr.drew.drew.drew.alloc (.cells #[] 178)).alloc (.cells #[.string key, .int .u64 (n : Int), .bool gone] 178))).grownBy w3 (some (wr.heap.size)) := h2
                have HC := Lib.hid (HC.out.kept h3 (by simp))
                clear h3
                have HO3 := Lib.hid h1
                clear h1 h2 HOE
                refine hK.out _ _ (KB.out _ (blThen HB.out HB3.out)) (fun hHeld => ?_)
                clear hK K
                try simp only [Act.put, List.setIfInBounds_toArray, List.set_cons_zero, List.set_cons_succ]
                refine wpAnyH_ready (rs := [7]) (by kernel_rfl) (by simp) ?_
                refine AllReadyH.cons (o := { dst := some 51, op := Op.call { callee := Callee.builtin Builtin.append, args := #[Operand.tmp 48, Operand.tmp 50], argTypes := #[75, 75] }, type := 75, pos := "ref.go:149", after := #[{ on := 4, ground := Ground.data }, { on := 6, ground := Ground.data }, { on := 4, ground := Ground.chain }], guard := none }) rfl (fun K hK => ?_) (AllReadyH.nil)
                refine wp_append_G 75 _ 32 info_wr Tryz.underlying75 rfl (by decide) _ _ rfl wr.heap.size _ (d.take k) rfl HO3.out _ [(key, n, gone)] rfl HC.out (by have := HLT.out; simp only [List.length_cons, List.length_nil]; omega) ((by repeat (first | with_reducible exact HB3.out | with_reducible exact Below.refl _ _ | with_reducible refine blAlloc ?_ _ | with_reducible refine Below.drew ?_)) : Below wr.heap.size wr w3).size ?_
                intro v4 w4 h1 h2
                have HB4 : Hid (Below wr.heap.size wr w4) := grown_belowG ((by repeat (first | with_reducible exact HB3.out | with_reducible exact Below.refl _ _ | with_reducible refine blAlloc ?_ _ | with_reducible refine Below.drew ?_)) : Below wr.heap.size wr w3) HO3.out (Nat.le_refl _) ((by repeat (first | with_reducible exact HB3.out | with_reducible exact Below.refl _ _ | with_reducible refine blAlloc ?_ _ | with_reducible refine Below.drew ?_)) : Below wr.heap.size wr w3).size h2
                have HO4 := Lib.hid h1
                clear h1 h2
                refine hK.out _ _ (KB.out _ (blThen HB.out HB4.out)) (fun hHeld => ?_)
                clear hK K
                try simp only [Act.put, List.setIfInBounds_toArray, List.set_cons_zero, List.set_cons_succ]
                refine wpAnyH_ready (rs := [9]) (by kernel_rfl) (by simp) ?_
                refine AllReadyH.cons (o := { dst := some 53, op := Op.call { callee := Callee.builtin Builtin.append, args := #[Operand.tmp 51, Operand.tmp 52], argTypes := #[75, 75] }, type := 75, pos := "ref.go:149", after := #[{ on := 7, ground := Ground.data }, { on := 8, ground := Ground.data }, { on := 7, ground := Ground.chain }], guard := none }) rfl (fun K hK => ?_) (AllReadyH.nil)
                refine wp_append_G 75 _ 32 info_wr Tryz.underlying75 rfl (by decide) _ _ rfl wr.heap.size _ (d.take k ++ [(key, n, gone)]) rfl HO4.out _ (d.drop (k + 1)) rfl (HR.out _ HB4.out) (by have := HLT.out; have := HLR.out; simp only [List.length_append, List.length_cons, List.length_nil]; omega) HB4.out.size ?_
                intro v5 w5 h1 h2
                have HB5 : Hid (Below wr.heap.size wr w5) := grown_belowG HB4.out HO4.out (Nat.le_refl _) HB4.out.size h2
                have HO5 := Lib.hid h1
                clear h1 h2
                refine hK.out _ _ (KB.out _ (blThen HB.out HB5.out)) (fun hHeld => ?_)
                clear hK K
                try simp only [Act.put, List.setIfInBounds_toArray, List.set_cons_zero, List.set_cons_succ]
                refine wpAnyH_take (i := 10) (oi := { dst := some 4, op := Op.assign (Operand.tmp 53), type := 75, pos := "ref.go:149", after := #[{ on := 9, ground := Ground.data }, { on := 9, ground := Ground.chain }, { on := 0, ground := Ground.phase }, { on := 1, ground := Ground.phase }, { on := 2, ground := Ground.phase }, { on := 3, ground := Ground.phase }, { on := 4, ground := Ground.phase }, { on := 5, ground := Ground.phase }, { on := 6, ground := Ground.phase }, { on := 7, ground := Ground.phase }, { on := 8, ground := Ground.phase }, { on := 9, ground := Ground.phase }], guard := none }) (v := ?_) rfl (by kernel_rfl) (by kernel_rfl) (by kernel_rfl) (fun _ _ _ h => h) (Or.inl ⟨by rfl, ?_⟩) (by assumption) ?_
                rotate_left
                · intro w hSw
                  try dsimp only at hSw
                  go_simp
                  try with_reducible rfl
                try simp only [Act.put, List.setIfInBounds_toArray, List.set_cons_zero, List.set_cons_succ]
                refine wpAnyH_done (by kernel_rfl) ?_ _
                go_wp2
                go_ret
                exact ⟨_, rfl, by rw [HV.out]; exact HO5.out.mono (blThen HB0.out HB.out).size, blThen (blThen HB0.out HB.out) HB5.out⟩
            · go_simp
              have HC : Hid (SlG eW (wr.drew.drew.drew.alloc (.cells #[.string key, .int .u64 (n : Int), .bool gone] 178)) (.slice (some ⟨wr.heap.size, 0, none⟩) 1 1) [(key, n, gone)]) := one_G eW wr.drew.drew.drew _ (key, n, gone) _ _ rfl (by simp)
              refine hK.out _ _ (KB.out _ (blThen HB.out (by repeat (first | with_reducible exact Below.refl _ _ | with_reducible refine blAlloc ?_ _ | with_reducible refine Below.drew ?_)))) (fun hHeld => ?_)
              clear hK K
              try simp only [Act.put, List.setIfInBounds_toArray, List.set_cons_zero, List.set_cons_succ]
              refine wpAnyH_ready (rs := [0]) (by kernel_rfl) (by simp) ?_
              refine AllReadyH.cons (o := { dst := some 44, op := Op.buildSlice 75 0 #[], type := 75, pos := "ref.go:149", after := #[], guard := none }) rfl (fun K hK => ?_) (AllReadyH.nil)
              go_simp
              have HOE : Hid (OwnWr ((wr.drew.drew.drew.alloc (.cells #[.string key, .int .u64 (n : Int), .bool gone] 178)).alloc (.cells #[] 178)) wr.heap.size (.slice (some ⟨wr.heap.size + 1, 0, none⟩) 0 0) []) := own_emptyG (wr.drew.drew.drew.alloc (.cells #[.string key, .int .u64 (n : Int), .bool gone] 178)) 178 _ wr.heap.size (by simp) (by omega)
              have HC := Lib.hid (HC.out.later (blAlloc (Below.refl (wr.drew.drew.drew.alloc (.cells #[.string key, .int .u64 (n : Int), .bool gone] 178)).heap.size (wr.drew.drew.drew.alloc (.cells #[.string key, .int .u64 (n : Int), .bool gone] 178))) (.cells #[] 178)))
              refine hK.out _ _ (KB.out _ (blThen HB.out (by repeat (first | with_reducible exact Below.refl _ _ | with_reducible refine blAlloc ?_ _ | with_reducible refine Below.drew ?_)))) (fun hHeld => ?_)
              clear hK K
              try simp only [Act.put, List.setIfInBounds_toArray, List.set_cons_zero, List.set_cons_succ]
              refine wpAnyH_ready (rs := [4]) (by kernel_rfl) (by simp) ?_
              refine AllReadyH.cons (o := { dst := some 48, op := Op.call { callee := Callee.builtin Builtin.append, args := #[Operand.tmp 44, Operand.tmp 47], argTypes := #[75, 75] }, type := 75, pos := "ref.go:149", after := #[{ on := 0, ground := Ground.data }, { on := 3, ground := Ground.data }], guard := none }) rfl (fun K hK => ?_) (AllReadyH.nil)
              refine wp_append_G 75 _ 32 info_wr Tryz.underlying75 rfl (by decide) _ _ rfl wr.heap.size _ [] rfl HOE.out _ (d.take k) rfl (HTK.out.later (by repeat (first | with_reducible exact Below.refl _ _ | with_reducible refine blAlloc ?_ _ | with_reducible refine Below.drew ?_))) (by have := HLT.out; simp only [List.length_nil]; omega) ((by repeat (first | with_reducible exact Below.refl _ _ | with_reducible refine blAlloc ?_ _ | with_reducible refine Below.drew ?_)) : Below wr.heap.size wr ((wr.drew.drew.drew.alloc (.cells #[.string key, .int .u64 (n : Int), .bool gone] 178)).alloc (.cells #[] 178))).size ?_
              intro v3 w3 h1 h2
              rw [List.nil_append] at h1
              have HB3 : Hid (Below wr.heap.size wr w3) := grown_belowG ((by repeat (first | with_reducible exact Below.refl _ _ | with_reducible refine blAlloc ?_ _ | with_reducible refine Below.drew ?_)) : Below wr.heap.size wr ((wr.drew.drew.drew.alloc (.cells #[.string key, .int .u64 (n : Int), .bool gone] 178)).alloc (.cells #[] 178))) HOE.out (Nat.le_refl _) ((by repeat (first | with_reducible exact Below.refl _ _ | with_reducible refine blAlloc ?_ _ | with_reducible refine Below.drew ?_)) : Below wr.heap.size wr ((wr.drew.drew.drew.alloc (.cells #[.string key, .int .u64 (n : Int), .bool gone] 178)).alloc (.cells #[] 178))).size h2
              have h3 : (((wr.drew.drew.drew.alloc (.cells #[.string key, .int .u64 (n : Int), .bool gone] 178)).alloc (.cells #[] 178))).grownBy w3 (some (wr.heap.size + 1)) := h2
              have HC := Lib.hid (HC.out.kept h3 (by simp))
              clear h3
              have HO3 := Lib.hid h1
              clear h1 h2 HOE
              refine hK.out _ _ (KB.out _ (blThen HB.out HB3.out)) (fun hHeld => ?_)
              clear hK K
              try simp only [Act.put, List.setIfInBounds_toArray, List.set_cons_zero, List.set_cons_succ]
              refine wpAnyH_ready (rs := [7]) (by kernel_rfl) (by simp) ?_
              refine AllReadyH.cons (o := { dst := some 51, op := Op.call { callee := Callee.builtin Builtin.append, args := #[Operand.tmp 48, Operand.tmp 50], argTypes := #[75, 75] }, type := 75, pos := "ref.go:149", after := #[{ on := 4, ground := Ground.data }, { on := 6, ground := Ground.data }, { on := 4, ground := Ground.chain }], guard := none }) rfl (fun K hK => ?_) (AllReadyH.nil)
              refine wp_append_G 75 _ 32 info_wr Tryz.underlying75 rfl (by decide) _ _ rfl wr.heap.size _ (d.take k) rfl HO3.out _ [(key, n, gone)] rfl HC.out (by have := HLT.out; simp only [List.length_cons, List.length_nil]; omega) ((by repeat (first | with_reducible exact HB3.out | with_reducible exact Below.refl _ _ | with_reducible refine blAlloc ?_ _ | with_reducible refine Below.drew ?_)) : Below wr.heap.size wr w3).size ?_
              intro v4 w4 h1 h2
              have HB4 : Hid (Below wr.heap.size wr w4) := grown_belowG ((by repeat (first | with_reducible exact HB3.out | with_reducible exact Below.refl _ _ | with_reducible refine blAlloc ?_ _ | with_reducible refine Below.drew ?_)) : Below wr.heap.size wr w3) HO3.out (Nat.le_refl _) ((by repeat (first | with_reducible exact HB3.out | with_reducible exact Below.refl _ _ | with_reducible refine blAlloc ?_ _ | with_reducible refine Below.drew ?_)) : Below wr.heap.size wr w3).size h2
              have HO4 := Lib.hid h1
              clear h1 h2
              refine hK.out _ _ (KB.out _ (blThen HB.out HB4.out)) (fun hHeld => ?_)
              clear hK K
              try simp only [Act.put, List.setIfInBounds_toArray, List.set_cons_zero, List.set_cons_succ]
              refine wpAnyH_ready (rs := [9]) (by kernel_rfl) (by simp) ?_
              refine AllReadyH.cons (o := { dst := some 53, op := Op.call { callee := Callee.builtin Builtin.append, args := #[Operand.tmp 51, Operand.tmp 52], argTypes := #[75, 75] }, type := 75, pos := "ref.go:149", after := #[{ on := 7, ground := Ground.data }, { on := 8, ground := Ground.data }, { on := 7, ground := Ground.chain }], guard := none }) rfl (fun K hK => ?_) (AllReadyH.nil)
              refine wp_append_G 75 _ 32 info_wr Tryz.underlying75 rfl (by decide) _ _ rfl wr.heap.size _ (d.take k ++ [(key, n, gone)]) rfl HO4.out _ (d.drop (k + 1)) rfl (HR.out _ HB4.out) (by have := HLT.out; have := HLR.out; simp only [List.length_append, List.length_cons, List.length_nil]; omega) HB4.out.size ?_
              intro v5 w5 h1 h2
              have HB5 : Hid (Below wr.heap.size wr w5) := grown_belowG HB4.out HO4.out (Nat.le_refl _) HB4.out.size h2
              have HO5 := Lib.hid h1
              clear h1 h2
              refine hK.out _ _ (KB.out _ (blThen HB.out HB5.out)) (fun hHeld => ?_)
              clear hK K
              try simp only [Act.put, List.setIfInBounds_toArray, List.set_cons_zero, List.set_cons_succ]
              refine wpAnyH_take (i := 10) (oi := { dst := some 4, op := Op.assign (Operand.tmp 53), type := 75, pos := "ref.go:149", after := #[{ on := 9, ground := Ground.data }, { on := 9, ground := Ground.chain }, { on := 0, ground := Ground.phase }, { on := 1, ground := Ground.phase }, { on := 2, ground := Ground.phase }, { on := 3, ground := Ground.phase }, { on := 4, ground := Ground.phase }, { on := 5, ground := Ground.phase }, { on := 6, ground := Ground.phase }, { on := 7, ground := Ground.phase }, { on := 8, ground := Ground.phase }, { on := 9, ground := Ground.phase }], guard := none }) (v := ?_) rfl (by kernel_rfl) (by kernel_rfl) (by kernel_rfl) (fun _ _ _ h => h) (Or.inl ⟨by rfl, ?_⟩) (by assumption) ?_
              rotate_left
              · intro w hSw
                try dsimp only at hSw
                go_simp
                try with_reducible rfl
              try simp only [Act.put, List.setIfInBounds_toArray, List.set_cons_zero, List.set_cons_succ]
              refine wpAnyH_done (by kernel_rfl) ?_ _
              go_wp2
              go_ret
              exact ⟨_, rfl, by rw [HV.out]; exact HO5.out.mono (blThen HB0.out HB.out).size, blThen (blThen HB0.out HB.out) HB5.out⟩
      · have t1 : Op.bytesLess pk.toList key.toList = true := hL
        have HT : Hid (∀ (j : Nat) p, j < k + 1 → d[j]? = some p → ltT p.1 key = true) := by
          intro j p hj hp
          by_cases e : j = k
          · subst e
            rw [HX.out] at hp
            cases hp
            exact hL
          · exact HLOW.out j p (by omega) hp
        go_wp2_with fail
        refine wp_region_held_drew (S := fun Y => Y.cell? ⟨g, o + k * 3, none⟩ = some (.string pk) ∧ Y.cell? ⟨w.heap.size, 0, none⟩ = some (.string key)) (by kernel_rfl) (K3.out _ HB.out.drew) (fun hHeld => ?_)
        refine wpAnyH_take (i := 0) (oi := { dst := some 7, op := Op.move (Operand.tmp 5), type := 3, pos := "ref.go:142", after := #[], guard := none }) (v := ?_) rfl (by kernel_rfl) (by kernel_rfl) (by kernel_rfl) (fun _ _ _ h => h) (Or.inl ⟨by rfl, ?_⟩) (by assumption) ?_
        rotate_left
        · intro w hSw
          try dsimp only at hSw
          go_simp
          try with_reducible rfl
        try simp only [Act.put, List.setIfInBounds_toArray, List.set_cons_zero, List.set_cons_succ]
        refine wpAnyH_take (i := 1) (oi := { dst := some 8, op := Op.move (Operand.tmp 0), type := 75, pos := "ref.go:142", after := #[], guard := none }) (v := ?_) rfl (by kernel_rfl) (by kernel_rfl) (by kernel_rfl) (fun _ _ _ h => h) (Or.inl ⟨by rfl, ?_⟩) (by assumption) ?_
        rotate_left
        · intro w hSw
          try dsimp only at hSw
          go_simp
          try with_reducible rfl
        try simp only [Act.put, List.setIfInBounds_toArray, List.set_cons_zero, List.set_cons_succ]
        refine wpAnyH_take (i := 2) (oi := { dst := some 9, op := Op.call { callee := Callee.builtin Builtin.len, args := #[Operand.tmp 8], argTypes := #[75] }, type := 3, pos := "ref.go:142", after := #[{ on := 1, ground := Ground.data }], guard := none }) (v := ?_) rfl (by kernel_rfl) (by kernel_rfl) (by kernel_rfl) (fun _ _ _ h => h) (Or.inl ⟨by rfl, ?_⟩) (by assumption) ?_
        rotate_left
        · intro w hSw
          try dsimp only at hSw
          go_simp
          try with_reducible rfl
        try simp only [Act.put, List.setIfInBounds_toArray, List.set_cons_zero, List.set_cons_succ]
        refine wpAnyH_take (i := 3) (oi := { dst := some 10, op := Op.binOp BinOp.lss 3 (Operand.tmp 7) (Operand.tmp 9) 3, type := 4, pos := "ref.go:142", after := #[{ on := 0, ground := Ground.data }, { on := 2, ground := Ground.data }], guard := none }) (v := ?_) rfl (by kernel_rfl) (by kernel_rfl) (by kernel_rfl) (fun _ _ _ h => h) (Or.inl ⟨by rfl, ?_⟩) (by assumption) ?_
        rotate_left
        · intro w hSw
          try dsimp only at hSw
          go_simp
          try with_reducible rfl
        try simp only [Act.put, List.setIfInBounds_toArray, List.set_cons_zero, List.set_cons_succ]
        refine wpAnyH_take (i := 4) (oi := { dst := some 11, op := Op.move (Operand.tmp 10), type := 4, pos := "ref.go:142", after := #[{ on := 3, ground := Ground.data }], guard := none }) (v := ?_) rfl (by kernel_rfl) (by kernel_rfl) (by kernel_rfl) (fun _ _ _ h => h) (Or.inl ⟨by rfl, ?_⟩) (by assumption) ?_
        rotate_left
        · intro w hSw
          try dsimp only at hSw
          go_simp
          try with_reducible rfl
        try simp only [Act.put, List.setIfInBounds_toArray, List.set_cons_zero, List.set_cons_succ]
        refine wpAnyH_take (i := 5) (oi := { dst := some 12, op := Op.move (Operand.tmp 0), type := 75, pos := "ref.go:142", after := #[{ on := 4, ground := Ground.guard }], guard := some (4, true) }) (v := ?_) rfl (by kernel_rfl) (by kernel_rfl) (by kernel_rfl) (fun _ _ _ h => h) (Or.inl ⟨by rfl, ?_⟩) (by assumption) ?_
        rotate_left
        · intro w hSw
          try dsimp only at hSw
          go_simp
          try with_reducible rfl
        try simp only [Act.put, List.setIfInBounds_toArray, List.set_cons_zero, List.set_cons_succ]
        refine wpAnyH_take (i := 6) (oi := { dst := some 13, op := Op.move (Operand.tmp 5), type := 3, pos := "ref.go:142", after := #[{ on := 4, ground := Ground.guard }], guard := some (4, true) }) (v := ?_) rfl (by kernel_rfl) (by kernel_rfl) (by kernel_rfl) (fun _ _ _ h => h) (Or.inl ⟨by rfl, ?_⟩) (by assumption) ?_
        rotate_left
        · intro w hSw
          try dsimp only at hSw
          go_simp
          try with_reducible rfl
        try simp only [Act.put, List.setIfInBounds_toArray, List.set_cons_zero, List.set_cons_succ]
        refine wpAnyH_take (i := 7) (oi := { dst := some 14, op := Op.indexAddr 75 (Operand.tmp 12) (Operand.tmp 13), type := 0, pos := "ref.go:142", after := #[{ on := 5, ground := Ground.data }, { on := 6, ground := Ground.data }, { on := 4, ground := Ground.guard }], guard := some (4, true) }) (v := ?_) rfl (by kernel_rfl) (by kernel_rfl) (by kernel_rfl) (fun _ _ _ h => h) (Or.inl ⟨by rfl, ?_⟩) (by assumption) ?_
        rotate_left
        · intro w hSw
          try dsimp only at hSw
          go_simp
          try with_reducible rfl
        try simp only [Act.put, List.setIfInBounds_toArray, List.set_cons_zero, List.set_cons_succ]
        refine wpAnyH_take (i := 8) (oi := { dst := some 15, op := Op.fieldAddr 178 (Operand.tmp 14) 0, type := 0, pos := "ref.go:142", after := #[{ on := 7, ground := Ground.data }, { on := 4, ground := Ground.guard }], guard := some (4, true) }) (v := ?_) rfl (by kernel_rfl) (by kernel_rfl) (by kernel_rfl) (fun _ _ _ h => h) (Or.inl ⟨by rfl, ?_⟩) (by assumption) ?_
        rotate_left
        · intro w hSw
          try dsimp only at hSw
          go_simp
          try with_reducible rfl
        try simp only [Act.put, List.setIfInBounds_toArray, List.set_cons_zero, List.set_cons_succ]
        refine wpAnyH_take (i := 9) (oi := { dst := some 16, op := Op.load 9 (Operand.tmp 15), type := 9, pos := "ref.go:142", after := #[{ on := 8, ground := Ground.data }, { on := 4, ground := Ground.guard }], guard := some (4, true) }) (v := ?_) rfl (by kernel_rfl) (by kernel_rfl) (by kernel_rfl) (fun _ _ _ h => h) (Or.inl ⟨by rfl, ?_⟩) (by assumption) ?_
        rotate_left
        · intro w hSw
          try dsimp only at hSw
          go_simp
          try with_reducible rfl
        try simp only [Act.put, List.setIfInBounds_toArray, List.set_cons_zero, List.set_cons_succ]
        refine wpAnyH_take (i := 10) (oi := { dst := some 17, op := Op.fieldAddr 178 (Operand.tmp 3) 0, type := 0, pos := "ref.go:142", after := #[{ on := 4, ground := Ground.guard }], guard := some (4, true) }) (v := ?_) rfl (by kernel_rfl) (by kernel_rfl) (by kernel_rfl) (fun _ _ _ h => h) (Or.inl ⟨by rfl, ?_⟩) (by assumption) ?_
        rotate_left
        · intro w hSw
          try dsimp only at hSw
          go_simp
          try with_reducible rfl
        try simp only [Act.put, List.setIfInBounds_toArray, List.set_cons_zero, List.set_cons_succ]
        refine wpAnyH_take (i := 11) (oi := { dst := some 18, op := Op.load 9 (Operand.tmp 17), type := 9, pos := "ref.go:142", after := #[{ on := 10, ground := Ground.data }, { on := 4, ground := Ground.guard }], guard := some (4, true) }) (v := ?_) rfl (by kernel_rfl) (by kernel_rfl) (by kernel_rfl) (fun _ _ _ h => h) (Or.inl ⟨by rfl, ?_⟩) (by assumption) ?_
        rotate_left
        · intro w hSw
          try dsimp only at hSw
          go_simp
          try with_reducible rfl
        try simp only [Act.put, List.setIfInBounds_toArray, List.set_cons_zero, List.set_cons_succ]
        refine wpAnyH_take (i := 12) (oi := { dst := some 19, op := Op.binOp BinOp.lss 9 (Operand.tmp 16) (Operand.tmp 18) 9, type := 4, pos := "ref.go:142", after := #[{ on := 9, ground := Ground.data }, { on := 11, ground := Ground.data }, { on := 4, ground := Ground.guard }], guard := some (4, true) }) (v := ?_) rfl (by kernel_rfl) (by kernel_rfl) (by kernel_rfl) (fun _ _ _ h => h) (Or.inl ⟨by rfl, ?_⟩) (by assumption) ?_
        rotate_left
        · intro w hSw
          try dsimp only at hSw
          go_simp
          try with_reducible rfl
        try simp only [Act.put, List.setIfInBounds_toArray, List.set_cons_zero, List.set_cons_succ]
        refine wpAnyH_take (i := 13) (oi := { dst := some 20, op := Op.pick (Operand.tmp 11) (Operand.tmp 19) (Operand.const (Value.bool false)), type := 4, pos := "ref.go:142", after := #[{ on := 4, ground := Ground.data }, { on := 12, ground := Ground.data }], guard := none }) (v := ?_) rfl (by kernel_rfl) (by kernel_rfl) (by kernel_rfl) (fun _ _ _ h => h) (Or.inl ⟨by rfl, ?_⟩) (by assumption) ?_
        rotate_left
        · intro w hSw
          try dsimp only at hSw
          go_simp
          try with_reducible rfl
        try simp only [Act.put, List.setIfInBounds_toArray, List.set_cons_zero, List.set_cons_succ]
        refine wpAnyH_done (by kernel_rfl) ?_ _
        go_wp2
        go_roundw
        case rel => exact ⟨k + 1, hlt, by go_num, HT.out, HB.out.drew⟩
        case measure => simp [intOf]; omega
    · obtain rfl : k = N := by omega
      have hge : ¬ (k : Int) < (k : Int) := by omega
      have hdk : decide ((k : Int) < (k : Int)) = false := decide_eq_false hge
      have hdn : decide (k < k) = false := decide_eq_false hlt
      have hq : fndA d key = k := fndA_is (by have := HN.out; omega) HLOW.out fun p hp => by
        have := (List.getElem?_eq_some_iff.1 hp).1
        have := HN.out
        omega
      have hTH : thereA d key = false := thereA_none (by rw [hq, HN.out]; exact Nat.le_refl _)
      rw [hq, hTH] at HV0
      have HV : Hid (V = d.take k ++ [(key, n, gone)] ++ d.drop k) := by show _ = _; simpa using HV0.out
      clear HV0 hq hTH HLOW
      by_cases hc : cap = k
      · by_cases h0 : k = 0
        · subst h0
          subst hc
          have HTK := Lib.hid (slG_take HAr.out 0 (by have := HN.out; omega))
          have HR := Lib.hid (fun (Y : World) (hY : Below wr.heap.size wr Y) => (show SlG eW wr (.slice a 0 0) (d.drop 0) from by have := HAr.out; rw [List.drop_zero]; exact this).later hY)
          have HLR : Hid (((d.drop 0)).length ≤ 100000) := by show _ ≤ _; rw [List.length_drop]; have := HN.out; omega
          have HLT : Hid ((d.take 0).length ≤ 100000) := by show _ ≤ _; rw [List.length_take]; have := HN.out; omega
          go_wp2_with fail
          refine wp_region_held_drew (S := fun _ => True) (by kernel_rfl) (trivial) (fun hHeld => ?_)
          refine wpAnyH_take (i := 0) (oi := { dst := some 7, op := Op.move (Operand.tmp 5), type := 3, pos := "ref.go:142", after := #[], guard := none }) (v := ?_) rfl (by kernel_rfl) (by kernel_rfl) (by kernel_rfl) (fun _ _ _ h => h) (Or.inl ⟨by rfl, ?_⟩) (by assumption) ?_
          rotate_left
          · intro w hSw
            try dsimp only at hSw
            go_simp
            try with_reducible rfl
          try simp only [Act.put, List.setIfInBounds_toArray, List.set_cons_zero, List.set_cons_succ]
          refine wpAnyH_take (i := 1) (oi := { dst := some 8, op := Op.move (Operand.tmp 0), type := 75, pos := "ref.go:142", after := #[], guard := none }) (v := ?_) rfl (by kernel_rfl) (by kernel_rfl) (by kernel_rfl) (fun _ _ _ h => h) (Or.inl ⟨by rfl, ?_⟩) (by assumption) ?_
          rotate_left
          · intro w hSw
            try dsimp only at hSw
            go_simp
            try with_reducible rfl
          try simp only [Act.put, List.setIfInBounds_toArray, List.set_cons_zero, List.set_cons_succ]
          refine wpAnyH_take (i := 2) (oi := { dst := some 9, op := Op.call { callee := Callee.builtin Builtin.len, args := #[Operand.tmp 8], argTypes := #[75] }, type := 3, pos := "ref.go:142", after := #[{ on := 1, ground := Ground.data }], guard := none }) (v := ?_) rfl (by kernel_rfl) (by kernel_rfl) (by kernel_rfl) (fun _ _ _ h => h) (Or.inl ⟨by rfl, ?_⟩) (by assumption) ?_
          rotate_left
          · intro w hSw
            try dsimp only at hSw
            go_simp
            try with_reducible rfl
          try simp only [Act.put, List.setIfInBounds_toArray, List.set_cons_zero, List.set_cons_succ]
          refine wpAnyH_take (i := 3) (oi := { dst := some 10, op := Op.binOp BinOp.lss 3 (Operand.tmp 7) (Operand.tmp 9) 3, type := 4, pos := "ref.go:142", after := #[{ on := 0, ground := Ground.data }, { on := 2, ground := Ground.data }], guard := none }) (v := ?_) rfl (by kernel_rfl) (by kernel_rfl) (by kernel_rfl) (fun _ _ _ h => h) (Or.inl ⟨by rfl, ?_⟩) (by assumption) ?_
          rotate_left
          · intro w hSw
            try dsimp only at hSw
            go_simp
            try with_reducible rfl
          try simp only [Act.put, List.setIfInBounds_toArray, List.set_cons_zero, List.set_cons_succ]
          refine wpAnyH_take (i := 4) (oi := { dst := some 11, op := Op.move (Operand.tmp 10), type := 4, pos := "ref.go:142", after := #[{ on := 3, ground := Ground.data }], guard := none }) (v := ?_) rfl (by kernel_rfl) (by kernel_rfl) (by kernel_rfl) (fun _ _ _ h => h) (Or.inl ⟨by rfl, ?_⟩) (by assumption) ?_
          rotate_left
          · intro w hSw
            try dsimp only at hSw
            go_simp
            try with_reducible rfl
          try simp only [Act.put, List.setIfInBounds_toArray, List.set_cons_zero, List.set_cons_succ]
          refine wpAnyH_take (i := 5) (oi := { dst := some 12, op := Op.move (Operand.tmp 0), type := 75, pos := "ref.go:142", after := #[{ on := 4, ground := Ground.guard }], guard := some (4, true) }) (v := undef) rfl (by kernel_rfl) (by kernel_rfl) (by kernel_rfl) (fun _ _ _ h => h) (Or.inr ⟨by rfl, rfl⟩) (by assumption) ?_
          try simp only [Act.put, List.setIfInBounds_toArray, List.set_cons_zero, List.set_cons_succ]
          refine wpAnyH_take (i := 6) (oi := { dst := some 13, op := Op.move (Operand.tmp 5), type := 3, pos := "ref.go:142", after := #[{ on := 4, ground := Ground.guard }], guard := some (4, true) }) (v := undef) rfl (by kernel_rfl) (by kernel_rfl) (by kernel_rfl) (fun _ _ _ h => h) (Or.inr ⟨by rfl, rfl⟩) (by assumption) ?_
          try simp only [Act.put, List.setIfInBounds_toArray, List.set_cons_zero, List.set_cons_succ]
          refine wpAnyH_take (i := 7) (oi := { dst := some 14, op := Op.indexAddr 75 (Operand.tmp 12) (Operand.tmp 13), type := 0, pos := "ref.go:142", after := #[{ on := 5, ground := Ground.data }, { on := 6, ground := Ground.data }, { on := 4, ground := Ground.guard }], guard := some (4, true) }) (v := undef) rfl (by kernel_rfl) (by kernel_rfl) (by kernel_rfl) (fun _ _ _ h => h) (Or.inr ⟨by rfl, rfl⟩) (by assumption) ?_
          try simp only [Act.put, List.setIfInBounds_toArray, List.set_cons_zero, List.set_cons_succ]
          refine wpAnyH_take (i := 8) (oi := { dst := some 15, op := Op.fieldAddr 178 (Operand.tmp 14) 0, type := 0, pos := "ref.go:142", after := #[{ on := 7, ground := Ground.data }, { on := 4, ground := Ground.guard }], guard := some (4, true) }) (v := undef) rfl (by kernel_rfl) (by kernel_rfl) (by kernel_rfl) (fun _ _ _ h => h) (Or.inr ⟨by rfl, rfl⟩) (by assumption) ?_
          try simp only [Act.put, List.setIfInBounds_toArray, List.set_cons_zero, List.set_cons_succ]
          refine wpAnyH_take (i := 9) (oi := { dst := some 16, op := Op.load 9 (Operand.tmp 15), type := 9, pos := "ref.go:142", after := #[{ on := 8, ground := Ground.data }, { on := 4, ground := Ground.guard }], guard := some (4, true) }) (v := undef) rfl (by kernel_rfl) (by kernel_rfl) (by kernel_rfl) (fun _ _ _ h => h) (Or.inr ⟨by rfl, rfl⟩) (by assumption) ?_
          try simp only [Act.put, List.setIfInBounds_toArray, List.set_cons_zero, List.set_cons_succ]
          refine wpAnyH_take (i := 10) (oi := { dst := some 17, op := Op.fieldAddr 178 (Operand.tmp 3) 0, type := 0, pos := "ref.go:142", after := #[{ on := 4, ground := Ground.guard }], guard := some (4, true) }) (v := undef) rfl (by kernel_rfl) (by kernel_rfl) (by kernel_rfl) (fun _ _ _ h => h) (Or.inr ⟨by rfl, rfl⟩) (by assumption) ?_
          try simp only [Act.put, List.setIfInBounds_toArray, List.set_cons_zero, List.set_cons_succ]
          refine wpAnyH_take (i := 11) (oi := { dst := some 18, op := Op.load 9 (Operand.tmp 17), type := 9, pos := "ref.go:142", after := #[{ on := 10, ground := Ground.data }, { on := 4, ground := Ground.guard }], guard := some (4, true) }) (v := undef) rfl (by kernel_rfl) (by kernel_rfl) (by kernel_rfl) (fun _ _ _ h => h) (Or.inr ⟨by rfl, rfl⟩) (by assumption) ?_
          try simp only [Act.put, List.setIfInBounds_toArray, List.set_cons_zero, List.set_cons_succ]
          refine wpAnyH_take (i := 12) (oi := { dst := some 19, op := Op.binOp BinOp.lss 9 (Operand.tmp 16) (Operand.tmp 18) 9, type := 4, pos := "ref.go:142", after := #[{ on := 9, ground := Ground.data }, { on := 11, ground := Ground.data }, { on := 4, ground := Ground.guard }], guard := some (4, true) }) (v := undef) rfl (by kernel_rfl) (by kernel_rfl) (by kernel_rfl) (fun _ _ _ h => h) (Or.inr ⟨by rfl, rfl⟩) (by assumption) ?_
          try simp only [Act.put, List.setIfInBounds_toArray, List.set_cons_zero, List.set_cons_succ]
          refine wpAnyH_take (i := 13) (oi := { dst := some 20, op := Op.pick (Operand.tmp 11) (Operand.tmp 19) (Operand.const (Value.bool false)), type := 4, pos := "ref.go:142", after := #[{ on := 4, ground := Ground.data }, { on := 12, ground := Ground.data }], guard := none }) (v := ?_) rfl (by kernel_rfl) (by kernel_rfl) (by kernel_rfl) (fun _ _ _ h => h) (Or.inl ⟨by rfl, ?_⟩) (by assumption) ?_
          rotate_left
          · intro w hSw
            try dsimp only at hSw
            go_simp
            try with_reducible rfl
          try simp only [Act.put, List.setIfInBounds_toArray, List.set_cons_zero, List.set_cons_succ]
          refine wpAnyH_done (by kernel_rfl) ?_ _
          go_wp2_with fail
          refine wp_region_held_drew (S := fun _ => True) (by kernel_rfl) (trivial) (fun hHeld => ?_)
          refine wpAnyH_take (i := 0) (oi := { dst := some 26, op := Op.move (Operand.tmp 5), type := 3, pos := "ref.go:146", after := #[], guard := none }) (v := ?_) rfl (by kernel_rfl) (by kernel_rfl) (by kernel_rfl) (fun _ _ _ h => h) (Or.inl ⟨by rfl, ?_⟩) (by assumption) ?_
          rotate_left
          · intro w hSw
            try dsimp only at hSw
            go_simp
            try with_reducible rfl
          try simp only [Act.put, List.setIfInBounds_toArray, List.set_cons_zero, List.set_cons_succ]
          refine wpAnyH_take (i := 1) (oi := { dst := some 27, op := Op.move (Operand.tmp 0), type := 75, pos := "ref.go:146", after := #[], guard := none }) (v := ?_) rfl (by kernel_rfl) (by kernel_rfl) (by kernel_rfl) (fun _ _ _ h => h) (Or.inl ⟨by rfl, ?_⟩) (by assumption) ?_
          rotate_left
          · intro w hSw
            try dsimp only at hSw
            go_simp
            try with_reducible rfl
          try simp only [Act.put, List.setIfInBounds_toArray, List.set_cons_zero, List.set_cons_succ]
          refine wpAnyH_take (i := 2) (oi := { dst := some 28, op := Op.call { callee := Callee.builtin Builtin.len, args := #[Operand.tmp 27], argTypes := #[75] }, type := 3, pos := "ref.go:146", after := #[{ on := 1, ground := Ground.data }], guard := none }) (v := ?_) rfl (by kernel_rfl) (by kernel_rfl) (by kernel_rfl) (fun _ _ _ h => h) (Or.inl ⟨by rfl, ?_⟩) (by assumption) ?_
          rotate_left
          · intro w hSw
            try dsimp only at hSw
            go_simp
            try with_reducible rfl
          try simp only [Act.put, List.setIfInBounds_toArray, List.set_cons_zero, List.set_cons_succ]
          refine wpAnyH_take (i := 3) (oi := { dst := some 29, op := Op.binOp BinOp.lss 3 (Operand.tmp 26) (Operand.tmp 28) 3, type := 4, pos := "ref.go:146", after := #[{ on := 0, ground := Ground.data }, { on := 2, ground := Ground.data }], guard := none }) (v := ?_) rfl (by kernel_rfl) (by kernel_rfl) (by kernel_rfl) (fun _ _ _ h => h) (Or.inl ⟨by rfl, ?_⟩) (by assumption) ?_
          rotate_left
          · intro w hSw
            try dsimp only at hSw
            go_simp
            try with_reducible rfl
          try simp only [Act.put, List.setIfInBounds_toArray, List.set_cons_zero, List.set_cons_succ]
          refine wpAnyH_take (i := 4) (oi := { dst := some 30, op := Op.move (Operand.tmp 29), type := 4, pos := "ref.go:146", after := #[{ on := 3, ground := Ground.data }], guard := none }) (v := ?_) rfl (by kernel_rfl) (by kernel_rfl) (by kernel_rfl) (fun _ _ _ h => h) (Or.inl ⟨by rfl, ?_⟩) (by assumption) ?_
          rotate_left
          · intro w hSw
            try dsimp only at hSw
            go_simp
            try with_reducible rfl
          try simp only [Act.put, List.setIfInBounds_toArray, List.set_cons_zero, List.set_cons_succ]
          refine wpAnyH_take (i := 5) (oi := { dst := some 31, op := Op.move (Operand.tmp 0), type := 75, pos := "ref.go:146", after := #[{ on := 4, ground := Ground.guard }], guard := some (4, true) }) (v := undef) rfl (by kernel_rfl) (by kernel_rfl) (by kernel_rfl) (fun _ _ _ h => h) (Or.inr ⟨by rfl, rfl⟩) (by assumption) ?_
          try simp only [Act.put, List.setIfInBounds_toArray, List.set_cons_zero, List.set_cons_succ]
          refine wpAnyH_take (i := 6) (oi := { dst := some 32, op := Op.move (Operand.tmp 5), type := 3, pos := "ref.go:146", after := #[{ on := 4, ground := Ground.guard }], guard := some (4, true) }) (v := undef) rfl (by kernel_rfl) (by kernel_rfl) (by kernel_rfl) (fun _ _ _ h => h) (Or.inr ⟨by rfl, rfl⟩) (by assumption) ?_
          try simp only [Act.put, List.setIfInBounds_toArray, List.set_cons_zero, List.set_cons_succ]
          refine wpAnyH_take (i := 7) (oi := { dst := some 33, op := Op.indexAddr 75 (Operand.tmp 31) (Operand.tmp 32), type := 0, pos := "ref.go:146", after := #[{ on := 5, ground := Ground.data }, { on := 6, ground := Ground.data }, { on := 4, ground := Ground.guard }], guard := some (4, true) }) (v := undef) rfl (by kernel_rfl) (by kernel_rfl) (by kernel_rfl) (fun _ _ _ h => h) (Or.inr ⟨by rfl, rfl⟩) (by assumption) ?_
          try simp only [Act.put, List.setIfInBounds_toArray, List.set_cons_zero, List.set_cons_succ]
          refine wpAnyH_take (i := 8) (oi := { dst := some 34, op := Op.fieldAddr 178 (Operand.tmp 33) 0, type := 0, pos := "ref.go:146", after := #[{ on := 7, ground := Ground.data }, { on := 4, ground := Ground.guard }], guard := some (4, true) }) (v := undef) rfl (by kernel_rfl) (by kernel_rfl) (by kernel_rfl) (fun _ _ _ h => h) (Or.inr ⟨by rfl, rfl⟩) (by assumption) ?_
          try simp only [Act.put, List.setIfInBounds_toArray, List.set_cons_zero, List.set_cons_succ]
          refine wpAnyH_take (i := 9) (oi := { dst := some 35, op := Op.load 9 (Operand.tmp 34), type := 9, pos := "ref.go:146", after := #[{ on := 8, ground := Ground.data }, { on := 4, ground := Ground.guard }], guard := some (4, true) }) (v := undef) rfl (by kernel_rfl) (by kernel_rfl) (by kernel_rfl) (fun _ _ _ h => h) (Or.inr ⟨by rfl, rfl⟩) (by assumption) ?_
          try simp only [Act.put, List.setIfInBounds_toArray, List.set_cons_zero, List.set_cons_succ]
          refine wpAnyH_take (i := 10) (oi := { dst := some 36, op := Op.fieldAddr 178 (Operand.tmp 3) 0, type := 0, pos := "ref.go:146", after := #[{ on := 4, ground := Ground.guard }], guard := some (4, true) }) (v := undef) rfl (by kernel_rfl) (by kernel_rfl) (by kernel_rfl) (fun _ _ _ h => h) (Or.inr ⟨by rfl, rfl⟩) (by assumption) ?_
          try simp only [Act.put, List.setIfInBounds_toArray, List.set_cons_zero, List.set_cons_succ]
          refine wpAnyH_take (i := 11) (oi := { dst := some 37, op := Op.load 9 (Operand.tmp 36), type := 9, pos := "ref.go:146", after := #[{ on := 10, ground := Ground.data }, { on := 4, ground := Ground.guard }], guard := some (4, true) }) (v := undef) rfl (by kernel_rfl) (by kernel_rfl) (by kernel_rfl) (fun _ _ _ h => h) (Or.inr ⟨by rfl, rfl⟩) (by assumption) ?_
          try simp only [Act.put, List.setIfInBounds_toArray, List.set_cons_zero, List.set_cons_succ]
          refine wpAnyH_take (i := 12) (oi := { dst := some 38, op := Op.binOp BinOp.eql 9 (Operand.tmp 35) (Operand.tmp 37) 9, type := 4, pos := "ref.go:146", after := #[{ on := 9, ground := Ground.data }, { on := 11, ground := Ground.data }, { on := 4, ground := Ground.guard }], guard := some (4, true) }) (v := undef) rfl (by kernel_rfl) (by kernel_rfl) (by kernel_rfl) (fun _ _ _ h => h) (Or.inr ⟨by rfl, rfl⟩) (by assumption) ?_
          try simp only [Act.put, List.setIfInBounds_toArray, List.set_cons_zero, List.set_cons_succ]
          refine wpAnyH_take (i := 13) (oi := { dst := some 39, op := Op.pick (Operand.tmp 30) (Operand.tmp 38) (Operand.const (Value.bool false)), type := 4, pos := "ref.go:146", after := #[{ on := 4, ground := Ground.data }, { on := 12, ground := Ground.data }], guard := none }) (v := ?_) rfl (by kernel_rfl) (by kernel_rfl) (by kernel_rfl) (fun _ _ _ h => h) (Or.inl ⟨by rfl, ?_⟩) (by assumption) ?_
          rotate_left
          · intro w hSw
            try dsimp only at hSw
            go_simp
            try with_reducible rfl
          try simp only [Act.put, List.setIfInBounds_toArray, List.set_cons_zero, List.set_cons_succ]
          refine wpAnyH_done (by kernel_rfl) ?_ _
          go_wp2_with fail
          refine wp_region_held_drew (S := fun Y => Y.cell? ⟨w.heap.size, 0, none⟩ = some (.string key) ∧ Y.cell? ⟨w.heap.size, 1, none⟩ = some (.int .u64 (n : Int)) ∧ Y.cell? ⟨w.heap.size, 2, none⟩ = some (.bool gone)) (by kernel_rfl) (KB.out _ (blThen HB.out (Below.refl wr.heap.size wr)).drew.drew.drew) (fun hHeld => ?_)
          refine wpAnyH_take (i := 1) (oi := { dst := some 45, op := Op.move (Operand.tmp 0), type := 75, pos := "ref.go:149", after := #[], guard := none }) (v := ?_) rfl (by kernel_rfl) (by kernel_rfl) (by kernel_rfl) (fun _ _ _ h => h) (Or.inl ⟨by rfl, ?_⟩) (by assumption) ?_
          rotate_left
          · intro w hSw
            try dsimp only at hSw
            go_simp
            try with_reducible rfl
          try simp only [Act.put, List.setIfInBounds_toArray, List.set_cons_zero, List.set_cons_succ]
          refine wpAnyH_take (i := 2) (oi := { dst := some 46, op := Op.move (Operand.tmp 5), type := 3, pos := "ref.go:149", after := #[], guard := none }) (v := ?_) rfl (by kernel_rfl) (by kernel_rfl) (by kernel_rfl) (fun _ _ _ h => h) (Or.inl ⟨by rfl, ?_⟩) (by assumption) ?_
          rotate_left
          · intro w hSw
            try dsimp only at hSw
            go_simp
            try with_reducible rfl
          try simp only [Act.put, List.setIfInBounds_toArray, List.set_cons_zero, List.set_cons_succ]
          refine wpAnyH_take (i := 3) (oi := { dst := some 47, op := Op.slice 75 (Operand.tmp 45) none (some (Operand.tmp 46)) none, type := 75, pos := "ref.go:149", after := #[{ on := 1, ground := Ground.data }, { on := 2, ground := Ground.data }], guard := none }) (v := ?_) rfl (by kernel_rfl) (by kernel_rfl) (by kernel_rfl) (fun _ _ _ h => h) (Or.inl ⟨by rfl, ?_⟩) (by assumption) ?_
          rotate_left
          · intro w hSw
            try dsimp only at hSw
            go_simp
            try with_reducible rfl
          try simp only [Act.put, List.setIfInBounds_toArray, List.set_cons_zero, List.set_cons_succ]
          refine wpAnyH_take (i := 5) (oi := { dst := some 49, op := Op.load 178 (Operand.tmp 3), type := 178, pos := "ref.go:149", after := #[], guard := none }) (v := ?_) rfl (by kernel_rfl) (by kernel_rfl) (by kernel_rfl) (fun _ _ _ h => h) (Or.inl ⟨by rfl, ?_⟩) (by assumption) ?_
          rotate_left
          · intro w hSw
            try dsimp only at hSw
            go_simp
            try with_reducible rfl
          try simp only [Act.put, List.setIfInBounds_toArray, List.set_cons_zero, List.set_cons_succ]
          refine wpAnyH_take (i := 8) (oi := { dst := some 52, op := Op.move (Operand.tmp 6), type := 75, pos := "ref.go:149", after := #[], guard := none }) (v := ?_) rfl (by kernel_rfl) (by kernel_rfl) (by kernel_rfl) (fun _ _ _ h => h) (Or.inl ⟨by rfl, ?_⟩) (by assumption) ?_
          rotate_left
          · intro w hSw
            try dsimp only at hSw
            go_simp
            try with_reducible rfl
          try simp only [Act.put, List.setIfInBounds_toArray, List.set_cons_zero, List.set_cons_succ]
          refine wpAnyH_ready (rs := [0, 6]) (by kernel_rfl) (by simp) ?_
          refine AllReadyH.cons (o := { dst := some 44, op := Op.buildSlice 75 0 #[], type := 75, pos := "ref.go:149", after := #[], guard := none }) rfl (fun K hK => ?_) (AllReadyH.cons (o := { dst := some 50, op := Op.buildSlice 75 1 #[(0, Operand.tmp 49)], type := 75, pos := "ref.go:149", after := #[{ on := 5, ground := Ground.data }], guard := none }) rfl (fun K hK => ?_) (AllReadyH.nil))
          · go_simp
            have HOE : Hid (OwnWr (wr.drew.drew.drew.alloc (.cells #[] 178)) wr.heap.size (.slice (some ⟨wr.heap.size, 0, none⟩) 0 0) []) := own_emptyG wr.drew.drew.drew 178 _ wr.heap.size (by simp) (by omega)
            refine hK.out _ _ (KB.out _ (blThen HB.out (by repeat (first | with_reducible exact Below.refl _ _ | with_reducible refine blAlloc ?_ _ | with_reducible refine Below.drew ?_)))) (fun hHeld => ?_)
            clear hK K
            try simp only [Act.put, List.setIfInBounds_toArray, List.set_cons_zero, List.set_cons_succ]
            refine wpAnyH_ready (rs := [4, 6]) (by kernel_rfl) (by simp) ?_
            refine AllReadyH.cons (o := { dst := some 48, op := Op.call { callee := Callee.builtin Builtin.append, args := #[Operand.tmp 44, Operand.tmp 47], argTypes := #[75, 75] }, type := 75, pos := "ref.go:149", after := #[{ on := 0, ground := Ground.data }, { on := 3, ground := Ground.data }], guard := none }) rfl (fun K hK => ?_) (AllReadyH.cons (o := { dst := some 50, op := Op.buildSlice 75 1 #[(0, Operand.tmp 49)], type := 75, pos := "ref.go:149", after := #[{ on := 5, ground := Ground.data }], guard := none }) rfl (fun K hK => ?_) (AllReadyH.nil))
            · refine wp_append_G 75 _ 32 info_wr Tryz.underlying75 rfl (by decide) _ _ rfl wr.heap.size _ [] rfl HOE.out _ (d.take 0) rfl (HTK.out.later (by repeat (first | with_reducible exact Below.refl _ _ | with_reducible refine blAlloc ?_ _ | with_reducible refine Below.drew ?_))) (by have := HLT.out; simp only [List.length_nil]; omega) ((by repeat (first | with_reducible exact Below.refl _ _ | with_reducible refine blAlloc ?_ _ | with_reducible refine Below.drew ?_)) : Below wr.heap.size wr (wr.drew.drew.drew.alloc (.cells #[] 178))).size ?_
              intro v3 w3 h1 h2
              rw [List.nil_append] at h1
              have HB3 : Hid (Below wr.heap.size wr w3) := grown_belowG ((by repeat (first | with_reducible exact Below.refl _ _ | with_reducible refine blAlloc ?_ _ | with_reducible refine Below.drew ?_)) : Below wr.heap.size wr (wr.drew.drew.drew.alloc (.cells #[] 178))) HOE.out (Nat.le_refl _) ((by repeat (first | with_reducible exact Below.refl _ _ | with_reducible refine blAlloc ?_ _ | with_reducible refine Below.drew ?_)) : Below wr.heap.size wr (wr.drew.drew.drew.alloc (.cells #[] 178))).size h2
              have HO3 := Lib.hid h1
              clear h1 h2 HOE
              refine hK.out _ _ (KB.out _ (blThen HB.out HB3.out)) (fun hHeld => ?_)
              clear hK K
              try simp only [Act.put, List.setIfInBounds_toArray, List.set_cons_zero, List.set_cons_succ]
              refine wpAnyH_ready (rs := [6]) (by kernel_rfl) (by simp) ?_
              refine AllReadyH.cons (o := { dst := some 50, op := Op.buildSlice 75 1 #[(0, Operand.tmp 49)], type := 75, pos := "ref.go:149", after := #[{ on := 5, ground := Ground.data }], guard := none }) rfl (fun K hK => ?_) (AllReadyH.nil)
              go_simp
              have HC : Hid (SlG eW (w3.alloc (.cells #[.string key, .int .u64 (n : Int), .bool gone] 178)) (.slice (some ⟨w3.heap.size, 0, none⟩) 1 1) [(key, n, gone)]) := one_G eW w3 _ (key, n, gone) _ _ rfl (by simp)
              have HO3 := Lib.hid (HO3.out.later (blAlloc (Below.refl w3.heap.size w3) (.cells #[.string key, .int .u64 (n : Int), .bool gone] 178)))
              refine hK.out _ _ (KB.out _ (blThen HB.out (by repeat (first | with_reducible exact HB3.out | with_reducible exact Below.refl _ _ | with_reducible refine blAlloc ?_ _ | with_reducible refine Below.drew ?_)))) (fun hHeld => ?_)
              clear hK K
              try simp only [Act.put, List.setIfInBounds_toArray, List.set_cons_zero, List.set_cons_succ]
              refine wpAnyH_ready (rs := [7]) (by kernel_rfl) (by simp) ?_
              refine AllReadyH.cons (o := { dst := some 51, op := Op.call { callee := Callee.builtin Builtin.append, args := #[Operand.tmp 48, Operand.tmp 50], argTypes := #[75, 75] }, type := 75, pos := "ref.go:149", after := #[{ on := 4, ground := Ground.data }, { on := 6, ground := Ground.data }, { on := 4, ground := Ground.chain }], guard := none }) rfl (fun K hK => ?_) (AllReadyH.nil)
              refine wp_append_G 75 _ 32 info_wr Tryz.underlying75 rfl (by decide) _ _ rfl wr.heap.size _ (d.take 0) rfl HO3.out _ [(key, n, gone)] rfl HC.out (by have := HLT.out; simp only [List.length_cons, List.length_nil]; omega) ((by repeat (first | with_reducible exact HB3.out | with_reducible exact Below.refl _ _ | with_reducible refine blAlloc ?_ _ | with_reducible refine Below.drew ?_)) : Below wr.heap.size wr (w3.alloc (.cells #[.string key, .int .u64 (n : Int), .bool gone] 178))).size ?_
              intro v4 w4 h1 h2
              have HB4 : Hid (Below wr.heap.size wr w4) := grown_belowG ((by repeat (first | with_reducible exact HB3.out | with_reducible exact Below.refl _ _ | with_reducible refine blAlloc ?_ _ | with_reducible refine Below.drew ?_)) : Below wr.heap.size wr (w3.alloc (.cells #[.string key, .int .u64 (n : Int), .bool gone] 178))) HO3.out (Nat.le_refl _) ((by repeat (first | with_reducible exact HB3.out | with_reducible exact Below.refl _ _ | with_reducible refine blAlloc ?_ _ | with_reducible refine Below.drew ?_)) : Below wr.heap.size wr (w3.alloc (.cells #[.string key, .int .u64 (n : Int), .bool gone] 178))).size h2
              have HO4 := Lib.hid h1
              clear h1 h2
              refine hK.out _ _ (KB.out _ (blThen HB.out HB4.out)) (fun hHeld => ?_)
              clear hK K
              try simp only [Act.put, List.setIfInBounds_toArray, List.set_cons_zero, List.set_cons_succ]
              refine wpAnyH_ready (rs := [9]) (by kernel_rfl) (by simp) ?_
              refine AllReadyH.cons (o := { dst := some 53, op := Op.call { callee := Callee.builtin Builtin.append, args := #[Operand.tmp 51, Operand.tmp 52], argTypes := #[75, 75] }, type := 75, pos := "ref.go:149", after := #[{ on := 7, ground := Ground.data }, { on := 8, ground := Ground.data }, { on := 7, ground := Ground.chain }], guard := none }) rfl (fun K hK => ?_) (AllReadyH.nil)
              refine wp_append_G 75 _ 32 info_wr Tryz.underlying75 rfl (by decide) _ _ rfl wr.heap.size _ (d.take 0 ++ [(key, n, gone)]) rfl HO4.out _ (d.drop 0) rfl (HR.out _ HB4.out) (by have := HLT.out; have := HLR.out; simp only [List.length_append, List.length_cons, List.length_nil]; omega) HB4.out.size ?_
              intro v5 w5 h1 h2
              have HB5 : Hid (Below wr.heap.size wr w5) := grown_belowG HB4.out HO4.out (Nat.le_refl _) HB4.out.size h2
              have HO5 := Lib.hid h1
              clear h1 h2
              refine hK.out _ _ (KB.out _ (blThen HB.out HB5.out)) (fun hHeld => ?_)
              clear hK K
              try simp only [Act.put, List.setIfInBounds_toArray, List.set_cons_zero, List.set_cons_succ]
              refine wpAnyH_take (i := 10) (oi := { dst := some 4, op := Op.assign (Operand.tmp 53), type := 75, pos := "ref.go:149", after := #[{ on := 9, ground := Ground.data }, { on := 9, ground := Ground.chain }, { on := 0, ground := Ground.phase }, { on := 1, ground := Ground.phase }, { on := 2, ground := Ground.phase }, { on := 3, ground := Ground.phase }, { on := 4, ground := Ground.phase }, { on := 5, ground := Ground.phase }, { on := 6, ground := Ground.phase }, { on := 7, ground := Ground.phase }, { on := 8, ground := Ground.phase }, { on := 9, ground := Ground.phase }], guard := none }) (v := ?_) rfl (by kernel_rfl) (by kernel_rfl) (by kernel_rfl) (fun _ _ _ h => h) (Or.inl ⟨by rfl, ?_⟩) (by assumption) ?_
              rotate_left
              · intro w hSw
                try dsimp only at hSw
                go_simp
                try with_reducible rfl
              try simp only [Act.put, List.setIfInBounds_toArray, List.set_cons_zero, List.set_cons_succ]
              refine wpAnyH_done (by kernel_rfl) ?_ _
              go_wp2
              go_ret
              exact ⟨_, rfl, by rw [HV.out]; exact HO5.out.mono (blThen HB0.out HB.out).size, blThen (blThen HB0.out HB.out) HB5.out⟩
            · go_simp
              have HC : Hid (SlG eW ((wr.drew.drew.drew.alloc (.cells #[] 178)).alloc (.cells #[.string key, .int .u64 (n : Int), .bool gone] 178)) (.slice (some ⟨wr.heap.size + 1, 0, none⟩) 1 1) [(key, n, gone)]) := one_G eW (wr.drew.drew.drew.alloc (.cells #[] 178)) _ (key, n, gone) _ _ rfl (by simp)
              have HOE := Lib.hid (HOE.out.later (blAlloc (Below.refl (wr.drew.drew.drew.alloc (.cells #[] 178)).heap.size (wr.drew.drew.drew.alloc (.cells #[] 178))) (.cells #[.string key, .int .u64 (n : Int), .bool gone] 178)))
              refine hK.out _ _ (KB.out _ (blThen HB.out (by repeat (first | with_reducible exact Below.refl _ _ | with_reducible refine blAlloc ?_ _ | with_reducible refine Below.drew ?_)))) (fun hHeld => ?_)
              clear hK K
              try simp only [Act.put, List.setIfInBounds_toArray, List.set_cons_zero, List.set_cons_succ]
              refine wpAnyH_ready (rs := [4]) (by kernel_rfl) (by simp) ?_
              refine AllReadyH.cons (o := { dst := some 48, op := Op.call { callee := Callee.builtin Builtin.append, args := #[Operand.tmp 44, Operand.tmp 47], argTypes := #[75, 75] }, type := 75, pos := "ref.go:149", after := #[{ on := 0, ground := Ground.data }, { on := 3, ground := Ground.data }], guard := none }) rfl (fun K hK => ?_) (AllReadyH.nil)
              refine wp_append_G 75 _ 32 info_wr Tryz.underlying75 rfl (by decide) _ _ rfl wr.heap.size _ [] rfl HOE.out _ (d.take 0) rfl (HTK.out.later (by repeat (first | with_reducible exact Below.refl _ _ | with_reducible refine blAlloc ?_ _ | with_reducible refine Below.drew ?_))) (by have := HLT.out; simp only [List.length_nil]; omega) ((by repeat (first | with_reducible exact Below.refl _ _ | with_reducible refine blAlloc ?_ _ | with_reducible refine Below.drew ?_)) : Below wr.heap.size wr ((wr.drew.drew.drew.alloc (.cells #[] 178)).alloc (.cells #[.string key, .int .u64 (n : Int), .bool gone] 178))).size ?_
              intro v3 w3 h1 h2
              rw [List.nil_append] at h1
              have HB3 : Hid (Below wr.heap.size wr w3) := grown_belowG ((by repeat (first | with_reducible exact Below.refl _ _ | with_reducible refine blAlloc ?_ _ | with_reducible refine Below.drew ?_)) : Below wr.heap.size wr ((wr.drew.drew.drew.alloc (.cells #[] 178)).alloc (.cells #[.string key, .int .u64 (n : Int), .bool gone] 178))) HOE.out (Nat.le_refl _) ((by repeat (first | with_reducible exact Below.refl _ _ | with_reducible refine blAlloc ?_ _ | with_reducible refine Below.drew ?_)) : Below wr.heap.size wr ((wr.drew.drew.drew.alloc (.cells #[] 178)).alloc (.cells #[.string key, .int .u64 (n : Int), .bool gone] 178))).size h2
              have h3 : (((wr.drew.drew.drew.alloc (.cells #[] 178)).alloc (.cells #[.string key, .int .u64 (n : Int), .bool gone] 178))).grownBy w3 (some (wr.heap.size)) := h2
              have HC := Lib.hid (HC.out.kept h3 (by simp))
              clear h3
              have HO3 := Lib.hid h1
              clear h1 h2 HOE
              refine hK.out _ _ (KB.out _ (blThen HB.out HB3.out)) (fun hHeld => ?_)
              clear hK K
              try simp only [Act.put, List.setIfInBounds_toArray, List.set_cons_zero, List.set_cons_succ]
              refine wpAnyH_ready (rs := [7]) (by kernel_rfl) (by simp) ?_
              refine AllReadyH.cons (o := { dst := some 51, op := Op.call { callee := Callee.builtin Builtin.append, args := #[Operand.tmp 48, Operand.tmp 50], argTypes := #[75, 75] }, type := 75, pos := "ref.go:149", after := #[{ on := 4, ground := Ground.data }, { on := 6, ground := Ground.data }, { on := 4, ground := Ground.chain }], guard := none }) rfl (fun K hK => ?_) (AllReadyH.nil)
              refine wp_append_G 75 _ 32 info_wr Tryz.underlying75 rfl (by decide) _ _ rfl wr.heap.size _ (d.take 0) rfl HO3.out _ [(key, n, gone)] rfl HC.out (by have := HLT.out; simp only [List.length_cons, List.length_nil]; omega) ((by repeat (first | with_reducible exact HB3.out | with_reducible exact Below.refl _ _ | with_reducible refine blAlloc ?_ _ | with_reducible refine Below.drew ?_)) : Below wr.heap.size wr w3).size ?_
              intro v4 w4 h1 h2
              have HB4 : Hid (Below wr.heap.size wr w4) := grown_belowG ((by repeat (first | with_reducible exact HB3.out | with_reducible exact Below.refl _ _ | with_reducible refine blAlloc ?_ _ | with_reducible refine Below.drew ?_)) : Below wr.heap.size wr w3) HO3.out (Nat.le_refl _) ((by repeat (first | with_reducible exact HB3.out | with_reducible exact Below.refl _ _ | with_reducible refine blAlloc ?_ _ | with_reducible refine Below.drew ?_)) : Below wr.heap.size wr w3).size h2
              have HO4 := Lib.hid h1
              clear h1 h2
              refine hK.out _ _ (KB.out _ (blThen HB.out HB4.out)) (fun hHeld => ?_)
              clear hK K
              try simp only [Act.put, List.setIfInBounds_toArray, List.set_cons_zero, List.set_cons_succ]
              refine wpAnyH_ready (rs := [9]) (by kernel_rfl) (by simp) ?_
              refine AllReadyH.cons (o := { dst := some 53, op := Op.call { callee := Callee.builtin Builtin.append, args := #[Operand.tmp 51, Operand.tmp 52], argTypes := #[75, 75] }, type := 75, pos := "ref.go:149", after := #[{ on := 7, ground := Ground.data }, { on := 8, ground := Ground.data }, { on := 7, ground := Ground.chain }], guard := none }) rfl (fun K hK => ?_) (AllReadyH.nil)
              refine wp_append_G 75 _ 32 info_wr Tryz.underlying75 rfl (by decide) _ _ rfl wr.heap.size _ (d.take 0 ++ [(key, n, gone)]) rfl HO4.out _ (d.drop 0) rfl (HR.out _ HB4.out) (by have := HLT.out; have := HLR.out; simp only [List.length_append, List.length_cons, List.length_nil]; omega) HB4.out.size ?_
              intro v5 w5 h1 h2
              have HB5 : Hid (Below wr.heap.size wr w5) := grown_belowG HB4.out HO4.out (Nat.le_refl _) HB4.out.size h2
              have HO5 := Lib.hid h1
              clear h1 h2
              refine hK.out _ _ (KB.out _ (blThen HB.out HB5.out)) (fun hHeld => ?_)
              clear hK K
              try simp only [Act.put, List.setIfInBounds_toArray, List.set_cons_zero, List.set_cons_succ]
              refine wpAnyH_take (i := 10) (oi := { dst := some 4, op := Op.assign (Operand.tmp 53), type := 75, pos := "ref.go:149", after := #[{ on := 9, ground := Ground.data }, { on := 9, ground := Ground.chain }, { on := 0, ground := Ground.phase }, { on := 1, ground := Ground.phase }, { on := 2, ground := Ground.phase }, { on := 3, ground := Ground.phase }, { on := 4, ground := Ground.phase }, { on := 5, ground := Ground.phase }, { on := 6, ground := Ground.phase }, { on := 7, ground := Ground.phase }, { on := 8, ground := Ground.phase }, { on := 9, ground := Ground.phase }], guard := none }) (v := ?_) rfl (by kernel_rfl) (by kernel_rfl) (by kernel_rfl) (fun _ _ _ h => h) (Or.inl ⟨by rfl, ?_⟩) (by assumption) ?_
              rotate_left
              · intro w hSw
                try dsimp only at hSw
                go_simp
                try with_reducible rfl
              try simp only [Act.put, List.setIfInBounds_toArray, List.set_cons_zero, List.set_cons_succ]
              refine wpAnyH_done (by kernel_rfl) ?_ _
              go_wp2
              go_ret
              exact ⟨_, rfl, by rw [HV.out]; exact HO5.out.mono (blThen HB0.out HB.out).size, blThen (blThen HB0.out HB.out) HB5.out⟩
          · go_simp
            have HC : Hid (SlG eW (wr.drew.drew.drew.alloc (.cells #[.string key, .int .u64 (n : Int), .bool gone] 178)) (.slice (some ⟨wr.heap.size, 0, none⟩) 1 1) [(key, n, gone)]) := one_G eW wr.drew.drew.drew _ (key, n, gone) _ _ rfl (by simp)
            refine hK.out _ _ (KB.out _ (blThen HB.out (by repeat (first | with_reducible exact Below.refl _ _ | with_reducible refine blAlloc ?_ _ | with_reducible refine Below.drew ?_)))) (fun hHeld => ?_)
            clear hK K
            try simp only [Act.put, List.setIfInBounds_toArray, List.set_cons_zero, List.set_cons_succ]
            refine wpAnyH_ready (rs := [0]) (by kernel_rfl) (by simp) ?_
            refine AllReadyH.cons (o := { dst := some 44, op := Op.buildSlice 75 0 #[], type := 75, pos := "ref.go:149", after := #[], guard := none }) rfl (fun K hK => ?_) (AllReadyH.nil)
            go_simp
            have HOE : Hid (OwnWr ((wr.drew.drew.drew.alloc (.cells #[.string key, .int .u64 (n : Int), .bool gone] 178)).alloc (.cells #[] 178)) wr.heap.size (.slice (some ⟨wr.heap.size + 1, 0, none⟩) 0 0) []) := own_emptyG (wr.drew.drew.drew.alloc (.cells #[.string key, .int .u64 (n : Int), .bool gone] 178)) 178 _ wr.heap.size (by simp) (by omega)
            have HC := Lib.hid (HC.out.later (blAlloc (Below.refl (wr.drew.drew.drew.alloc (.cells #[.string key, .int .u64 (n : Int), .bool gone] 178)).heap.size (wr.drew.drew.drew.alloc (.cells #[.string key, .int .u64 (n : Int), .bool gone] 178))) (.cells #[] 178)))
            refine hK.out _ _ (KB.out _ (blThen HB.out (by repeat (first | with_reducible exact Below.refl _ _ | with_reducible refine blAlloc ?_ _ | with_reducible refine Below.drew ?_)))) (fun hHeld => ?_)
            clear hK K
            try simp only [Act.put, List.setIfInBounds_toArray, List.set_cons_zero, List.set_cons_succ]
            refine wpAnyH_ready (rs := [4]) (by kernel_rfl) (by simp) ?_
            refine AllReadyH.cons (o := { dst := some 48, op := Op.call { callee := Callee.builtin Builtin.append, args := #[Operand.tmp 44, Operand.tmp 47], argTypes := #[75, 75] }, type := 75, pos := "ref.go:149", after := #[{ on := 0, ground := Ground.data }, { on := 3, ground := Ground.data }], guard := none }) rfl (fun K hK => ?_) (AllReadyH.nil)
            refine wp_append_G 75 _ 32 info_wr Tryz.underlying75 rfl (by decide) _ _ rfl wr.heap.size _ [] rfl HOE.out _ (d.take 0) rfl (HTK.out.later (by repeat (first | with_reducible exact Below.refl _ _ | with_reducible refine blAlloc ?_ _ | with_reducible refine Below.drew ?_))) (by have := HLT.out; simp only [List.length_nil]; omega) ((by repeat (first | with_reducible exact Below.refl _ _ | with_reducible refine blAlloc ?_ _ | with_reducible refine Below.drew ?_)) : Below wr.heap.size wr ((wr.drew.drew.drew.alloc (.cells #[.string key, .int .u64 (n : Int), .bool gone] 178)).alloc (.cells #[] 178))).size ?_
            intro v3 w3 h1 h2
            rw [List.nil_append] at h1
            have HB3 : Hid (Below wr.heap.size wr w3) := grown_belowG ((by repeat (first | with_reducible exact Below.refl _ _ | with_reducible refine blAlloc ?_ _ | with_reducible refine Below.drew ?_)) : Below wr.heap.size wr ((wr.drew.drew.drew.alloc (.cells #[.string key, .int .u64 (n : Int), .bool gone] 178)).alloc (.cells #[] 178))) HOE.out (Nat.le_refl _) ((by repeat (first | with_reducible exact Below.refl _ _ | with_reducible refine blAlloc ?_ _ | with_reducible refine Below.drew ?_)) : Below wr.heap.size wr ((wr.drew.drew.drew.alloc (.cells #[.string key, .int .u64 (n : Int), .bool gone] 178)).alloc (.cells #[] 178))).size h2
            have h3 : (((wr.drew.drew.drew.alloc (.cells #[.string key, .int .u64 (n : Int), .bool gone] 178)).alloc (.cells #[] 178))).grownBy w3 (some (wr.heap.size + 1)) := h2
            have HC := Lib.hid (HC.out.kept h3 (by simp))
            clear h3
            have HO3 := Lib.hid h1
            clear h1 h2 HOE
            refine hK.out _ _ (KB.out _ (blThen HB.out HB3.out)) (fun hHeld => ?_)
            clear hK K
            try simp only [Act.put, List.setIfInBounds_toArray, List.set_cons_zero, List.set_cons_succ]
            refine wpAnyH_ready (rs := [7]) (by kernel_rfl) (by simp) ?_
            refine AllReadyH.cons (o := { dst := some 51, op := Op.call { callee := Callee.builtin Builtin.append, args := #[Operand.tmp 48, Operand.tmp 50], argTypes := #[75, 75] }, type := 75, pos := "ref.go:149", after := #[{ on := 4, ground := Ground.data }, { on := 6, ground := Ground.data }, { on := 4, ground := Ground.chain }], guard := none }) rfl (fun K hK => ?_) (AllReadyH.nil)
            refine wp_append_G 75 _ 32 info_wr Tryz.underlying75 rfl (by decide) _ _ rfl wr.heap.size _ (d.take 0) rfl HO3.out _ [(key, n, gone)] rfl HC.out (by have := HLT.out; simp only [List.length_cons, List.length_nil]; omega) ((by repeat (first | with_reducible exact HB3.out | with_reducible exact Below.refl _ _ | with_reducible refine blAlloc ?_ _ | with_reducible refine Below.drew ?_)) : Below wr.heap.size wr w3).size ?_
            intro v4 w4 h1 h2
            have HB4 : Hid (Below wr.heap.size wr w4) := grown_belowG ((by repeat (first | with_reducible exact HB3.out | with_reducible exact Below.refl _ _ | with_reducible refine blAlloc ?_ _ | with_reducible refine Below.drew ?_)) : Below wr.heap.size wr w3) HO3.out (Nat.le_refl _) ((by repeat (first | with_reducible exact HB3.out | with_reducible exact Below.refl _ _ | with_reducible refine blAlloc ?_ _ | with_reducible refine Below.drew ?_)) : Below wr.heap.size wr w3).size h2
            have HO4 := Lib.hid h1
            clear h1 h2
            refine hK.out _ _ (KB.out _ (blThen HB.out HB4.out)) (fun hHeld => ?_)
            clear hK K
            try simp only [Act.put, List.setIfInBounds_toArray, List.set_cons_zero, List.set_cons_succ]
            refine wpAnyH_ready (rs := [9]) (by kernel_rfl) (by simp) ?_
            refine AllReadyH.cons (o := { dst := some 53, op := Op.call { callee := Callee.builtin Builtin.append, args := #[Operand.tmp 51, Operand.tmp 52], argTypes := #[75, 75] }, type := 75, pos := "ref.go:149", after := #[{ on := 7, ground := Ground.data }, { on := 8, ground := Ground.data }, { on := 7, ground := Ground.chain }], guard := none }) rfl (fun K hK => ?_) (AllReadyH.nil)
            refine wp_append_G 75 _ 32 info_wr Tryz.underlying75 rfl (by decide) _ _ rfl wr.heap.size _ (d.take 0 ++ [(key, n, gone)]) rfl HO4.out _ (d.drop 0) rfl (HR.out _ HB4.out) (by have := HLT.out; have := HLR.out; simp only [List.length_append, List.length_cons, List.length_nil]; omega) HB4.out.size ?_
            intro v5 w5 h1 h2
            have HB5 : Hid (Below wr.heap.size wr w5) := grown_belowG HB4.out HO4.out (Nat.le_refl _) HB4.out.size h2
            have HO5 := Lib.hid h1
            clear h1 h2
            refine hK.out _ _ (KB.out _ (blThen HB.out HB5.out)) (fun hHeld => ?_)
            clear hK K
            try simp only [Act.put, List.setIfInBounds_toArray, List.set_cons_zero, List.set_cons_succ]
            refine wpAnyH_take (i := 10) (oi := { dst := some 4, op := Op.assign (Operand.tmp 53), type := 75, pos := "ref.go:149", after := #[{ on := 9, ground := Ground.data }, { on := 9, ground := Ground.chain }, { on := 0, ground := Ground.phase }, { on := 1, ground := Ground.phase }, { on := 2, ground := Ground.phase }, { on := 3, ground := Ground.phase }, { on := 4, ground := Ground.phase }, { on := 5, ground := Ground.phase }, { on := 6, ground := Ground.phase }, { on := 7, ground := Ground.phase }, { on := 8, ground := Ground.phase }, { on := 9, ground := Ground.phase }], guard := none }) (v := ?_) rfl (by kernel_rfl) (by kernel_rfl) (by kernel_rfl) (fun _ _ _ h => h) (Or.inl ⟨by rfl, ?_⟩) (by assumption) ?_
            rotate_left
            · intro w hSw
              try dsimp only at hSw
              go_simp
              try with_reducible rfl
            try simp only [Act.put, List.setIfInBounds_toArray, List.set_cons_zero, List.set_cons_succ]
            refine wpAnyH_done (by kernel_rfl) ?_ _
            go_wp2
            go_ret
            exact ⟨_, rfl, by rw [HV.out]; exact HO5.out.mono (blThen HB0.out HB.out).size, blThen (blThen HB0.out HB.out) HB5.out⟩
        · cases a with
          | none =>
            obtain ⟨_, _, hv2, hn2, _⟩ := HA.out
            cases hv2
            have := hn2 rfl
            omega
          | some ad =>
            subst hc
            have hc0 : ¬ cap = 0 := h0
            have HTK := Lib.hid (slG_take HAr.out cap (by have := HN.out; omega))
            have HR := Lib.hid (fun (Y : World) (hY : Below wr.heap.size wr Y) => (show SlG eW wr (.slice (some ad) 0 0) (d.drop cap) from by have e : d.drop cap = [] := List.drop_of_length_le (by have := HN.out; omega); rw [e]; exact SlG.zero _ (some ad) 0 (fun h => (by cases h))).later hY)
            have HLR : Hid (((d.drop cap)).length ≤ 100000) := by show _ ≤ _; rw [List.length_drop]; have := HN.out; omega
            have HLT : Hid ((d.take cap).length ≤ 100000) := by show _ ≤ _; rw [List.length_take]; have := HN.out; omega
            go_wp2_with fail
            refine wp_region_held_drew (S := fun _ => True) (by kernel_rfl) (trivial) (fun hHeld => ?_)
            refine wpAnyH_take (i := 0) (oi := { dst := some 7, op := Op.move (Operand.tmp 5), type := 3, pos := "ref.go:142", after := #[], guard := none }) (v := ?_) rfl (by kernel_rfl) (by kernel_rfl) (by kernel_rfl) (fun _ _ _ h => h) (Or.inl ⟨by rfl, ?_⟩) (by assumption) ?_
            rotate_left
            · intro w hSw
              try dsimp only at hSw
              go_simp
              try with_reducible rfl
            try simp only [Act.put, List.setIfInBounds_toArray, List.set_cons_zero, List.set_cons_succ]
            refine wpAnyH_take (i := 1) (oi := { dst := some 8, op := Op.move (Operand.tmp 0), type := 75, pos := "ref.go:142", after := #[], guard := none }) (v := ?_) rfl (by kernel_rfl) (by kernel_rfl) (by kernel_rfl) (fun _ _ _ h => h) (Or.inl ⟨by rfl, ?_⟩) (by assumption) ?_
            rotate_left
            · intro w hSw
              try dsimp only at hSw
              go_simp
              try with_reducible rfl
            try simp only [Act.put, List.setIfInBounds_toArray, List.set_cons_zero, List.set_cons_succ]
            refine wpAnyH_take (i := 2) (oi := { dst := some 9, op := Op.call { callee := Callee.builtin Builtin.len, args := #[Operand.tmp 8], argTypes := #[75] }, type := 3, pos := "ref.go:142", after := #[{ on := 1, ground := Ground.data }], guard := none }) (v := ?_) rfl (by kernel_rfl) (by kernel_rfl) (by kernel_rfl) (fun _ _ _ h => h) (Or.inl ⟨by rfl, ?_⟩) (by assumption) ?_
            rotate_left
            · intro w hSw
              try dsimp only at hSw
              go_simp
              try with_reducible rfl
            try simp only [Act.put, List.setIfInBounds_toArray, List.set_cons_zero, List.set_cons_succ]
            refine wpAnyH_take (i := 3) (oi := { dst := some 10, op := Op.binOp BinOp.lss 3 (Operand.tmp 7) (Operand.tmp 9) 3, type := 4, pos := "ref.go:142", after := #[{ on := 0, ground := Ground.data }, { on := 2, ground := Ground.data }], guard := none }) (v := ?_) rfl (by kernel_rfl) (by kernel_rfl) (by kernel_rfl) (fun _ _ _ h => h) (Or.inl ⟨by rfl, ?_⟩) (by assumption) ?_
            rotate_left
            · intro w hSw
              try dsimp only at hSw
              go_simp
              try with_reducible rfl
            try simp only [Act.put, List.setIfInBounds_toArray, List.set_cons_zero, List.set_cons_succ]
            refine wpAnyH_take (i := 4) (oi := { dst := some 11, op := Op.move (Operand.tmp 10), type := 4, pos := "ref.go:142", after := #[{ on := 3, ground := Ground.data }], guard := none }) (v := ?_) rfl (by kernel_rfl) (by kernel_rfl) (by kernel_rfl) (fun _ _ _ h => h) (Or.inl ⟨by rfl, ?_⟩) (by assumption) ?_
            rotate_left
            · intro w hSw
              try dsimp only at hSw
              go_simp
              try with_reducible rfl
            try simp only [Act.put, List.setIfInBounds_toArray, List.set_cons_zero, List.set_cons_succ]
            refine wpAnyH_take (i := 5) (oi := { dst := some 12, op := Op.move (Operand.tmp 0), type := 75, pos := "ref.go:142", after := #[{ on := 4, ground := Ground.guard }], guard := some (4, true) }) (v := undef) rfl (by kernel_rfl) (by kernel_rfl) (by kernel_rfl) (fun _ _ _ h => h) (Or.inr ⟨by rfl, rfl⟩) (by assumption) ?_
            try simp only [Act.put, List.setIfInBounds_toArray, List.set_cons_zero, List.set_cons_succ]
            refine wpAnyH_take (i := 6) (oi := { dst := some 13, op := Op.move (Operand.tmp 5), type := 3, pos := "ref.go:142", after := #[{ on := 4, ground := Ground.guard }], guard := some (4, true) }) (v := undef) rfl (by kernel_rfl) (by kernel_rfl) (by kernel_rfl) (fun _ _ _ h => h) (Or.inr ⟨by rfl, rfl⟩) (by assumption) ?_
            try simp only [Act.put, List.setIfInBounds_toArray, List.set_cons_zero, List.set_cons_succ]
            refine wpAnyH_take (i := 7) (oi := { dst := some 14, op := Op.indexAddr 75 (Operand.tmp 12) (Operand.tmp 13), type := 0, pos := "ref.go:142", after := #[{ on := 5, ground := Ground.data }, { on := 6, ground := Ground.data }, { on := 4, ground := Ground.guard }], guard := some (4, true) }) (v := undef) rfl (by kernel_rfl) (by kernel_rfl) (by kernel_rfl) (fun _ _ _ h => h) (Or.inr ⟨by rfl, rfl⟩) (by assumption) ?_
            try simp only [Act.put, List.setIfInBounds_toArray, List.set_cons_zero, List.set_cons_succ]
            refine wpAnyH_take (i := 8) (oi := { dst := some 15, op := Op.fieldAddr 178 (Operand.tmp 14) 0, type := 0, pos := "ref.go:142", after := #[{ on := 7, ground := Ground.data }, { on := 4, ground := Ground.guard }], guard := some (4, true) }) (v := undef) rfl (by kernel_rfl) (by kernel_rfl) (by kernel_rfl) (fun _ _ _ h => h) (Or.inr ⟨by rfl, rfl⟩) (by assumption) ?_
            try simp only [Act.put, List.setIfInBounds_toArray, List.set_cons_zero, List.set_cons_succ]
            refine wpAnyH_take (i := 9) (oi := { dst := some 16, op := Op.load 9 (Operand.tmp 15), type := 9, pos := "ref.go:142", after := #[{ on := 8, ground := Ground.data }, { on := 4, ground := Ground.guard }], guard := some (4, true) }) (v := undef) rfl (by kernel_rfl) (by kernel_rfl) (by kernel_rfl) (fun _ _ _ h => h) (Or.inr ⟨by rfl, rfl⟩) (by assumption) ?_
            try simp only [Act.put, List.setIfInBounds_toArray, List.set_cons_zero, List.set_cons_succ]
            refine wpAnyH_take (i := 10) (oi := { dst := some 17, op := Op.fieldAddr 178 (Operand.tmp 3) 0, type := 0, pos := "ref.go:142", after := #[{ on := 4, ground := Ground.guard }], guard := some (4, true) }) (v := undef) rfl (by kernel_rfl) (by kernel_rfl) (by kernel_rfl) (fun _ _ _ h => h) (Or.inr ⟨by rfl, rfl⟩) (by assumption) ?_
            try simp only [Act.put, List.setIfInBounds_toArray, List.set_cons_zero, List.set_cons_succ]
            refine wpAnyH_take (i := 11) (oi := { dst := some 18, op := Op.load 9 (Operand.tmp 17), type := 9, pos := "ref.go:142", after := #[{ on := 10, ground := Ground.data }, { on := 4, ground := Ground.guard }], guard := some (4, true) }) (v := undef) rfl (by kernel_rfl) (by kernel_rfl) (by kernel_rfl) (fun _ _ _ h => h) (Or.inr ⟨by rfl, rfl⟩) (by assumption) ?_
            try simp only [Act.put, List.setIfInBounds_toArray, List.set_cons_zero, List.set_cons_succ]
            refine wpAnyH_take (i := 12) (oi := { dst := some 19, op := Op.binOp BinOp.lss 9 (Operand.tmp 16) (Operand.tmp 18) 9, type := 4, pos := "ref.go:142", after := #[{ on := 9, ground := Ground.data }, { on := 11, ground := Ground.data }, { on := 4, ground := Ground.guard }], guard := some (4, true) }) (v := undef) rfl (by kernel_rfl) (by kernel_rfl) (by kernel_rfl) (fun _ _ _ h => h) (Or.inr ⟨by rfl, rfl⟩) (by assumption) ?_
            try simp only [Act.put, List.setIfInBounds_toArray, List.set_cons_zero, List.set_cons_succ]
            refine wpAnyH_take (i := 13) (oi := { dst := some 20, op := Op.pick (Operand.tmp 11) (Operand.tmp 19) (Operand.const (Value.bool false)), type := 4, pos := "ref.go:142", after := #[{ on := 4, ground := Ground.data }, { on := 12, ground := Ground.data }], guard := none }) (v := ?_) rfl (by kernel_rfl) (by kernel_rfl) (by kernel_rfl) (fun _ _ _ h => h) (Or.inl ⟨by rfl, ?_⟩) (by assumption) ?_
            rotate_left
            · intro w hSw
              try dsimp only at hSw
              go_simp
              try with_reducible rfl
            try simp only [Act.put, List.setIfInBounds_toArray, List.set_cons_zero, List.set_cons_succ]
            refine wpAnyH_done (by kernel_rfl) ?_ _
            go_wp2_with fail
            refine wp_region_held_drew (S := fun _ => True) (by kernel_rfl) (trivial) (fun hHeld => ?_)
            refine wpAnyH_take (i := 0) (oi := { dst := some 26, op := Op.move (Operand.tmp 5), type := 3, pos := "ref.go:146", after := #[], guard := none }) (v := ?_) rfl (by kernel_rfl) (by kernel_rfl) (by kernel_rfl) (fun _ _ _ h => h) (Or.inl ⟨by rfl, ?_⟩) (by assumption) ?_
            rotate_left
            · intro w hSw
              try dsimp only at hSw
              go_simp
              try with_reducible rfl
            try simp only [Act.put, List.setIfInBounds_toArray, List.set_cons_zero, List.set_cons_succ]
            refine wpAnyH_take (i := 1) (oi := { dst := some 27, op := Op.move (Operand.tmp 0), type := 75, pos := "ref.go:146", after := #[], guard := none }) (v := ?_) rfl (by kernel_rfl) (by kernel_rfl) (by kernel_rfl) (fun _ _ _ h => h) (Or.inl ⟨by rfl, ?_⟩) (by assumption) ?_
            rotate_left
            · intro w hSw
              try dsimp only at hSw
              go_simp
              try with_reducible rfl
            try simp only [Act.put, List.setIfInBounds_toArray, List.set_cons_zero, List.set_cons_succ]
            refine wpAnyH_take (i := 2) (oi := { dst := some 28, op := Op.call { callee := Callee.builtin Builtin.len, args := #[Operand.tmp 27], argTypes := #[75] }, type := 3, pos := "ref.go:146", after := #[{ on := 1, ground := Ground.data }], guard := none }) (v := ?_) rfl (by kernel_rfl) (by kernel_rfl) (by kernel_rfl) (fun _ _ _ h => h) (Or.inl ⟨by rfl, ?_⟩) (by assumption) ?_
            rotate_left
            · intro w hSw
              try dsimp only at hSw
              go_simp
              try with_reducible rfl
            try simp only [Act.put, List.setIfInBounds_toArray, List.set_cons_zero, List.set_cons_succ]
            refine wpAnyH_take (i := 3) (oi := { dst := some 29, op := Op.binOp BinOp.lss 3 (Operand.tmp 26) (Operand.tmp 28) 3, type := 4, pos := "ref.go:146", after := #[{ on := 0, ground := Ground.data }, { on := 2, ground := Ground.data }], guard := none }) (v := ?_) rfl (by kernel_rfl) (by kernel_rfl) (by kernel_rfl) (fun _ _ _ h => h) (Or.inl ⟨by rfl, ?_⟩) (by assumption) ?_
            rotate_left
            · intro w hSw
              try dsimp only at hSw
              go_simp
              try with_reducible rfl
            try simp only [Act.put, List.setIfInBounds_toArray, List.set_cons_zero, List.set_cons_succ]
            refine wpAnyH_take (i := 4) (oi := { dst := some 30, op := Op.move (Operand.tmp 29), type := 4, pos := "ref.go:146", after := #[{ on := 3, ground := Ground.data }], guard := none }) (v := ?_) rfl (by kernel_rfl) (by kernel_rfl) (by kernel_rfl) (fun _ _ _ h => h) (Or.inl ⟨by rfl, ?_⟩) (by assumption) ?_
            rotate_left
            · intro w hSw
              try dsimp only at hSw
              go_simp
              try with_reducible rfl
            try simp only [Act.put, List.setIfInBounds_toArray, List.set_cons_zero, List.set_cons_succ]
            refine wpAnyH_take (i := 5) (oi := { dst := some 31, op := Op.move (Operand.tmp 0), type := 75, pos := "ref.go:146", after := #[{ on := 4, ground := Ground.guard }], guard := some (4, true) }) (v := undef) rfl (by kernel_rfl) (by kernel_rfl) (by kernel_rfl) (fun _ _ _ h => h) (Or.inr ⟨by rfl, rfl⟩) (by assumption) ?_
            try simp only [Act.put, List.setIfInBounds_toArray, List.set_cons_zero, List.set_cons_succ]
            refine wpAnyH_take (i := 6) (oi := { dst := some 32, op := Op.move (Operand.tmp 5), type := 3, pos := "ref.go:146", after := #[{ on := 4, ground := Ground.guard }], guard := some (4, true) }) (v := undef) rfl (by kernel_rfl) (by kernel_rfl) (by kernel_rfl) (fun _ _ _ h => h) (Or.inr ⟨by rfl, rfl⟩) (by assumption) ?_
            try simp only [Act.put, List.setIfInBounds_toArray, List.set_cons_zero, List.set_cons_succ]
            refine wpAnyH_take (i := 7) (oi := { dst := some 33, op := Op.indexAddr 75 (Operand.tmp 31) (Operand.tmp 32), type := 0, pos := "ref.go:146", after := #[{ on := 5, ground := Ground.data }, { on := 6, ground := Ground.data }, { on := 4, ground := Ground.guard }], guard := some (4, true) }) (v := undef) rfl (by kernel_rfl) (by kernel_rfl) (by kernel_rfl) (fun _ _ _ h => h) (Or.inr ⟨by rfl, rfl⟩) (by assumption) ?_
            try simp only [Act.put, List.setIfInBounds_toArray, List.set_cons_zero, List.set_cons_succ]
            refine wpAnyH_take (i := 8) (oi := { dst := some 34, op := Op.fieldAddr 178 (Operand.tmp 33) 0, type := 0, pos := "ref.go:146", after := #[{ on := 7, ground := Ground.data }, { on := 4, ground := Ground.guard }], guard := some (4, true) }) (v := undef) rfl (by kernel_rfl) (by kernel_rfl) (by kernel_rfl) (fun _ _ _ h => h) (Or.inr ⟨by rfl, rfl⟩) (by assumption) ?_
            try simp only [Act.put, List.setIfInBounds_toArray, List.set_cons_zero, List.set_cons_succ]
            refine wpAnyH_take (i := 9) (oi := { dst := some 35, op := Op.load 9 (Operand.tmp 34), type := 9, pos := "ref.go:146", after := #[{ on := 8, ground := Ground.data }, { on := 4, ground := Ground.guard }], guard := some (4, true) }) (v := undef) rfl (by kernel_rfl) (by kernel_rfl) (by kernel_rfl) (fun _ _ _ h => h) (Or.inr ⟨by rfl, rfl⟩) (by assumption) ?_
            try simp only [Act.put, List.setIfInBounds_toArray, List.set_cons_zero, List.set_cons_succ]
            refine wpAnyH_take (i := 10) (oi := { dst := some 36, op := Op.fieldAddr 178 (Operand.tmp 3) 0, type := 0, pos := "ref.go:146", after := #[{ on := 4, ground := Ground.guard }], guard := some (4, true) }) (v := undef) rfl (by kernel_rfl) (by kernel_rfl) (by kernel_rfl) (fun _ _ _ h => h) (Or.inr ⟨by rfl, rfl⟩) (by assumption) ?_
            try simp only [Act.put, List.setIfInBounds_toArray, List.set_cons_zero, List.set_cons_succ]
            refine wpAnyH_take (i := 11) (oi := { dst := some 37, op := Op.load 9 (Operand.tmp 36), type := 9, pos := "ref.go:146", after := #[{ on := 10, ground := Ground.data }, { on := 4, ground := Ground.guard }], guard := some (4, true) }) (v := undef) rfl (by kernel_rfl) (by kernel_rfl) (by kernel_rfl) (fun _ _ _ h => h) (Or.inr ⟨by rfl, rfl⟩) (by assumption) ?_
            try simp only [Act.put, List.setIfInBounds_toArray, List.set_cons_zero, List.set_cons_succ]
            refine wpAnyH_take (i := 12) (oi := { dst := some 38, op := Op.binOp BinOp.eql 9 (Operand.tmp 35) (Operand.tmp 37) 9, type := 4, pos := "ref.go:146", after := #[{ on := 9, ground := Ground.data }, { on := 11, ground := Ground.data }, { on := 4, ground := Ground.guard }], guard := some (4, true) }) (v := undef) rfl (by kernel_rfl) (by kernel_rfl) (by kernel_rfl) (fun _ _ _ h => h) (Or.inr ⟨by rfl, rfl⟩) (by assumption) ?_
            try simp only [Act.put, List.setIfInBounds_toArray, List.set_cons_zero, List.set_cons_succ]
            refine wpAnyH_take (i := 13) (oi := { dst := some 39, op := Op.pick (Operand.tmp 30) (Operand.tmp 38) (Operand.const (Value.bool false)), type := 4, pos := "ref.go:146", after := #[{ on := 4, ground := Ground.data }, { on := 12, ground := Ground.data }], guard := none }) (v := ?_) rfl (by kernel_rfl) (by kernel_rfl) (by kernel_rfl) (fun _ _ _ h => h) (Or.inl ⟨by rfl, ?_⟩) (by assumption) ?_
            rotate_left
            · intro w hSw
              try dsimp only at hSw
              go_simp
              try with_reducible rfl
            try simp only [Act.put, List.setIfInBounds_toArray, List.set_cons_zero, List.set_cons_succ]
            refine wpAnyH_done (by kernel_rfl) ?_ _
            go_wp2_with fail
            refine wp_region_held_drew (S := fun Y => Y.cell? ⟨w.heap.size, 0, none⟩ = some (.string key) ∧ Y.cell? ⟨w.heap.size, 1, none⟩ = some (.int .u64 (n : Int)) ∧ Y.cell? ⟨w.heap.size, 2, none⟩ = some (.bool gone)) (by kernel_rfl) (KB.out _ (blThen HB.out (Below.refl wr.heap.size wr)).drew.drew.drew) (fun hHeld => ?_)
            refine wpAnyH_take (i := 1) (oi := { dst := some 45, op := Op.move (Operand.tmp 0), type := 75, pos := "ref.go:149", after := #[], guard := none }) (v := ?_) rfl (by kernel_rfl) (by kernel_rfl) (by kernel_rfl) (fun _ _ _ h => h) (Or.inl ⟨by rfl, ?_⟩) (by assumption) ?_
            rotate_left
            · intro w hSw
              try dsimp only at hSw
              go_simp
              try with_reducible rfl
            try simp only [Act.put, List.setIfInBounds_toArray, List.set_cons_zero, List.set_cons_succ]
            refine wpAnyH_take (i := 2) (oi := { dst := some 46, op := Op.move (Operand.tmp 5), type := 3, pos := "ref.go:149", after := #[], guard := none }) (v := ?_) rfl (by kernel_rfl) (by kernel_rfl) (by kernel_rfl) (fun _ _ _ h => h) (Or.inl ⟨by rfl, ?_⟩) (by assumption) ?_
            rotate_left
            · intro w hSw
              try dsimp only at hSw
              go_simp
              try with_reducible rfl
            try simp only [Act.put, List.setIfInBounds_toArray, List.set_cons_zero, List.set_cons_succ]
            refine wpAnyH_take (i := 3) (oi := { dst := some 47, op := Op.slice 75 (Operand.tmp 45) none (some (Operand.tmp 46)) none, type := 75, pos := "ref.go:149", after := #[{ on := 1, ground := Ground.data }, { on := 2, ground := Ground.data }], guard := none }) (v := ?_) rfl (by kernel_rfl) (by kernel_rfl) (by kernel_rfl) (fun _ _ _ h => h) (Or.inl ⟨by rfl, ?_⟩) (by assumption) ?_
            rotate_left
            · intro w hSw
              try dsimp only at hSw
              go_simp
              try with_reducible rfl
            try simp only [Act.put, List.setIfInBounds_toArray, List.set_cons_zero, List.set_cons_succ]
            refine wpAnyH_take (i := 5) (oi := { dst := some 49, op := Op.load 178 (Operand.tmp 3), type := 178, pos := "ref.go:149", after := #[], guard := none }) (v := ?_) rfl (by kernel_rfl) (by kernel_rfl) (by kernel_rfl) (fun _ _ _ h => h) (Or.inl ⟨by rfl, ?_⟩) (by assumption) ?_
            rotate_left
            · intro w hSw
              try dsimp only at hSw
              go_simp
              try with_reducible rfl
            try simp only [Act.put, List.setIfInBounds_toArray, List.set_cons_zero, List.set_cons_succ]
            refine wpAnyH_take (i := 8) (oi := { dst := some 52, op := Op.move (Operand.tmp 6), type := 75, pos := "ref.go:149", after := #[], guard := none }) (v := ?_) rfl (by kernel_rfl) (by kernel_rfl) (by kernel_rfl) (fun _ _ _ h => h) (Or.inl ⟨by rfl, ?_⟩) (by assumption) ?_
            rotate_left
            · intro w hSw
              try dsimp only at hSw
              go_simp
              try with_reducible rfl
            try simp only [Act.put, List.setIfInBounds_toArray, List.set_cons_zero, List.set_cons_succ]
            refine wpAnyH_ready (rs := [0, 6]) (by kernel_rfl) (by simp) ?_
            refine AllReadyH.cons (o := { dst := some 44, op := Op.buildSlice 75 0 #[], type := 75, pos := "ref.go:149", after := #[], guard := none }) rfl (fun K hK => ?_) (AllReadyH.cons (o := { dst := some 50, op := Op.buildSlice 75 1 #[(0, Operand.tmp 49)], type := 75, pos := "ref.go:149", after := #[{ on := 5, ground := Ground.data }], guard := none }) rfl (fun K hK => ?_) (AllReadyH.nil))
            · go_simp
              have HOE : Hid (OwnWr (wr.drew.drew.drew.alloc (.cells #[] 178)) wr.heap.size (.slice (some ⟨wr.heap.size, 0, none⟩) 0 0) []) := own_emptyG wr.drew.drew.drew 178 _ wr.heap.size (by simp) (by omega)
              refine hK.out _ _ (KB.out _ (blThen HB.out (by repeat (first | with_reducible exact Below.refl _ _ | with_reducible refine blAlloc ?_ _ | with_reducible refine Below.drew ?_)))) (fun hHeld => ?_)
              clear hK K
              try simp only [Act.put, List.setIfInBounds_toArray, List.set_cons_zero, List.set_cons_succ]
              refine wpAnyH_ready (rs := [4, 6]) (by kernel_rfl) (by simp) ?_
              refine AllReadyH.cons (o := { dst := some 48, op := Op.call { callee := Callee.builtin Builtin.append, args := #[Operand.tmp 44, Operand.tmp 47], argTypes := #[75, 75] }, type := 75, pos := "ref.go:149", after := #[{ on := 0, ground := Ground.data }, { on := 3, ground := Ground.data }], guard := none }) rfl (fun K hK => ?_) (AllReadyH.cons (o := { dst := some 50, op := Op.buildSlice 75 1 #[(0, Operand.tmp 49)], type := 75, pos := "ref.go:149", after := #[{ on := 5, ground := Ground.data }], guard := none }) rfl (fun K hK => ?_) (AllReadyH.nil))
              · refine wp_append_G 75 _ 32 info_wr Tryz.underlying75 rfl (by decide) _ _ rfl wr.heap.size _ [] rfl HOE.out _ (d.take cap) rfl (HTK.out.later (by repeat (first | with_reducible exact Below.refl _ _ | with_reducible refine blAlloc ?_ _ | with_reducible refine Below.drew ?_))) (by have := HLT.out; simp only [List.length_nil]; omega) ((by repeat (first | with_reducible exact Below.refl _ _ | with_reducible refine blAlloc ?_ _ | with_reducible refine Below.drew ?_)) : Below wr.heap.size wr (wr.drew.drew.drew.alloc (.cells #[] 178))).size ?_
                intro v3 w3 h1 h2
                rw [List.nil_append] at h1
                have HB3 : Hid (Below wr.heap.size wr w3) := grown_belowG ((by repeat (first | with_reducible exact Below.refl _ _ | with_reducible refine blAlloc ?_ _ | with_reducible refine Below.drew ?_)) : Below wr.heap.size wr (wr.drew.drew.drew.alloc (.cells #[] 178))) HOE.out (Nat.le_refl _) ((by repeat (first | with_reducible exact Below.refl _ _ | with_reducible refine blAlloc ?_ _ | with_reducible refine Below.drew ?_)) : Below wr.heap.size wr (wr.drew.drew.drew.alloc (.cells #[] 178))).size h2
                have HO3 := Lib.hid h1
                clear h1 h2 HOE
                refine hK.out _ _ (KB.out _ (blThen HB.out HB3.out)) (fun hHeld => ?_)
                clear hK K
                try simp only [Act.put, List.setIfInBounds_toArray, List.set_cons_zero, List.set_cons_succ]
                refine wpAnyH_ready (rs := [6]) (by kernel_rfl) (by simp) ?_
                refine AllReadyH.cons (o := { dst := some 50, op := Op.buildSlice 75 1 #[(0, Operand.tmp 49)], type := 75, pos := "ref.go:149", after := #[{ on := 5, ground := Ground.data }], guard := none }) rfl (fun K hK => ?_) (AllReadyH.nil)
                go_simp
                have HC : Hid (SlG eW (w3.alloc (.cells #[.string key, .int .u64 (n : Int), .bool gone] 178)) (.slice (some ⟨w3.heap.size, 0, none⟩) 1 1) [(key, n, gone)]) := one_G eW w3 _ (key, n, gone) _ _ rfl (by simp)
                have HO3 := Lib.hid (HO3.out.later (blAlloc (Below.refl w3.heap.size w3) (.cells #[.string key, .int .u64 (n : Int), .bool gone] 178)))
                refine hK.out _ _ (KB.out _ (blThen HB.out (by repeat (first | with_reducible exact HB3.out | with_reducible exact Below.refl _ _ | with_reducible refine blAlloc ?_ _ | with_reducible refine Below.drew ?_)))) (fun hHeld => ?_)
                clear hK K
                try simp only [Act.put, List.setIfInBounds_toArray, List.set_cons_zero, List.set_cons_succ]
                refine wpAnyH_ready (rs := [7]) (by kernel_rfl) (by simp) ?_
                refine AllReadyH.cons (o := { dst := some 51, op := Op.call { callee := Callee.builtin Builtin.append, args := #[Operand.tmp 48, Operand.tmp 50], argTypes := #[75, 75] }, type := 75, pos := "ref.go:149", after := #[{ on := 4, ground := Ground.data }, { on := 6, ground := Ground.data }, { on := 4, ground := Ground.chain }], guard := none }) rfl (fun K hK => ?_) (AllReadyH.nil)
                refine wp_append_G 75 _ 32 info_wr Tryz.underlying75 rfl (by decide) _ _ rfl wr.heap.size _ (d.take cap) rfl HO3.out _ [(key, n, gone)] rfl HC.out (by have := HLT.out; simp only [List.length_cons, List.length_nil]; omega) ((by repeat (first | with_reducible exact HB3.out | with_reducible exact Below.refl _ _ | with_reducible refine blAlloc ?_ _ | with_reducible refine Below.drew ?_)) : Below wr.heap.size wr (w3.alloc (.cells #[.string key, .int .u64 (n : Int), .bool gone] 178))).size ?_
                intro v4 w4 h1 h2
                have HB4 : Hid (Below wr.heap.size wr w4) := grown_belowG ((by repeat (first | with_reducible exact HB3.out | with_reducible exact Below.refl _ _ | with_reducible refine blAlloc ?_ _ | with_reducible refine Below.drew ?_)) : Below wr.heap.size wr (w3.alloc (.cells #[.string key, .int .u64 (n : Int), .bool gone] 178))) HO3.out (Nat.le_refl _) ((by repeat (first | with_reducible exact HB3.out | with_reducible exact Below.refl _ _ | with_reducible refine blAlloc ?_ _ | with_reducible refine Below.drew ?_)) : Below wr.heap.size wr (w3.alloc (.cells #[.string key, .int .u64 (n : Int), .bool gone] 178))).size h2
                have HO4 := Lib.hid h1
                clear h1 h2
                refine hK.out _ _ (KB.out _ (blThen HB.out HB4.out)) (fun hHeld => ?_)
                clear hK K
                try simp only [Act.put, List.setIfInBounds_toArray, List.set_cons_zero, List.set_cons_succ]
                refine wpAnyH_ready (rs := [9]) (by kernel_rfl) (by simp) ?_
                refine AllReadyH.cons (o := { dst := some 53, op := Op.call { callee := Callee.builtin Builtin.append, args := #[Operand.tmp 51, Operand.tmp 52], argTypes := #[75, 75] }, type := 75, pos := "ref.go:149", after := #[{ on := 7, ground := Ground.data }, { on := 8, ground := Ground.data }, { on := 7, ground := Ground.chain }], guard := none }) rfl (fun K hK => ?_) (AllReadyH.nil)
                refine wp_append_G 75 _ 32 info_wr Tryz.underlying75 rfl (by decide) _ _ rfl wr.heap.size _ (d.take cap ++ [(key, n, gone)]) rfl HO4.out _ (d.drop cap) rfl (HR.out _ HB4.out) (by have := HLT.out; have := HLR.out; simp only [List.length_append, List.length_cons, List.length_nil]; omega) HB4.out.size ?_
                intro v5 w5 h1 h2
                have HB5 : Hid (Below wr.heap.size wr w5) := grown_belowG HB4.out HO4.out (Nat.le_refl _) HB4.out.size h2
                have HO5 := Lib.hid h1
                clear h1 h2
                refine hK.out _ _ (KB.out _ (blThen HB.out HB5.out)) (fun hHeld => ?_)
                clear hK K
                try simp only [Act.put, List.setIfInBounds_toArray, List.set_cons_zero, List.set_cons_succ]
                refine wpAnyH_take (i := 10) (oi := { dst := some 4, op := Op.assign (Operand.tmp 53), type := 75, pos := "ref.go:149", after := #[{ on := 9, ground := Ground.data }, { on := 9, ground := Ground.chain }, { on := 0, ground := Ground.phase }, { on := 1, ground := Ground.phase }, { on := 2, ground := Ground.phase }, { on := 3, ground := Ground.phase }, { on := 4, ground := Ground.phase }, { on := 5, ground := Ground.phase }, { on := 6, ground := Ground.phase }, { on := 7, ground := Ground.phase }, { on := 8, ground := Ground.phase }, { on := 9, ground := Ground.phase }], guard := none }) (v := ?_) rfl (by kernel_rfl) (by kernel_rfl) (by kernel_rfl) (fun _ _ _ h => h) (Or.inl ⟨by rfl, ?_⟩) (by assumption) ?_
                rotate_left
                · intro w hSw
                  try dsimp only at hSw
                  go_simp
                  try with_reducible rfl
                try simp only [Act.put, List.setIfInBounds_toArray, List.set_cons_zero, List.set_cons_succ]
                refine wpAnyH_done (by kernel_rfl) ?_ _
                go_wp2
                go_ret
                exact ⟨_, rfl, by rw [HV.out]; exact HO5.out.mono (blThen HB0.out HB.out).size, blThen (blThen HB0.out HB.out) HB5.out⟩
              · go_simp
                have HC : Hid (SlG eW ((wr.drew.drew.drew.alloc (.cells #[] 178)).alloc (.cells #[.string key, .int .u64 (n : Int), .bool gone] 178)) (.slice (some ⟨wr.heap.size + 1, 0, none⟩) 1 1) [(key, n, gone)]) := one_G eW (wr.drew.drew.drew.alloc (.cells #[] 178)) _ (key, n, gone) _ _ rfl (by simp)
                have HOE := Lib.hid (HOE.out.later (blAlloc (Below.refl (wr.drew.drew.drew.alloc (.cells #[] 178)).heap.size (wr.drew.drew.drew.alloc (.cells #[] 178))) (.cells #[.string key, .int .u64 (n : Int), .bool gone] 178)))
                refine hK.out _ _ (KB.out _ (blThen HB.out (by repeat (first | with_reducible exact Below.refl _ _ | with_reducible refine blAlloc ?_ _ | with_reducible refine Below.drew ?_)))) (fun hHeld => ?_)
                clear hK K
                try simp only [Act.put, List.setIfInBounds_toArray, List.set_cons_zero, List.set_cons_succ]
                refine wpAnyH_ready (rs := [4]) (by kernel_rfl) (by simp) ?_
                refine AllReadyH.cons (o := { dst := some 48, op := Op.call { callee := Callee.builtin Builtin.append, args := #[Operand.tmp 44, Operand.tmp 47], argTypes := #[75, 75] }, type := 75, pos := "ref.go:149", after := #[{ on := 0, ground := Ground.data }, { on := 3, ground := Ground.data }], guard := none }) rfl (fun K hK => ?_) (AllReadyH.nil)
                refine wp_append_G 75 _ 32 info_wr Tryz.underlying75 rfl (by decide) _ _ rfl wr.heap.size _ [] rfl HOE.out _ (d.take cap) rfl (HTK.out.later (by repeat (first | with_reducible exact Below.refl _ _ | with_reducible refine blAlloc ?_ _ | with_reducible refine Below.drew ?_))) (by have := HLT.out; simp only [List.length_nil]; omega) ((by repeat (first | with_reducible exact Below.refl _ _ | with_reducible refine blAlloc ?_ _ | with_reducible refine Below.drew ?_)) : Below wr.heap.size wr ((wr.drew.drew.drew.alloc (.cells #[] 178)).alloc (.cells #[.string key, .int .u64 (n : Int), .bool gone] 178))).size ?_
                intro v3 w3 h1 h2
                rw [List.nil_append] at h1
                have HB3 : Hid (Below wr.heap.size wr w3) := grown_belowG ((by repeat (first | with_reducible exact Below.refl _ _ | with_reducible refine blAlloc ?_ _ | with_reducible refine Below.drew ?_)) : Below wr.heap.size wr ((wr.drew.drew.drew.alloc (.cells #[] 178)).alloc (.cells #[.string key, .int .u64 (n : Int), .bool gone] 178))) HOE.out (Nat.le_refl _) ((by repeat (first | with_reducible exact Below.refl _ _ | with_reducible refine blAlloc ?_ _ | with_reducible refine Below.drew ?_)) : Below wr.heap.size wr ((wr.drew.drew.drew.alloc (.cells #[] 178)).alloc (.cells #[.string key, .int .u64 (n : Int), .bool gone] 178))).size h2
                have h3 : (((wr.drew.drew.drew.alloc (.cells #[] 178)).alloc (.cells #[.string key, .int .u64 (n : Int), .bool gone] 178))).grownBy w3 (some (wr.heap.size)) := h2
                have HC := Lib.hid (HC.out.kept h3 (by simp))
                clear h3
                have HO3 := Lib.hid h1
                clear h1 h2 HOE
                refine hK.out _ _ (KB.out _ (blThen HB.out HB3.out)) (fun hHeld => ?_)
                clear hK K
                try simp only [Act.put, List.setIfInBounds_toArray, List.set_cons_zero, List.set_cons_succ]
                refine wpAnyH_ready (rs := [7]) (by kernel_rfl) (by simp) ?_
                refine AllReadyH.cons (o := { dst := some 51, op := Op.call { callee := Callee.builtin Builtin.append, args := #[Operand.tmp 48, Operand.tmp 50], argTypes := #[75, 75] }, type := 75, pos := "ref.go:149", after := #[{ on := 4, ground := Ground.data }, { on := 6, ground := Ground.data }, { on := 4, ground := Ground.chain }], guard := none }) rfl (fun K hK => ?_) (AllReadyH.nil)
                refine wp_append_G 75 _ 32 info_wr Tryz.underlying75 rfl (by decide) _ _ rfl wr.heap.size _ (d.take cap) rfl HO3.out _ [(key, n, gone)] rfl HC.out (by have := HLT.out; simp only [List.length_cons, List.length_nil]; omega) ((by repeat (first | with_reducible exact HB3.out | with_reducible exact Below.refl _ _ | with_reducible refine blAlloc ?_ _ | with_reducible refine Below.drew ?_)) : Below wr.heap.size wr w3).size ?_
                intro v4 w4 h1 h2
                have HB4 : Hid (Below wr.heap.size wr w4) := grown_belowG ((by repeat (first | with_reducible exact HB3.out | with_reducible exact Below.refl _ _ | with_reducible refine blAlloc ?_ _ | with_reducible refine Below.drew ?_)) : Below wr.heap.size wr w3) HO3.out (Nat.le_refl _) ((by repeat (first | with_reducible exact HB3.out | with_reducible exact Below.refl _ _ | with_reducible refine blAlloc ?_ _ | with_reducible refine Below.drew ?_)) : Below wr.heap.size wr w3).size h2
                have HO4 := Lib.hid h1
                clear h1 h2
                refine hK.out _ _ (KB.out _ (blThen HB.out HB4.out)) (fun hHeld => ?_)
                clear hK K
                try simp only [Act.put, List.setIfInBounds_toArray, List.set_cons_zero, List.set_cons_succ]
                refine wpAnyH_ready (rs := [9]) (by kernel_rfl) (by simp) ?_
                refine AllReadyH.cons (o := { dst := some 53, op := Op.call { callee := Callee.builtin Builtin.append, args := #[Operand.tmp 51, Operand.tmp 52], argTypes := #[75, 75] }, type := 75, pos := "ref.go:149", after := #[{ on := 7, ground := Ground.data }, { on := 8, ground := Ground.data }, { on := 7, ground := Ground.chain }], guard := none }) rfl (fun K hK => ?_) (AllReadyH.nil)
                refine wp_append_G 75 _ 32 info_wr Tryz.underlying75 rfl (by decide) _ _ rfl wr.heap.size _ (d.take cap ++ [(key, n, gone)]) rfl HO4.out _ (d.drop cap) rfl (HR.out _ HB4.out) (by have := HLT.out; have := HLR.out; simp only [List.length_append, List.length_cons, List.length_nil]; omega) HB4.out.size ?_
                intro v5 w5 h1 h2
                have HB5 : Hid (Below wr.heap.size wr w5) := grown_belowG HB4.out HO4.out (Nat.le_refl _) HB4.out.size h2
                have HO5 := Lib.hid h1
                clear h1 h2
                refine hK.out _ _ (KB.out _ (blThen HB.out HB5.out)) (fun hHeld => ?_)
                clear hK K
                try simp only [Act.put, List.setIfInBounds_toArray, List.set_cons_zero, List.set_cons_succ]
                refine wpAnyH_take (i := 10) (oi := { dst := some 4, op := Op.assign (Operand.tmp 53), type := 75, pos := "ref.go:149", after := #[{ on := 9, ground := Ground.data }, { on := 9, ground := Ground.chain }, { on := 0, ground := Ground.phase }, { on := 1, ground := Ground.phase }, { on := 2, ground := Ground.phase }, { on := 3, ground := Ground.phase }, { on := 4, ground := Ground.phase }, { on := 5, ground := Ground.phase }, { on := 6, ground := Ground.phase }, { on := 7, ground := Ground.phase }, { on := 8, ground := Ground.phase }, { on := 9, ground := Ground.phase }], guard := none }) (v := ?_) rfl (by kernel_rfl) (by kernel_rfl) (by kernel_rfl) (fun _ _ _ h => h) (Or.inl ⟨by rfl, ?_⟩) (by assumption) ?_
                rotate_left
                · intro w hSw
                  try dsimp only at hSw
                  go_simp
                  try with_reducible rfl
                try simp only [Act.put, List.setIfInBounds_toArray, List.set_cons_zero, List.set_cons_succ]
                refine wpAnyH_done (by kernel_rfl) ?_ _
                go_wp2
                go_ret
                exact ⟨_, rfl, by rw [HV.out]; exact HO5.out.mono (blThen HB0.out HB.out).size, blThen (blThen HB0.out HB.out) HB5.out⟩
            · go_simp
              have HC : Hid (SlG eW (wr.drew.drew.drew.alloc (.cells #[.string key, .int .u64 (n : Int), .bool gone] 178)) (.slice (some ⟨wr.heap.size, 0, none⟩) 1 1) [(key, n, gone)]) := one_G eW wr.drew.drew.drew _ (key, n, gone) _ _ rfl (by simp)
              refine hK.out _ _ (KB.out _ (blThen HB.out (by repeat (first | with_reducible exact Below.refl _ _ | with_reducible refine blAlloc ?_ _ | with_reducible refine Below.drew ?_)))) (fun hHeld => ?_)
              clear hK K
              try simp only [Act.put, List.setIfInBounds_toArray, List.set_cons_zero, List.set_cons_succ]
              refine wpAnyH_ready (rs := [0]) (by kernel_rfl) (by simp) ?_
              refine AllReadyH.cons (o := { dst := some 44, op := Op.buildSlice 75 0 #[], type := 75, pos := "ref.go:149", after := #[], guard := none }) rfl (fun K hK => ?_) (AllReadyH.nil)
              go_simp
              have HOE : Hid (OwnWr ((wr.drew.drew.drew.alloc (.cells #[.string key, .int .u64 (n : Int), .bool gone] 178)).alloc (.cells #[] 178)) wr.heap.size (.slice (some ⟨wr.heap.size + 1, 0, none⟩) 0 0) []) := own_emptyG (wr.drew.drew.drew.alloc (.cells #[.string key, .int .u64 (n : Int), .bool gone] 178)) 178 _ wr.heap.size (by simp) (by omega)
              have HC := Lib.hid (HC.out.later (blAlloc (Below.refl (wr.drew.drew.drew.alloc (.cells #[.string key, .int .u64 (n : Int), .bool gone] 178)).heap.size (wr.drew.drew.drew.alloc (.cells #[.string key, .int .u64 (n : Int), .bool gone] 178))) (.cells #[] 178)))
              refine hK.out _ _ (KB.out _ (blThen HB.out (by repeat (first | with_reducible exact Below.refl _ _ | with_reducible refine blAlloc ?_ _ | with_reducible refine Below.drew ?_)))) (fun hHeld => ?_)
              clear hK K
              try simp only [Act.put, List.setIfInBounds_toArray, List.set_cons_zero, List.set_cons_succ]
              refine wpAnyH_ready (rs := [4]) (by kernel_rfl) (by simp) ?_
              refine AllReadyH.cons (o := { dst := some 48, op := Op.call { callee := Callee.builtin Builtin.append, args := #[Operand.tmp 44, Operand.tmp 47], argTypes := #[75, 75] }, type := 75, pos := "ref.go:149", after := #[{ on := 0, ground := Ground.data }, { on := 3, ground := Ground.data }], guard := none }) rfl (fun K hK => ?_) (AllReadyH.nil)
              refine wp_append_G 75 _ 32 info_wr Tryz.underlying75 rfl (by decide) _ _ rfl wr.heap.size _ [] rfl HOE.out _ (d.take cap) rfl (HTK.out.later (by repeat (first | with_reducible exact Below.refl _ _ | with_reducible refine blAlloc ?_ _ | with_reducible refine Below.drew ?_))) (by have := HLT.out; simp only [List.length_nil]; omega) ((by repeat (first | with_reducible exact Below.refl _ _ | with_reducible refine blAlloc ?_ _ | with_reducible refine Below.drew ?_)) : Below wr.heap.size wr ((wr.drew.drew.drew.alloc (.cells #[.string key, .int .u64 (n : Int), .bool gone] 178)).alloc (.cells #[] 178))).size ?_
              intro v3 w3 h1 h2
              rw [List.nil_append] at h1
              have HB3 : Hid (Below wr.heap.size wr w3) := grown_belowG ((by repeat (first | with_reducible exact Below.refl _ _ | with_reducible refine blAlloc ?_ _ | with_reducible refine Below.drew ?_)) : Below wr.heap.size wr ((wr.drew.drew.drew.alloc (.cells #[.string key, .int .u64 (n : Int), .bool gone] 178)).alloc (.cells #[] 178))) HOE.out (Nat.le_refl _) ((by repeat (first | with_reducible exact Below.refl _ _ | with_reducible refine blAlloc ?_ _ | with_reducible refine Below.drew ?_)) : Below wr.heap.size wr ((wr.drew.drew.drew.alloc (.cells #[.string key, .int .u64 (n : Int), .bool gone] 178)).alloc (.cells #[] 178))).size h2
              have h3 : (((wr.drew.drew.drew.alloc (.cells #[.string key, .int .u64 (n : Int), .bool gone] 178)).alloc (.cells #[] 178))).grownBy w3 (some (wr.heap.size + 1)) := h2
              have HC := Lib.hid (HC.out.kept h3 (by simp))
              clear h3
              have HO3 := Lib.hid h1
              clear h1 h2 HOE
              refine hK.out _ _ (KB.out _ (blThen HB.out HB3.out)) (fun hHeld => ?_)
              clear hK K
              try simp only [Act.put, List.setIfInBounds_toArray, List.set_cons_zero, List.set_cons_succ]
              refine wpAnyH_ready (rs := [7]) (by kernel_rfl) (by simp) ?_
              refine AllReadyH.cons (o := { dst := some 51, op := Op.call { callee := Callee.builtin Builtin.append, args := #[Operand.tmp 48, Operand.tmp 50], argTypes := #[75, 75] }, type := 75, pos := "ref.go:149", after := #[{ on := 4, ground := Ground.data }, { on := 6, ground := Ground.data }, { on := 4, ground := Ground.chain }], guard := none }) rfl (fun K hK => ?_) (AllReadyH.nil)
              refine wp_append_G 75 _ 32 info_wr Tryz.underlying75 rfl (by decide) _ _ rfl wr.heap.size _ (d.take cap) rfl HO3.out _ [(key, n, gone)] rfl HC.out (by have := HLT.out; simp only [List.length_cons, List.length_nil]; omega) ((by repeat (first | with_reducible exact HB3.out | with_reducible exact Below.refl _ _ | with_reducible refine blAlloc ?_ _ | with_reducible refine Below.drew ?_)) : Below wr.heap.size wr w3).size ?_
              intro v4 w4 h1 h2
              have HB4 : Hid (Below wr.heap.size wr w4) := grown_belowG ((by repeat (first | with_reducible exact HB3.out | with_reducible exact Below.refl _ _ | with_reducible refine blAlloc ?_ _ | with_reducible refine Below.drew ?_)) : Below wr.heap.size wr w3) HO3.out (Nat.le_refl _) ((by repeat (first | with_reducible exact HB3.out | with_reducible exact Below.refl _ _ | with_reducible refine blAlloc ?_ _ | with_reducible refine Below.drew ?_)) : Below wr.heap.size wr w3).size h2
              have HO4 := Lib.hid h1
              clear h1 h2
              refine hK.out _ _ (KB.out _ (blThen HB.out HB4.out)) (fun hHeld => ?_)
              clear hK K
              try simp only [Act.put, List.setIfInBounds_toArray, List.set_cons_zero, List.set_cons_succ]
              refine wpAnyH_ready (rs := [9]) (by kernel_rfl) (by simp) ?_
              refine AllReadyH.cons (o := { dst := some 53, op := Op.call { callee := Callee.builtin Builtin.append, args := #[Operand.tmp 51, Operand.tmp 52], argTypes := #[75, 75] }, type := 75, pos := "ref.go:149", after := #[{ on := 7, ground := Ground.data }, { on := 8, ground := Ground.data }, { on := 7, ground := Ground.chain }], guard := none }) rfl (fun K hK => ?_) (AllReadyH.nil)
              refine wp_append_G 75 _ 32 info_wr Tryz.underlying75 rfl (by decide) _ _ rfl wr.heap.size _ (d.take cap ++ [(key, n, gone)]) rfl HO4.out _ (d.drop cap) rfl (HR.out _ HB4.out) (by have := HLT.out; have := HLR.out; simp only [List.length_append, List.length_cons, List.length_nil]; omega) HB4.out.size ?_
              intro v5 w5 h1 h2
              have HB5 : Hid (Below wr.heap.size wr w5) := grown_belowG HB4.out HO4.out (Nat.le_refl _) HB4.out.size h2
              have HO5 := Lib.hid h1
              clear h1 h2
              refine hK.out _ _ (KB.out _ (blThen HB.out HB5.out)) (fun hHeld => ?_)
              clear hK K
              try simp only [Act.put, List.setIfInBounds_toArray, List.set_cons_zero, List.set_cons_succ]
              refine wpAnyH_take (i := 10) (oi := { dst := some 4, op := Op.assign (Operand.tmp 53), type := 75, pos := "ref.go:149", after := #[{ on := 9, ground := Ground.data }, { on := 9, ground := Ground.chain }, { on := 0, ground := Ground.phase }, { on := 1, ground := Ground.phase }, { on := 2, ground := Ground.phase }, { on := 3, ground := Ground.phase }, { on := 4, ground := Ground.phase }, { on := 5, ground := Ground.phase }, { on := 6, ground := Ground.phase }, { on := 7, ground := Ground.phase }, { on := 8, ground := Ground.phase }, { on := 9, ground := Ground.phase }], guard := none }) (v := ?_) rfl (by kernel_rfl) (by kernel_rfl) (by kernel_rfl) (fun _ _ _ h => h) (Or.inl ⟨by rfl, ?_⟩) (by assumption) ?_
              rotate_left
              · intro w hSw
                try dsimp only at hSw
                go_simp
                try with_reducible rfl
              try simp only [Act.put, List.setIfInBounds_toArray, List.set_cons_zero, List.set_cons_succ]
              refine wpAnyH_done (by kernel_rfl) ?_ _
              go_wp2
              go_ret
              exact ⟨_, rfl, by rw [HV.out]; exact HO5.out.mono (blThen HB0.out HB.out).size, blThen (blThen HB0.out HB.out) HB5.out⟩
      · cases a with
        | none =>
          obtain ⟨_, _, hv2, hn2, _⟩ := HA.out
          cases hv2
          have := hn2 rfl
          omega
        | some ad =>
          have hc0 : ¬ cap = 0 := by omega
          have HTK := Lib.hid (slG_take HAr.out k (by have := HN.out; omega))
          have HR := Lib.hid (fun (Y : World) (hY : Below wr.heap.size wr Y) => (show SlG eW wr (.slice (some (ad.add (k * 3))) 0 (cap - k)) (d.drop k) from slG_dropA HAr.out k (cap - k) 0 (by have := HN.out; omega) (by have := HN.out; omega)).later hY)
          have HLR : Hid (((d.drop k)).length ≤ 100000) := by show _ ≤ _; rw [List.length_drop]; have := HN.out; omega
          have HLT : Hid ((d.take k).length ≤ 100000) := by show _ ≤ _; rw [List.length_take]; have := HN.out; omega
          go_wp2_with fail
          refine wp_region_held_drew (S := fun _ => True) (by kernel_rfl) (trivial) (fun hHeld => ?_)
          refine wpAnyH_take (i := 0) (oi := { dst := some 7, op := Op.move (Operand.tmp 5), type := 3, pos := "ref.go:142", after := #[], guard := none }) (v := ?_) rfl (by kernel_rfl) (by kernel_rfl) (by kernel_rfl) (fun _ _ _ h => h) (Or.inl ⟨by rfl, ?_⟩) (by assumption) ?_
          rotate_left
          · intro w hSw
            try dsimp only at hSw
            go_simp
            try with_reducible rfl
          try simp only [Act.put, List.setIfInBounds_toArray, List.set_cons_zero, List.set_cons_succ]
          refine wpAnyH_take (i := 1) (oi := { dst := some 8, op := Op.move (Operand.tmp 0), type := 75, pos := "ref.go:142", after := #[], guard := none }) (v := ?_) rfl (by kernel_rfl) (by kernel_rfl) (by kernel_rfl) (fun _ _ _ h => h) (Or.inl ⟨by rfl, ?_⟩) (by assumption) ?_
          rotate_left
          · intro w hSw
            try dsimp only at hSw
            go_simp
            try with_reducible rfl
          try simp only [Act.put, List.setIfInBounds_toArray, List.set_cons_zero, List.set_cons_succ]
          refine wpAnyH_take (i := 2) (oi := { dst := some 9, op := Op.call { callee := Callee.builtin Builtin.len, args := #[Operand.tmp 8], argTypes := #[75] }, type := 3, pos := "ref.go:142", after := #[{ on := 1, ground := Ground.data }], guard := none }) (v := ?_) rfl (by kernel_rfl) (by kernel_rfl) (by kernel_rfl) (fun _ _ _ h => h) (Or.inl ⟨by rfl, ?_⟩) (by assumption) ?_
          rotate_left
          · intro w hSw
            try dsimp only at hSw
            go_simp
            try with_reducible rfl
          try simp only [Act.put, List.setIfInBounds_toArray, List.set_cons_zero, List.set_cons_succ]
          refine wpAnyH_take (i := 3) (oi := { dst := some 10, op := Op.binOp BinOp.lss 3 (Operand.tmp 7) (Operand.tmp 9) 3, type := 4, pos := "ref.go:142", after := #[{ on := 0, ground := Ground.data }, { on := 2, ground := Ground.data }], guard := none }) (v := ?_) rfl (by kernel_rfl) (by kernel_rfl) (by kernel_rfl) (fun _ _ _ h => h) (Or.inl ⟨by rfl, ?_⟩) (by assumption) ?_
          rotate_left
          · intro w hSw
            try dsimp only at hSw
            go_simp
            try with_reducible rfl
          try simp only [Act.put, List.setIfInBounds_toArray, List.set_cons_zero, List.set_cons_succ]
          refine wpAnyH_take (i := 4) (oi := { dst := some 11, op := Op.move (Operand.tmp 10), type := 4, pos := "ref.go:142", after := #[{ on := 3, ground := Ground.data }], guard := none }) (v := ?_) rfl (by kernel_rfl) (by kernel_rfl) (by kernel_rfl) (fun _ _ _ h => h) (Or.inl ⟨by rfl, ?_⟩) (by assumption) ?_
          rotate_left
          · intro w hSw
            try dsimp only at hSw
            go_simp
            try with_reducible rfl
          try simp only [Act.put, List.setIfInBounds_toArray, List.set_cons_zero, List.set_cons_succ]
          refine wpAnyH_take (i := 5) (oi := { dst := some 12, op := Op.move (Operand.tmp 0), type := 75, pos := "ref.go:142", after := #[{ on := 4, ground := Ground.guard }], guard := some (4, true) }) (v := undef) rfl (by kernel_rfl) (by kernel_rfl) (by kernel_rfl) (fun _ _ _ h => h) (Or.inr ⟨by rfl, rfl⟩) (by assumption) ?_
          try simp only [Act.put, List.setIfInBounds_toArray, List.set_cons_zero, List.set_cons_succ]
          refine wpAnyH_take (i := 6) (oi := { dst := some 13, op := Op.move (Operand.tmp 5), type := 3, pos := "ref.go:142", after := #[{ on := 4, ground := Ground.guard }], guard := some (4, true) }) (v := undef) rfl (by kernel_rfl) (by kernel_rfl) (by kernel_rfl) (fun _ _ _ h => h) (Or.inr ⟨by rfl, rfl⟩) (by assumption) ?_
          try simp only [Act.put, List.setIfInBounds_toArray, List.set_cons_zero, List.set_cons_succ]
          refine wpAnyH_take (i := 7) (oi := { dst := some 14, op := Op.indexAddr 75 (Operand.tmp 12) (Operand.tmp 13), type := 0, pos := "ref.go:142", after := #[{ on := 5, ground := Ground.data }, { on := 6, ground := Ground.data }, { on := 4, ground := Ground.guard }], guard := some (4, true) }) (v := undef) rfl (by kernel_rfl) (by kernel_rfl) (by kernel_rfl) (fun _ _ _ h => h) (Or.inr ⟨by rfl, rfl⟩) (by assumption) ?_
          try simp only [Act.put, List.setIfInBounds_toArray, List.set_cons_zero, List.set_cons_succ]
          refine wpAnyH_take (i := 8) (oi := { dst := some 15, op := Op.fieldAddr 178 (Operand.tmp 14) 0, type := 0, pos := "ref.go:142", after := #[{ on := 7, ground := Ground.data }, { on := 4, ground := Ground.guard }], guard := some (4, true) }) (v := undef) rfl (by kernel_rfl) (by kernel_rfl) (by kernel_rfl) (fun _ _ _ h => h) (Or.inr ⟨by rfl, rfl⟩) (by assumption) ?_
          try simp only [Act.put, List.setIfInBounds_toArray, List.set_cons_zero, List.set_cons_succ]
          refine wpAnyH_take (i := 9) (oi := { dst := some 16, op := Op.load 9 (Operand.tmp 15), type := 9, pos := "ref.go:142", after := #[{ on := 8, ground := Ground.data }, { on := 4, ground := Ground.guard }], guard := some (4, true) }) (v := undef) rfl (by kernel_rfl) (by kernel_rfl) (by kernel_rfl) (fun _ _ _ h => h) (Or.inr ⟨by rfl, rfl⟩) (by assumption) ?_
          try simp only [Act.put, List.setIfInBounds_toArray, List.set_cons_zero, List.set_cons_succ]
          refine wpAnyH_take (i := 10) (oi := { dst := some 17, op := Op.fieldAddr 178 (Operand.tmp 3) 0, type := 0, pos := "ref.go:142", after := #[{ on := 4, ground := Ground.guard }], guard := some (4, true) }) (v := undef) rfl (by kernel_rfl) (by kernel_rfl) (by kernel_rfl) (fun _ _ _ h => h) (Or.inr ⟨by rfl, rfl⟩) (by assumption) ?_
          try simp only [Act.put, List.setIfInBounds_toArray, List.set_cons_zero, List.set_cons_succ]
          refine wpAnyH_take (i := 11) (oi := { dst := some 18, op := Op.load 9 (Operand.tmp 17), type := 9, pos := "ref.go:142", after := #[{ on := 10, ground := Ground.data }, { on := 4, ground := Ground.guard }], guard := some (4, true) }) (v := undef) rfl (by kernel_rfl) (by kernel_rfl) (by kernel_rfl) (fun _ _ _ h => h) (Or.inr ⟨by rfl, rfl⟩) (by assumption) ?_
          try simp only [Act.put, List.setIfInBounds_toArray, List.set_cons_zero, List.set_cons_succ]
          refine wpAnyH_take (i := 12) (oi := { dst := some 19, op := Op.binOp BinOp.lss 9 (Operand.tmp 16) (Operand.tmp 18) 9, type := 4, pos := "ref.go:142", after := #[{ on := 9, ground := Ground.data }, { on := 11, ground := Ground.data }, { on := 4, ground := Ground.guard }], guard := some (4, true) }) (v := undef) rfl (by kernel_rfl) (by kernel_rfl) (by kernel_rfl) (fun _ _ _ h => h) (Or.inr ⟨by rfl, rfl⟩) (by assumption) ?_
          try simp only [Act.put, List.setIfInBounds_toArray, List.set_cons_zero, List.set_cons_succ]
          refine wpAnyH_take (i := 13) (oi := { dst := some 20, op := Op.pick (Operand.tmp 11) (Operand.tmp 19) (Operand.const (Value.bool false)), type := 4, pos := "ref.go:142", after := #[{ on := 4, ground := Ground.data }, { on := 12, ground := Ground.data }], guard := none }) (v := ?_) rfl (by kernel_rfl) (by kernel_rfl) (by kernel_rfl) (fun _ _ _ h => h) (Or.inl ⟨by rfl, ?_⟩) (by assumption) ?_
          rotate_left
          · intro w hSw
            try dsimp only at hSw
            go_simp
            try with_reducible rfl
          try simp only [Act.put, List.setIfInBounds_toArray, List.set_cons_zero, List.set_cons_succ]
          refine wpAnyH_done (by kernel_rfl) ?_ _
          go_wp2_with fail
          refine wp_region_held_drew (S := fun _ => True) (by kernel_rfl) (trivial) (fun hHeld => ?_)
          refine wpAnyH_take (i := 0) (oi := { dst := some 26, op := Op.move (Operand.tmp 5), type := 3, pos := "ref.go:146", after := #[], guard := none }) (v := ?_) rfl (by kernel_rfl) (by kernel_rfl) (by kernel_rfl) (fun _ _ _ h => h) (Or.inl ⟨by rfl, ?_⟩) (by assumption) ?_
          rotate_left
          · intro w hSw
            try dsimp only at hSw
            go_simp
            try with_reducible rfl
          try simp only [Act.put, List.setIfInBounds_toArray, List.set_cons_zero, List.set_cons_succ]
          refine wpAnyH_take (i := 1) (oi := { dst := some 27, op := Op.move (Operand.tmp 0), type := 75, pos := "ref.go:146", after := #[], guard := none }) (v := ?_) rfl (by kernel_rfl) (by kernel_rfl) (by kernel_rfl) (fun _ _ _ h => h) (Or.inl ⟨by rfl, ?_⟩) (by assumption) ?_
          rotate_left
          · intro w hSw
            try dsimp only at hSw
            go_simp
            try with_reducible rfl
          try simp only [Act.put, List.setIfInBounds_toArray, List.set_cons_zero, List.set_cons_succ]
          refine wpAnyH_take (i := 2) (oi := { dst := some 28, op := Op.call { callee := Callee.builtin Builtin.len, args := #[Operand.tmp 27], argTypes := #[75] }, type := 3, pos := "ref.go:146", after := #[{ on := 1, ground := Ground.data }], guard := none }) (v := ?_) rfl (by kernel_rfl) (by kernel_rfl) (by kernel_rfl) (fun _ _ _ h => h) (Or.inl ⟨by rfl, ?_⟩) (by assumption) ?_
          rotate_left
          · intro w hSw
            try dsimp only at hSw
            go_simp
            try with_reducible rfl
          try simp only [Act.put, List.setIfInBounds_toArray, List.set_cons_zero, List.set_cons_succ]
          refine wpAnyH_take (i := 3) (oi := { dst := some 29, op := Op.binOp BinOp.lss 3 (Operand.tmp 26) (Operand.tmp 28) 3, type := 4, pos := "ref.go:146", after := #[{ on := 0, ground := Ground.data }, { on := 2, ground := Ground.data }], guard := none }) (v := ?_) rfl (by kernel_rfl) (by kernel_rfl) (by kernel_rfl) (fun _ _ _ h => h) (Or.inl ⟨by rfl, ?_⟩) (by assumption) ?_
          rotate_left
          · intro w hSw
            try dsimp only at hSw
            go_simp
            try with_reducible rfl
          try simp only [Act.put, List.setIfInBounds_toArray, List.set_cons_zero, List.set_cons_succ]
          refine wpAnyH_take (i := 4) (oi := { dst := some 30, op := Op.move (Operand.tmp 29), type := 4, pos := "ref.go:146", after := #[{ on := 3, ground := Ground.data }], guard := none }) (v := ?_) rfl (by kernel_rfl) (by kernel_rfl) (by kernel_rfl) (fun _ _ _ h => h) (Or.inl ⟨by rfl, ?_⟩) (by assumption) ?_
          rotate_left
          · intro w hSw
            try dsimp only at hSw
            go_simp
            try with_reducible rfl
          try simp only [Act.put, List.setIfInBounds_toArray, List.set_cons_zero, List.set_cons_succ]
          refine wpAnyH_take (i := 5) (oi := { dst := some 31, op := Op.move (Operand.tmp 0), type := 75, pos := "ref.go:146", after := #[{ on := 4, ground := Ground.guard }], guard := some (4, true) }) (v := undef) rfl (by kernel_rfl) (by kernel_rfl) (by kernel_rfl) (fun _ _ _ h => h) (Or.inr ⟨by rfl, rfl⟩) (by assumption) ?_
          try simp only [Act.put, List.setIfInBounds_toArray, List.set_cons_zero, List.set_cons_succ]
          refine wpAnyH_take (i := 6) (oi := { dst := some 32, op := Op.move (Operand.tmp 5), type := 3, pos := "ref.go:146", after := #[{ on := 4, ground := Ground.guard }], guard := some (4, true) }) (v := undef) rfl (by kernel_rfl) (by kernel_rfl) (by kernel_rfl) (fun _ _ _ h => h) (Or.inr ⟨by rfl, rfl⟩) (by assumption) ?_
          try simp only [Act.put, List.setIfInBounds_toArray, List.set_cons_zero, List.set_cons_succ]
          refine wpAnyH_take (i := 7) (oi := { dst := some 33, op := Op.indexAddr 75 (Operand.tmp 31) (Operand.tmp 32), type := 0, pos := "ref.go:146", after := #[{ on := 5, ground := Ground.data }, { on := 6, ground := Ground.data }, { on := 4, ground := Ground.guard }], guard := some (4, true) }) (v := undef) rfl (by kernel_rfl) (by kernel_rfl) (by kernel_rfl) (fun _ _ _ h => h) (Or.inr ⟨by rfl, rfl⟩) (by assumption) ?_
          try simp only [Act.put, List.setIfInBounds_toArray, List.set_cons_zero, List.set_cons_succ]
          refine wpAnyH_take (i := 8) (oi := { dst := some 34, op := Op.fieldAddr 178 (Operand.tmp 33) 0, type := 0, pos := "ref.go:146", after := #[{ on := 7, ground := Ground.data }, { on := 4, ground := Ground.guard }], guard := some (4, true) }) (v := undef) rfl (by kernel_rfl) (by kernel_rfl) (by kernel_rfl) (fun _ _ _ h => h) (Or.inr ⟨by rfl, rfl⟩) (by assumption) ?_
          try simp only [Act.put, List.setIfInBounds_toArray, List.set_cons_zero, List.set_cons_succ]
          refine wpAnyH_take (i := 9) (oi := { dst := some 35, op := Op.load 9 (Operand.tmp 34), type := 9, pos := "ref.go:146", after := #[{ on := 8, ground := Ground.data }, { on := 4, ground := Ground.guard }], guard := some (4, true) }) (v := undef) rfl (by kernel_rfl) (by kernel_rfl) (by kernel_rfl) (fun _ _ _ h => h) (Or.inr ⟨by rfl, rfl⟩) (by assumption) ?_
          try simp only [Act.put, List.setIfInBounds_toArray, List.set_cons_zero, List.set_cons_succ]
          refine wpAnyH_take (i := 10) (oi := { dst := some 36, op := Op.fieldAddr 178 (Operand.tmp 3) 0, type := 0, pos := "ref.go:146", after := #[{ on := 4, ground := Ground.guard }], guard := some (4, true) }) (v := undef) rfl (by kernel_rfl) (by kernel_rfl) (by kernel_rfl) (fun _ _ _ h => h) (Or.inr ⟨by rfl, rfl⟩) (by assumption) ?_
          try simp only [Act.put, List.setIfInBounds_toArray, List.set_cons_zero, List.set_cons_succ]
          refine wpAnyH_take (i := 11) (oi := { dst := some 37, op := Op.load 9 (Operand.tmp 36), type := 9, pos := "ref.go:146", after := #[{ on := 10, ground := Ground.data }, { on := 4, ground := Ground.guard }], guard := some (4, true) }) (v := undef) rfl (by kernel_rfl) (by kernel_rfl) (by kernel_rfl) (fun _ _ _ h => h) (Or.inr ⟨by rfl, rfl⟩) (by assumption) ?_
          try simp only [Act.put, List.setIfInBounds_toArray, List.set_cons_zero, List.set_cons_succ]
          refine wpAnyH_take (i := 12) (oi := { dst := some 38, op := Op.binOp BinOp.eql 9 (Operand.tmp 35) (Operand.tmp 37) 9, type := 4, pos := "ref.go:146", after := #[{ on := 9, ground := Ground.data }, { on := 11, ground := Ground.data }, { on := 4, ground := Ground.guard }], guard := some (4, true) }) (v := undef) rfl (by kernel_rfl) (by kernel_rfl) (by kernel_rfl) (fun _ _ _ h => h) (Or.inr ⟨by rfl, rfl⟩) (by assumption) ?_
          try simp only [Act.put, List.setIfInBounds_toArray, List.set_cons_zero, List.set_cons_succ]
          refine wpAnyH_take (i := 13) (oi := { dst := some 39, op := Op.pick (Operand.tmp 30) (Operand.tmp 38) (Operand.const (Value.bool false)), type := 4, pos := "ref.go:146", after := #[{ on := 4, ground := Ground.data }, { on := 12, ground := Ground.data }], guard := none }) (v := ?_) rfl (by kernel_rfl) (by kernel_rfl) (by kernel_rfl) (fun _ _ _ h => h) (Or.inl ⟨by rfl, ?_⟩) (by assumption) ?_
          rotate_left
          · intro w hSw
            try dsimp only at hSw
            go_simp
            try with_reducible rfl
          try simp only [Act.put, List.setIfInBounds_toArray, List.set_cons_zero, List.set_cons_succ]
          refine wpAnyH_done (by kernel_rfl) ?_ _
          go_wp2_with fail
          refine wp_region_held_drew (S := fun Y => Y.cell? ⟨w.heap.size, 0, none⟩ = some (.string key) ∧ Y.cell? ⟨w.heap.size, 1, none⟩ = some (.int .u64 (n : Int)) ∧ Y.cell? ⟨w.heap.size, 2, none⟩ = some (.bool gone)) (by kernel_rfl) (KB.out _ (blThen HB.out (Below.refl wr.heap.size wr)).drew.drew.drew) (fun hHeld => ?_)
          refine wpAnyH_take (i := 1) (oi := { dst := some 45, op := Op.move (Operand.tmp 0), type := 75, pos := "ref.go:149", after := #[], guard := none }) (v := ?_) rfl (by kernel_rfl) (by kernel_rfl) (by kernel_rfl) (fun _ _ _ h => h) (Or.inl ⟨by rfl, ?_⟩) (by assumption) ?_
          rotate_left
          · intro w hSw
            try dsimp only at hSw
            go_simp
            try with_reducible rfl
          try simp only [Act.put, List.setIfInBounds_toArray, List.set_cons_zero, List.set_cons_succ]
          refine wpAnyH_take (i := 2) (oi := { dst := some 46, op := Op.move (Operand.tmp 5), type := 3, pos := "ref.go:149", after := #[], guard := none }) (v := ?_) rfl (by kernel_rfl) (by kernel_rfl) (by kernel_rfl) (fun _ _ _ h => h) (Or.inl ⟨by rfl, ?_⟩) (by assumption) ?_
          rotate_left
          · intro w hSw
            try dsimp only at hSw
            go_simp
            try with_reducible rfl
          try simp only [Act.put, List.setIfInBounds_toArray, List.set_cons_zero, List.set_cons_succ]
          refine wpAnyH_take (i := 3) (oi := { dst := some 47, op := Op.slice 75 (Operand.tmp 45) none (some (Operand.tmp 46)) none, type := 75, pos := "ref.go:149", after := #[{ on := 1, ground := Ground.data }, { on := 2, ground := Ground.data }], guard := none }) (v := ?_) rfl (by kernel_rfl) (by kernel_rfl) (by kernel_rfl) (fun _ _ _ h => h) (Or.inl ⟨by rfl, ?_⟩) (by assumption) ?_
          rotate_left
          · intro w hSw
            try dsimp only at hSw
            go_simp
            try with_reducible rfl
          try simp only [Act.put, List.setIfInBounds_toArray, List.set_cons_zero, List.set_cons_succ]
          refine wpAnyH_take (i := 5) (oi := { dst := some 49, op := Op.load 178 (Operand.tmp 3), type := 178, pos := "ref.go:149", after := #[], guard := none }) (v := ?_) rfl (by kernel_rfl) (by kernel_rfl) (by kernel_rfl) (fun _ _ _ h => h) (Or.inl ⟨by rfl, ?_⟩) (by assumption) ?_
          rotate_left
          · intro w hSw
            try dsimp only at hSw
            go_simp
            try with_reducible rfl
          try simp only [Act.put, List.setIfInBounds_toArray, List.set_cons_zero, List.set_cons_succ]
          refine wpAnyH_take (i := 8) (oi := { dst := some 52, op := Op.move (Operand.tmp 6), type := 75, pos := "ref.go:149", after := #[], guard := none }) (v := ?_) rfl (by kernel_rfl) (by kernel_rfl) (by kernel_rfl) (fun _ _ _ h => h) (Or.inl ⟨by rfl, ?_⟩) (by assumption) ?_
          rotate_left
          · intro w hSw
            try dsimp only at hSw
            go_simp
            try with_reducible rfl
          try simp only [Act.put, List.setIfInBounds_toArray, List.set_cons_zero, List.set_cons_succ]
          refine wpAnyH_ready (rs := [0, 6]) (by kernel_rfl) (by simp) ?_
          refine AllReadyH.cons (o := { dst := some 44, op := Op.buildSlice 75 0 #[], type := 75, pos := "ref.go:149", after := #[], guard := none }) rfl (fun K hK => ?_) (AllReadyH.cons (o := { dst := some 50, op := Op.buildSlice 75 1 #[(0, Operand.tmp 49)], type := 75, pos := "ref.go:149", after := #[{ on := 5, ground := Ground.data }], guard := none }) rfl (fun K hK => ?_) (AllReadyH.nil))
          · go_simp
            have HOE : Hid (OwnWr (wr.drew.drew.drew.alloc (.cells #[] 178)) wr.heap.size (.slice (some ⟨wr.heap.size, 0, none⟩) 0 0) []) := own_emptyG wr.drew.drew.drew 178 _ wr.heap.size (by simp) (by omega)
            refine hK.out _ _ (KB.out _ (blThen HB.out (by repeat (first | with_reducible exact Below.refl _ _ | with_reducible refine blAlloc ?_ _ | with_reducible refine Below.drew ?_)))) (fun hHeld => ?_)
            clear hK K
            try simp only [Act.put, List.setIfInBounds_toArray, List.set_cons_zero, List.set_cons_succ]
            refine wpAnyH_ready (rs := [4, 6]) (by kernel_rfl) (by simp) ?_
            refine AllReadyH.cons (o := { dst := some 48, op := Op.call { callee := Callee.builtin Builtin.append, args := #[Operand.tmp 44, Operand.tmp 47], argTypes := #[75, 75] }, type := 75, pos := "ref.go:149", after := #[{ on := 0, ground := Ground.data }, { on := 3, ground := Ground.data }], guard := none }) rfl (fun K hK => ?_) (AllReadyH.cons (o := { dst := some 50, op := Op.buildSlice 75 1 #[(0, Operand.tmp 49)], type := 75, pos := "ref.go:149", after := #[{ on := 5, ground := Ground.data }], guard := none }) rfl (fun K hK => ?_) (AllReadyH.nil))
            · refine wp_append_G 75 _ 32 info_wr Tryz.underlying75 rfl (by decide) _ _ rfl wr.heap.size _ [] rfl HOE.out _ (d.take k) rfl (HTK.out.later (by repeat (first | with_reducible exact Below.refl _ _ | with_reducible refine blAlloc ?_ _ | with_reducible refine Below.drew ?_))) (by have := HLT.out; simp only [List.length_nil]; omega) ((by repeat (first | with_reducible exact Below.refl _ _ | with_reducible refine blAlloc ?_ _ | with_reducible refine Below.drew ?_)) : Below wr.heap.size wr (wr.drew.drew.drew.alloc (.cells #[] 178))).size ?_
              intro v3 w3 h1 h2
              rw [List.nil_append] at h1
              have HB3 : Hid (Below wr.heap.size wr w3) := grown_belowG ((by repeat (first | with_reducible exact Below.refl _ _ | with_reducible refine blAlloc ?_ _ | with_reducible refine Below.drew ?_)) : Below wr.heap.size wr (wr.drew.drew.drew.alloc (.cells #[] 178))) HOE.out (Nat.le_refl _) ((by repeat (first | with_reducible exact Below.refl _ _ | with_reducible refine blAlloc ?_ _ | with_reducible refine Below.drew ?_)) : Below wr.heap.size wr (wr.drew.drew.drew.alloc (.cells #[] 178))).size h2
              have HO3 := Lib.hid h1
              clear h1 h2 HOE
              refine hK.out _ _ (KB.out _ (blThen HB.out HB3.out)) (fun hHeld => ?_)
              clear hK K
              try simp only [Act.put, List.setIfInBounds_toArray, List.set_cons_zero, List.set_cons_succ]
              refine wpAnyH_ready (rs := [6]) (by kernel_rfl) (by simp) ?_
              refine AllReadyH.cons (o := { dst := some 50, op := Op.buildSlice 75 1 #[(0, Operand.tmp 49)], type := 75, pos := "ref.go:149", after := #[{ on := 5, ground := Ground.data }], guard := none }) rfl (fun K hK => ?_) (AllReadyH.nil)
              go_simp
              have HC : Hid (SlG eW (w3.alloc (.cells #[.string key, .int .u64 (n : Int), .bool gone] 178)) (.slice (some ⟨w3.heap.size, 0, none⟩) 1 1) [(key, n, gone)]) := one_G eW w3 _ (key, n, gone) _ _ rfl (by simp)
              have HO3 := Lib.hid (HO3.out.later (blAlloc (Below.refl w3.heap.size w3) (.cells #[.string key, .int .u64 (n : Int), .bool gone] 178)))
              refine hK.out _ _ (KB.out _ (blThen HB.out (by repeat (first | with_reducible exact HB3.out | with_reducible exact Below.refl _ _ | with_reducible refine blAlloc ?_ _ | with_reducible refine Below.drew ?_)))) (fun hHeld => ?_)
              clear hK K
              try simp only [Act.put, List.setIfInBounds_toArray, List.set_cons_zero, List.set_cons_succ]
              refine wpAnyH_ready (rs := [7]) (by kernel_rfl) (by simp) ?_
              refine AllReadyH.cons (o := { dst := some 51, op := Op.call { callee := Callee.builtin Builtin.append, args := #[Operand.tmp 48, Operand.tmp 50], argTypes := #[75, 75] }, type := 75, pos := "ref.go:149", after := #[{ on := 4, ground := Ground.data }, { on := 6, ground := Ground.data }, { on := 4, ground := Ground.chain }], guard := none }) rfl (fun K hK => ?_) (AllReadyH.nil)
              refine wp_append_G 75 _ 32 info_wr Tryz.underlying75 rfl (by decide) _ _ rfl wr.heap.size _ (d.take k) rfl HO3.out _ [(key, n, gone)] rfl HC.out (by have := HLT.out; simp only [List.length_cons, List.length_nil]; omega) ((by repeat (first | with_reducible exact HB3.out | with_reducible exact Below.refl _ _ | with_reducible refine blAlloc ?_ _ | with_reducible refine Below.drew ?_)) : Below wr.heap.size wr (w3.alloc (.cells #[.string key, .int .u64 (n : Int), .bool gone] 178))).size ?_
              intro v4 w4 h1 h2
              have HB4 : Hid (Below wr.heap.size wr w4) := grown_belowG ((by repeat (first | with_reducible exact HB3.out | with_reducible exact Below.refl _ _ | with_reducible refine blAlloc ?_ _ | with_reducible refine Below.drew ?_)) : Below wr.heap.size wr (w3.alloc (.cells #[.string key, .int .u64 (n : Int), .bool gone] 178))) HO3.out (Nat.le_refl _) ((by repeat (first | with_reducible exact HB3.out | with_reducible exact Below.refl _ _ | with_reducible refine blAlloc ?_ _ | with_reducible refine Below.drew ?_)) : Below wr.heap.size wr (w3.alloc (.cells #[.string key, .int .u64 (n : Int), .bool gone] 178))).size h2
              have HO4 := Lib.hid h1
              clear h1 h2
              refine hK.out _ _ (KB.out _ (blThen HB.out HB4.out)) (fun hHeld => ?_)
              clear hK K
              try simp only [Act.put, List.setIfInBounds_toArray, List.set_cons_zero, List.set_cons_succ]
              refine wpAnyH_ready (rs := [9]) (by kernel_rfl) (by simp) ?_
              refine AllReadyH.cons (o := { dst := some 53, op := Op.call { callee := Callee.builtin Builtin.append, args := #[Operand.tmp 51, Operand.tmp 52], argTypes := #[75, 75] }, type := 75, pos := "ref.go:149", after := #[{ on := 7, ground := Ground.data }, { on := 8, ground := Ground.data }, { on := 7, ground := Ground.chain }], guard := none }) rfl (fun K hK => ?_) (AllReadyH.nil)
              refine wp_append_G 75 _ 32 info_wr Tryz.underlying75 rfl (by decide) _ _ rfl wr.heap.size _ (d.take k ++ [(key, n, gone)]) rfl HO4.out _ (d.drop k) rfl (HR.out _ HB4.out) (by have := HLT.out; have := HLR.out; simp only [List.length_append, List.length_cons, List.length_nil]; omega) HB4.out.size ?_
              intro v5 w5 h1 h2
              have HB5 : Hid (Below wr.heap.size wr w5) := grown_belowG HB4.out HO4.out (Nat.le_refl _) HB4.out.size h2
              have HO5 := Lib.hid h1
              clear h1 h2
              refine hK.out _ _ (KB.out _ (blThen HB.out HB5.out)) (fun hHeld => ?_)
              clear hK K
              try simp only [Act.put, List.setIfInBounds_toArray, List.set_cons_zero, List.set_cons_succ]
              refine wpAnyH_take (i := 10) (oi := { dst := some 4, op := Op.assign (Operand.tmp 53), type := 75, pos := "ref.go:149", after := #[{ on := 9, ground := Ground.data }, { on := 9, ground := Ground.chain }, { on := 0, ground := Ground.phase }, { on := 1, ground := Ground.phase }, { on := 2, ground := Ground.phase }, { on := 3, ground := Ground.phase }, { on := 4, ground := Ground.phase }, { on := 5, ground := Ground.phase }, { on := 6, ground := Ground.phase }, { on := 7, ground := Ground.phase }, { on := 8, ground := Ground.phase }, { on := 9, ground := Ground.phase }], guard := none }) (v := ?_) rfl (by kernel_rfl) (by kernel_rfl) (by kernel_rfl) (fun _ _ _ h => h) (Or.inl ⟨by rfl, ?_⟩) (by assumption) ?_
              rotate_left
              · intro w hSw
                try dsimp only at hSw
                go_simp
                try with_reducible rfl
              try simp only [Act.put, List.setIfInBounds_toArray, List.set_cons_zero, List.set_cons_succ]
              refine wpAnyH_done (by kernel_rfl) ?_ _
              go_wp2
              go_ret
              exact ⟨_, rfl, by rw [HV.out]; exact HO5.out.mono (blThen HB0.out HB.out).size, blThen (blThen HB0.out HB.out) HB5.out⟩
            · go_simp
              have HC : Hid (SlG eW ((wr.drew.drew.drew.alloc (.cells #[] 178)).alloc (.cells #[.string key, .int .u64 (n : Int), .bool gone] 178)) (.slice (some ⟨wr.heap.size + 1, 0, none⟩) 1 1) [(key, n, gone)]) := one_G eW (wr.drew.drew.drew.alloc (.cells #[] 178)) _ (key, n, gone) _ _ rfl (by simp)
              have HOE := Lib.hid (HOE.out.later (blAlloc (Below.refl (wr.drew.drew.drew.alloc (.cells #[] 178)).heap.size (wr.drew.drew.drew.alloc (.cells #[] 178))) (.cells #[.string key, .int .u64 (n : Int), .bool gone] 178)))
              refine hK.out _ _ (KB.out _ (blThen HB.out (by repeat (first | with_reducible exact Below.refl _ _ | with_reducible refine blAlloc ?_ _ | with_reducible refine Below.drew ?_)))) (fun hHeld => ?_)
              clear hK K
              try simp only [Act.put, List.setIfInBounds_toArray, List.set_cons_zero, List.set_cons_succ]
              refine wpAnyH_ready (rs := [4]) (by kernel_rfl) (by simp) ?_
              refine AllReadyH.cons (o := { dst := some 48, op := Op.call { callee := Callee.builtin Builtin.append, args := #[Operand.tmp 44, Operand.tmp 47], argTypes := #[75, 75] }, type := 75, pos := "ref.go:149", after := #[{ on := 0, ground := Ground.data }, { on := 3, ground := Ground.data }], guard := none }) rfl (fun K hK => ?_) (AllReadyH.nil)
              refine wp_append_G 75 _ 32 info_wr Tryz.underlying75 rfl (by decide) _ _ rfl wr.heap.size _ [] rfl HOE.out _ (d.take k) rfl (HTK.out.later (by repeat (first | with_reducible exact Below.refl _ _ | with_reducible refine blAlloc ?_ _ | with_reducible refine Below.drew ?_))) (by have := HLT.out; simp only [List.length_nil]; omega) ((by repeat (first | with_reducible exact Below.refl _ _ | with_reducible refine blAlloc ?_ _ | with_reducible refine Below.drew ?_)) : Below wr.heap.size wr ((wr.drew.drew.drew.alloc (.cells #[] 178)).alloc (.cells #[.string key, .int .u64 (n : Int), .bool gone] 178))).size ?_
              intro v3 w3 h1 h2
              rw [List.nil_append] at h1
              have HB3 : Hid (Below wr.heap.size wr w3) := grown_belowG ((by repeat (first | with_reducible exact Below.refl _ _ | with_reducible refine blAlloc ?_ _ | with_reducible refine Below.drew ?_)) : Below wr.heap.size wr ((wr.drew.drew.drew.alloc (.cells #[] 178)).alloc (.cells #[.string key, .int .u64 (n : Int), .bool gone] 178))) HOE.out (Nat.le_refl _) ((by repeat (first | with_reducible exact Below.refl _ _ | with_reducible refine blAlloc ?_ _ | with_reducible refine Below.drew ?_)) : Below wr.heap.size wr ((wr.drew.drew.drew.alloc (.cells #[] 178)).alloc (.cells #[.string key, .int .u64 (n : Int), .bool gone] 178))).size h2
              have h3 : (((wr.drew.drew.drew.alloc (.cells #[] 178)).alloc (.cells #[.string key, .int .u64 (n : Int), .bool gone] 178))).grownBy w3 (some (wr.heap.size)) := h2
              have HC := Lib.hid (HC.out.kept h3 (by simp))
              clear h3
              have HO3 := Lib.hid h1
              clear h1 h2 HOE
              refine hK.out _ _ (KB.out _ (blThen HB.out HB3.out)) (fun hHeld => ?_)
              clear hK K
              try simp only [Act.put, List.setIfInBounds_toArray, List.set_cons_zero, List.set_cons_succ]
              refine wpAnyH_ready (rs := [7]) (by kernel_rfl) (by simp) ?_
              refine AllReadyH.cons (o := { dst := some 51, op := Op.call { callee := Callee.builtin Builtin.append, args := #[Operand.tmp 48, Operand.tmp 50], argTypes := #[75, 75] }, type := 75, pos := "ref.go:149", after := #[{ on := 4, ground := Ground.data }, { on := 6, ground := Ground.data }, { on := 4, ground := Ground.chain }], guard := none }) rfl (fun K hK => ?_) (AllReadyH.nil)
              refine wp_append_G 75 _ 32 info_wr Tryz.underlying75 rfl (by decide) _ _ rfl wr.heap.size _ (d.take k) rfl HO3.out _ [(key, n, gone)] rfl HC.out (by have := HLT.out; simp only [List.length_cons, List.length_nil]; omega) ((by repeat (first | with_reducible exact HB3.out | with_reducible exact Below.refl _ _ | with_reducible refine blAlloc ?_ _ | with_reducible refine Below.drew ?_)) : Below wr.heap.size wr w3).size ?_
              intro v4 w4 h1 h2
              have HB4 : Hid (Below wr.heap.size wr w4) := grown_belowG ((by repeat (first | with_reducible exact HB3.out | with_reducible exact Below.refl _ _ | with_reducible refine blAlloc ?_ _ | with_reducible refine Below.drew ?_)) : Below wr.heap.size wr w3) HO3.out (Nat.le_refl _) ((by repeat (first | with_reducible exact HB3.out | with_reducible exact Below.refl _ _ | with_reducible refine blAlloc ?_ _ | with_reducible refine Below.drew ?_)) : Below wr.heap.size wr w3).size h2
              have HO4 := Lib.hid h1
              clear h1 h2
              refine hK.out _ _ (KB.out _ (blThen HB.out HB4.out)) (fun hHeld => ?_)
              clear hK K
              try simp only [Act.put, List.setIfInBounds_toArray, List.set_cons_zero, List.set_cons_succ]
              refine wpAnyH_ready (rs := [9]) (by kernel_rfl) (by simp) ?_
              refine AllReadyH.cons (o := { dst := some 53, op := Op.call { callee := Callee.builtin Builtin.append, args := #[Operand.tmp 51, Operand.tmp 52], argTypes := #[75, 75] }, type := 75, pos := "ref.go:149", after := #[{ on := 7, ground := Ground.data }, { on := 8, ground := Ground.data }, { on := 7, ground := Ground.chain }], guard := none }) rfl (fun K hK => ?_) (AllReadyH.nil)
              refine wp_append_G 75 _ 32 info_wr Tryz.underlying75 rfl (by decide) _ _ rfl wr.heap.size _ (d.take k ++ [(key, n, gone)]) rfl HO4.out _ (d.drop k) rfl (HR.out _ HB4.out) (by have := HLT.out; have := HLR.out; simp only [List.length_append, List.length_cons, List.length_nil]; omega) HB4.out.size ?_
              intro v5 w5 h1 h2
              have HB5 : Hid (Below wr.heap.size wr w5) := grown_belowG HB4.out HO4.out (Nat.le_refl _) HB4.out.size h2
              have HO5 := Lib.hid h1
              clear h1 h2
              refine hK.out _ _ (KB.out _ (blThen HB.out HB5.out)) (fun hHeld => ?_)
              clear hK K
              try simp only [Act.put, List.setIfInBounds_toArray, List.set_cons_zero, List.set_cons_succ]
              refine wpAnyH_take (i := 10) (oi := { dst := some 4, op := Op.assign (Operand.tmp 53), type := 75, pos := "ref.go:149", after := #[{ on := 9, ground := Ground.data }, { on := 9, ground := Ground.chain }, { on := 0, ground := Ground.phase }, { on := 1, ground := Ground.phase }, { on := 2, ground := Ground.phase }, { on := 3, ground := Ground.phase }, { on := 4, ground := Ground.phase }, { on := 5, ground := Ground.phase }, { on := 6, ground := Ground.phase }, { on := 7, ground := Ground.phase }, { on := 8, ground := Ground.phase }, { on := 9, ground := Ground.phase }], guard := none }) (v := ?_) rfl (by kernel_rfl) (by kernel_rfl) (by kernel_rfl) (fun _ _ _ h => h) (Or.inl ⟨by rfl, ?_⟩) (by assumption) ?_
              rotate_left
              · intro w hSw
                try dsimp only at hSw
                go_simp
                try with_reducible rfl
              try simp only [Act.put, List.setIfInBounds_toArray, List.set_cons_zero, List.set_cons_succ]
              refine wpAnyH_done (by kernel_rfl) ?_ _
              go_wp2
              go_ret
              exact ⟨_, rfl, by rw [HV.out]; exact HO5.out.mono (blThen HB0.out HB.out).size, blThen (blThen HB0.out HB.out) HB5.out⟩
          · go_simp
            have HC : Hid (SlG eW (wr.drew.drew.drew.alloc (.cells #[.string key, .int .u64 (n : Int), .bool gone] 178)) (.slice (some ⟨wr.heap.size, 0, none⟩) 1 1) [(key, n, gone)]) := one_G eW wr.drew.drew.drew _ (key, n, gone) _ _ rfl (by simp)
            refine hK.out _ _ (KB.out _ (blThen HB.out (by repeat (first | with_reducible exact Below.refl _ _ | with_reducible refine blAlloc ?_ _ | with_reducible refine Below.drew ?_)))) (fun hHeld => ?_)
            clear hK K
            try simp only [Act.put, List.setIfInBounds_toArray, List.set_cons_zero, List.set_cons_succ]
            refine wpAnyH_ready (rs := [0]) (by kernel_rfl) (by simp) ?_
            refine AllReadyH.cons (o := { dst := some 44, op := Op.buildSlice 75 0 #[], type := 75, pos := "ref.go:149", after := #[], guard := none }) rfl (fun K hK => ?_) (AllReadyH.nil)
            go_simp
            have HOE : Hid (OwnWr ((wr.drew.drew.drew.alloc (.cells #[.string key, .int .u64 (n : Int), .bool gone] 178)).alloc (.cells #[] 178)) wr.heap.size (.slice (some ⟨wr.heap.size + 1, 0, none⟩) 0 0) []) := own_emptyG (wr.drew.drew.drew.alloc (.cells #[.string key, .int .u64 (n : Int), .bool gone] 178)) 178 _ wr.heap.size (by simp) (by omega)
            have HC := Lib.hid (HC.out.later (blAlloc (Below.refl (wr.drew.drew.drew.alloc (.cells #[.string key, .int .u64 (n : Int), .bool gone] 178)).heap.size (wr.drew.drew.drew.alloc (.cells #[.string key, .int .u64 (n : Int), .bool gone] 178))) (.cells #[] 178)))
            refine hK.out _ _ (KB.out _ (blThen HB.out (by repeat (first | with_reducible exact Below.refl _ _ | with_reducible refine blAlloc ?_ _ | with_reducible refine Below.drew ?_)))) (fun hHeld => ?_)
            clear hK K
            try simp only [Act.put, List.setIfInBounds_toArray, List.set_cons_zero, List.set_cons_succ]
            refine wpAnyH_ready (rs := [4]) (by kernel_rfl) (by simp) ?_
            refine AllReadyH.cons (o := { dst := some 48, op := Op.call { callee := Callee.builtin Builtin.append, args := #[Operand.tmp 44, Operand.tmp 47], argTypes := #[75, 75] }, type := 75, pos := "ref.go:149", after := #[{ on := 0, ground := Ground.data }, { on := 3, ground := Ground.data }], guard := none }) rfl (fun K hK => ?_) (AllReadyH.nil)
            refine wp_append_G 75 _ 32 info_wr Tryz.underlying75 rfl (by decide) _ _ rfl wr.heap.size _ [] rfl HOE.out _ (d.take k) rfl (HTK.out.later (by repeat (first | with_reducible exact Below.refl _ _ | with_reducible refine blAlloc ?_ _ | with_reducible refine Below.drew ?_))) (by have := HLT.out; simp only [List.length_nil]; omega) ((by repeat (first | with_reducible exact Below.refl _ _ | with_reducible refine blAlloc ?_ _ | with_reducible refine Below.drew ?_)) : Below wr.heap.size wr ((wr.drew.drew.drew.alloc (.cells #[.string key, .int .u64 (n : Int), .bool gone] 178)).alloc (.cells #[] 178))).size ?_
            intro v3 w3 h1 h2
            rw [List.nil_append] at h1
            have HB3 : Hid (Below wr.heap.size wr w3) := grown_belowG ((by repeat (first | with_reducible exact Below.refl _ _ | with_reducible refine blAlloc ?_ _ | with_reducible refine Below.drew ?_)) : Below wr.heap.size wr ((wr.drew.drew.drew.alloc (.cells #[.string key, .int .u64 (n : Int), .bool gone] 178)).alloc (.cells #[] 178))) HOE.out (Nat.le_refl _) ((by repeat (first | with_reducible exact Below.refl _ _ | with_reducible refine blAlloc ?_ _ | with_reducible refine Below.drew ?_)) : Below wr.heap.size wr ((wr.drew.drew.drew.alloc (.cells #[.string key, .int .u64 (n : Int), .bool gone] 178)).alloc (.cells #[] 178))).size h2
            have h3 : (((wr.drew.drew.drew.alloc (.cells #[.string key, .int .u64 (n : Int), .bool gone] 178)).alloc (.cells #[] 178))).grownBy w3 (some (wr.heap.size + 1)) := h2
            have HC := Lib.hid (HC.out.kept h3 (by simp))
            clear h3
            have HO3 := Lib.hid h1
            clear h1 h2 HOE
            refine hK.out _ _ (KB.out _ (blThen HB.out HB3.out)) (fun hHeld => ?_)
            clear hK K
            try simp only [Act.put, List.setIfInBounds_toArray, List.set_cons_zero, List.set_cons_succ]
            refine wpAnyH_ready (rs := [7]) (by kernel_rfl) (by simp) ?_
            refine AllReadyH.cons (o := { dst := some 51, op := Op.call { callee := Callee.builtin Builtin.append, args := #[Operand.tmp 48, Operand.tmp 50], argTypes := #[75, 75] }, type := 75, pos := "ref.go:149", after := #[{ on := 4, ground := Ground.data }, { on := 6, ground := Ground.data }, { on := 4, ground := Ground.chain }], guard := none }) rfl (fun K hK => ?_) (AllReadyH.nil)
            refine wp_append_G 75 _ 32 info_wr Tryz.underlying75 rfl (by decide) _ _ rfl wr.heap.size _ (d.take k) rfl HO3.out _ [(key, n, gone)] rfl HC.out (by have := HLT.out; simp only [List.length_cons, List.length_nil]; omega) ((by repeat (first | with_reducible exact HB3.out | with_reducible exact Below.refl _ _ | with_reducible refine blAlloc ?_ _ | with_reducible refine Below.drew ?_)) : Below wr.heap.size wr w3).size ?_
            intro v4 w4 h1 h2
            have HB4 : Hid (Below wr.heap.size wr w4) := grown_belowG ((by repeat (first | with_reducible exact HB3.out | with_reducible exact Below.refl _ _ | with_reducible refine blAlloc ?_ _ | with_reducible refine Below.drew ?_)) : Below wr.heap.size wr w3) HO3.out (Nat.le_refl _) ((by repeat (first | with_reducible exact HB3.out | with_reducible exact Below.refl _ _ | with_reducible refine blAlloc ?_ _ | with_reducible refine Below.drew ?_)) : Below wr.heap.size wr w3).size h2
            have HO4 := Lib.hid h1
            clear h1 h2
            refine hK.out _ _ (KB.out _ (blThen HB.out HB4.out)) (fun hHeld => ?_)
            clear hK K
            try simp only [Act.put, List.setIfInBounds_toArray, List.set_cons_zero, List.set_cons_succ]
            refine wpAnyH_ready (rs := [9]) (by kernel_rfl) (by simp) ?_
            refine AllReadyH.cons (o := { dst := some 53, op := Op.call { callee := Callee.builtin Builtin.append, args := #[Operand.tmp 51, Operand.tmp 52], argTypes := #[75, 75] }, type := 75, pos := "ref.go:149", after := #[{ on := 7, ground := Ground.data }, { on := 8, ground := Ground.data }, { on := 7, ground := Ground.chain }], guard := none }) rfl (fun K hK => ?_) (AllReadyH.nil)
            refine wp_append_G 75 _ 32 info_wr Tryz.underlying75 rfl (by decide) _ _ rfl wr.heap.size _ (d.take k ++ [(key, n, gone)]) rfl HO4.out _ (d.drop k) rfl (HR.out _ HB4.out) (by have := HLT.out; have := HLR.out; simp only [List.length_append, List.length_cons, List.length_nil]; omega) HB4.out.size ?_
            intro v5 w5 h1 h2
            have HB5 : Hid (Below wr.heap.size wr w5) := grown_belowG HB4.out HO4.out (Nat.le_refl _) HB4.out.size h2
            have HO5 := Lib.hid h1
            clear h1 h2
            refine hK.out _ _ (KB.out _ (blThen HB.out HB5.out)) (fun hHeld => ?_)
            clear hK K
            try simp only [Act.put, List.setIfInBounds_toArray, List.set_cons_zero, List.set_cons_succ]
            refine wpAnyH_take (i := 10) (oi := { dst := some 4, op := Op.assign (Operand.tmp 53), type := 75, pos := "ref.go:149", after := #[{ on := 9, ground := Ground.data }, { on := 9, ground := Ground.chain }, { on := 0, ground := Ground.phase }, { on := 1, ground := Ground.phase }, { on := 2, ground := Ground.phase }, { on := 3, ground := Ground.phase }, { on := 4, ground := Ground.phase }, { on := 5, ground := Ground.phase }, { on := 6, ground := Ground.phase }, { on := 7, ground := Ground.phase }, { on := 8, ground := Ground.phase }, { on := 9, ground := Ground.phase }], guard := none }) (v := ?_) rfl (by kernel_rfl) (by kernel_rfl) (by kernel_rfl) (fun _ _ _ h => h) (Or.inl ⟨by rfl, ?_⟩) (by assumption) ?_
            rotate_left
            · intro w hSw
              try dsimp only at hSw
              go_simp
              try with_reducible rfl
            try simp only [Act.put, List.setIfInBounds_toArray, List.set_cons_zero, List.set_cons_succ]
            refine wpAnyH_done (by kernel_rfl) ?_ _
            go_wp2
            go_ret
            exact ⟨_, rfl, by rw [HV.out]; exact HO5.out.mono (blThen HB0.out HB.out).size, blThen (blThen HB0.out HB.out) HB5.out⟩
end SP
end Go.Proofs.YtjlkgbejldcklaaGreat
