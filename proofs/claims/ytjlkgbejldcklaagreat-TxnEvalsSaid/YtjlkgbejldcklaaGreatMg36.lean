/- Apply of the reference. Conditions: data of at most ten thousand pairs, at most a thousand writes. -/
import Derived.Deep.RegionHeld3
import Derived.WalkSpells
import Derived.Test.YtjlkgbejldcklaaGreatMg35
set_option linter.unusedVariables false
set_option linter.unusedSimpArgs false
namespace Go.Proofs.YtjlkgbejldcklaaGreat
open S3 SN
namespace SP
open Go.ChangeShapes Go.WideShapes Go.ChangeAt Go.RowKit Go.Joins Go.Deep
theorem info_pr : (Tryz.prog.info? 92).map (fun i => (i.zero, i.size, i.bytes)) = some (some (.agg #[.string ⟨#[]⟩, .int .u64 0]), eP.K, 24) := by kernel_rfl
theorem info_wr : (Tryz.prog.info? 178).map (fun i => (i.zero, i.size, i.bytes)) = some (some (.agg #[.string ⟨#[]⟩, .int .u64 0, .bool false]), eW.K, 32) := by kernel_rfl
theorem info_an : (Tryz.prog.info? 96).map (fun i => (i.zero, i.size, i.bytes)) = some (some (.agg #[.bool false, .int .u64 0, .slice none 0 0]), eA.K, 40) := by kernel_rfl
theorem info_op : (Tryz.prog.info? 94).map (fun i => (i.zero, i.size, i.bytes)) = some (some (.agg #[.int .i64 0, .string ⟨#[]⟩, .string ⟨#[]⟩, .int .u64 0]), eO.K, 48) := by kernel_rfl
abbrev OwnPr := OwnG eP 92
abbrev OwnWr := OwnG eW 178
abbrev OwnAn := OwnG eA 96
abbrev OwnOp := OwnG eO 94
def RetPr (w : World) (r : Al Nat) (e : Ending) (w' : World) : Prop := ∃ v, e = .returned v ∧ OwnPr w' w.heap.size v r ∧ Below w.heap.size w w'
theorem one_G {α : Type} (E : Enc α) (X : World) (t : TypeId) (x : α) (n : Nat) (cs : Array Value) (hcs : cs = (E.enc x).toArray) (h : X.heap.size = n) : SlG E (X.alloc (.cells cs t)) (.slice (some ⟨n, 0, none⟩) 1 1) [x] := by
  subst h
  subst hcs
  refine ⟨_, 1, rfl, fun h => (by cases h), fun _ => ⟨X.heap.size, 0, rfl, by simp, fun i y hi j u hu => ?_⟩⟩
  have hb : (X.alloc (.cells (E.enc x).toArray t)).heap[X.heap.size]? = some (.cells (E.enc x).toArray t (0, 0)) := by
    show (X.heap.push _)[X.heap.size]? = _
    simp
  cases i with
  | zero =>
    simp only [List.getElem?_cons_zero, Option.some.injEq] at hi
    subst hi
    simp only [World.cell?, hb]
    rw [Nat.zero_mul, Nat.add_zero, Nat.zero_add, List.getElem?_toArray]
    exact hu
  | succ i => simp at hi
set_option maxRecDepth 100000 in
set_option maxHeartbeats 4000000 in
theorem rfind_any (va : Value) (l : Al Nat) (key : ByteArray) (w : World) (hlen : l.length ≤ 1000000) (ha : SlG eP w va l) : Calls Tryz.prog 219 #[va, .string key] w fun e w' => e = .returned (.tuple #[.int .i64 (fndA l key : Nat), .bool (thereA l key)]) ∧ Below w.heap.size w w' := by
  obtain ⟨a, cap, rfl⟩ := ha.form
  have HL := Lib.hid ha
  clear ha
  generalize hq0 : fndA l key = Q
  generalize ht0 : thereA l key = TH
  have HQ0 := Lib.hid hq0
  have HT0 := Lib.hid ht0
  clear hq0 ht0
  go_enter Tryz.func219, Tryz.ntmps219
  go_wp2_with fail
  go_loopw [6] (fun i wr => ∃ k : Nat, k ≤ l.length ∧ i = .int .i64 k ∧ (∀ (j : Nat) p, j < k → l[j]? = some p → ltT p.1 key = true) ∧ Below w.heap.size w wr) (fun i _ => l.length - (intOf i).toNat)
  case atStart => exact ⟨0, Nat.zero_le _, rfl, fun j p h => by omega, Below.refl _ _⟩
  case round =>
    obtain ⟨k, hk, rfl, hlow, hb⟩ := hrel
    have HB := Lib.hid hb
    have HLOW := Lib.hid hlow
    clear hb hlow
    by_cases hlt : k < l.length
    · obtain ⟨⟨pk, pn⟩, hx⟩ := at_lt hlt
      have HX := Lib.hid hx
      have HLr := HL.out.later HB.out
      obtain ⟨g, o, hA, hg, c0, c1⟩ := prs_at HLr hx
      simp only at c0 c1
      have hk1 : (k : Int) < (l.length : Int) := by omega
      have hk0 : (0 : Int) ≤ (k : Int) := by omega
      have hdk : decide ((k : Int) < (l.length : Int)) = true := decide_eq_true hk1
      have hdn : decide (k < l.length) = true := decide_eq_true hlt
      clear hx HLr
      subst hA
      cases hL : ltT pk key
      · have t1 : Op.bytesLess pk.toList key.toList = false := hL
        have HQ : Hid (fndA l key = k) := fndA_is hk HLOW.out fun p hp => by
          rw [HX.out] at hp
          cases hp
          exact hL
        have hTH : thereA l key = (pk.toList == key.toList) := thereA_of (p := (pk, pn)) (by rw [HQ.out]; exact HX.out)
        obtain rfl : k = Q := HQ.out.symm.trans HQ0.out
        have hTE := HT0.out.symm.trans hTH
        clear HLOW HX hTH
        cases hE : pk.toList == key.toList
        · rw [hE] at hTE
          subst hTE
          go_wp2
          refine wp_region_held_drew (S := fun Y => Y.cell? ⟨g, o + k * 2, none⟩ = some (.string pk)) (by kernel_rfl) (c0) (fun hHeld => ?_)
          refine wpAnyH_take (i := 0) (oi := { dst := some 22, op := Op.move (Operand.tmp 6), type := 3, pos := "ref.go:94", after := #[], guard := none }) (v := ?_) rfl (by kernel_rfl) (by kernel_rfl) (by kernel_rfl) (fun _ _ _ h => h) (Or.inl ⟨by rfl, ?_⟩) (by assumption) ?_
          rotate_left
          · intro w hSw
            try dsimp only at hSw
            go_simp
            try with_reducible rfl
          try simp only [Act.put, List.setIfInBounds_toArray, List.set_cons_zero, List.set_cons_succ]
          refine wpAnyH_take (i := 1) (oi := { dst := some 23, op := Op.move (Operand.tmp 6), type := 3, pos := "ref.go:94", after := #[], guard := none }) (v := ?_) rfl (by kernel_rfl) (by kernel_rfl) (by kernel_rfl) (fun _ _ _ h => h) (Or.inl ⟨by rfl, ?_⟩) (by assumption) ?_
          rotate_left
          · intro w hSw
            try dsimp only at hSw
            go_simp
            try with_reducible rfl
          try simp only [Act.put, List.setIfInBounds_toArray, List.set_cons_zero, List.set_cons_succ]
          refine wpAnyH_take (i := 2) (oi := { dst := some 24, op := Op.move (Operand.tmp 0), type := 71, pos := "ref.go:94", after := #[], guard := none }) (v := ?_) rfl (by kernel_rfl) (by kernel_rfl) (by kernel_rfl) (fun _ _ _ h => h) (Or.inl ⟨by rfl, ?_⟩) (by assumption) ?_
          rotate_left
          · intro w hSw
            try dsimp only at hSw
            go_simp
            try with_reducible rfl
          try simp only [Act.put, List.setIfInBounds_toArray, List.set_cons_zero, List.set_cons_succ]
          refine wpAnyH_take (i := 3) (oi := { dst := some 25, op := Op.call { callee := Callee.builtin Builtin.len, args := #[Operand.tmp 24], argTypes := #[71] }, type := 3, pos := "ref.go:94", after := #[{ on := 2, ground := Ground.data }], guard := none }) (v := ?_) rfl (by kernel_rfl) (by kernel_rfl) (by kernel_rfl) (fun _ _ _ h => h) (Or.inl ⟨by rfl, ?_⟩) (by assumption) ?_
          rotate_left
          · intro w hSw
            try dsimp only at hSw
            go_simp
            try with_reducible rfl
          try simp only [Act.put, List.setIfInBounds_toArray, List.set_cons_zero, List.set_cons_succ]
          refine wpAnyH_take (i := 4) (oi := { dst := some 26, op := Op.binOp BinOp.lss 3 (Operand.tmp 23) (Operand.tmp 25) 3, type := 4, pos := "ref.go:94", after := #[{ on := 1, ground := Ground.data }, { on := 3, ground := Ground.data }], guard := none }) (v := ?_) rfl (by kernel_rfl) (by kernel_rfl) (by kernel_rfl) (fun _ _ _ h => h) (Or.inl ⟨by rfl, ?_⟩) (by assumption) ?_
          rotate_left
          · intro w hSw
            try dsimp only at hSw
            go_simp
            try with_reducible rfl
          try simp only [Act.put, List.setIfInBounds_toArray, List.set_cons_zero, List.set_cons_succ]
          refine wpAnyH_take (i := 5) (oi := { dst := some 27, op := Op.move (Operand.tmp 26), type := 4, pos := "ref.go:94", after := #[{ on := 4, ground := Ground.data }], guard := none }) (v := ?_) rfl (by kernel_rfl) (by kernel_rfl) (by kernel_rfl) (fun _ _ _ h => h) (Or.inl ⟨by rfl, ?_⟩) (by assumption) ?_
          rotate_left
          · intro w hSw
            try dsimp only at hSw
            go_simp
            try with_reducible rfl
          try simp only [Act.put, List.setIfInBounds_toArray, List.set_cons_zero, List.set_cons_succ]
          refine wpAnyH_take (i := 6) (oi := { dst := some 28, op := Op.move (Operand.tmp 0), type := 71, pos := "ref.go:94", after := #[{ on := 5, ground := Ground.guard }, { on := 14, ground := Ground.gcOnly Departure.lateStores }], guard := some (5, true) }) (v := ?_) rfl (by kernel_rfl) (by kernel_rfl) (by kernel_rfl) (fun _ _ _ h => h) (Or.inl ⟨by rfl, ?_⟩) (by assumption) ?_
          rotate_left
          · intro w hSw
            try dsimp only at hSw
            go_simp
            try with_reducible rfl
          try simp only [Act.put, List.setIfInBounds_toArray, List.set_cons_zero, List.set_cons_succ]
          refine wpAnyH_take (i := 7) (oi := { dst := some 29, op := Op.move (Operand.tmp 6), type := 3, pos := "ref.go:94", after := #[{ on := 5, ground := Ground.guard }, { on := 14, ground := Ground.gcOnly Departure.lateStores }], guard := some (5, true) }) (v := ?_) rfl (by kernel_rfl) (by kernel_rfl) (by kernel_rfl) (fun _ _ _ h => h) (Or.inl ⟨by rfl, ?_⟩) (by assumption) ?_
          rotate_left
          · intro w hSw
            try dsimp only at hSw
            go_simp
            try with_reducible rfl
          try simp only [Act.put, List.setIfInBounds_toArray, List.set_cons_zero, List.set_cons_succ]
          refine wpAnyH_take (i := 8) (oi := { dst := some 30, op := Op.indexAddr 71 (Operand.tmp 28) (Operand.tmp 29), type := 0, pos := "ref.go:94", after := #[{ on := 6, ground := Ground.data }, { on := 7, ground := Ground.data }, { on := 5, ground := Ground.guard }, { on := 14, ground := Ground.gcOnly Departure.lateStores }], guard := some (5, true) }) (v := ?_) rfl (by kernel_rfl) (by kernel_rfl) (by kernel_rfl) (fun _ _ _ h => h) (Or.inl ⟨by rfl, ?_⟩) (by assumption) ?_
          rotate_left
          · intro w hSw
            try dsimp only at hSw
            go_simp
            try with_reducible rfl
          try simp only [Act.put, List.setIfInBounds_toArray, List.set_cons_zero, List.set_cons_succ]
          refine wpAnyH_take (i := 9) (oi := { dst := some 31, op := Op.fieldAddr 92 (Operand.tmp 30) 0, type := 0, pos := "ref.go:94", after := #[{ on := 8, ground := Ground.data }, { on := 5, ground := Ground.guard }, { on := 14, ground := Ground.gcOnly Departure.lateStores }], guard := some (5, true) }) (v := ?_) rfl (by kernel_rfl) (by kernel_rfl) (by kernel_rfl) (fun _ _ _ h => h) (Or.inl ⟨by rfl, ?_⟩) (by assumption) ?_
          rotate_left
          · intro w hSw
            try dsimp only at hSw
            go_simp
            try with_reducible rfl
          try simp only [Act.put, List.setIfInBounds_toArray, List.set_cons_zero, List.set_cons_succ]
          refine wpAnyH_take (i := 10) (oi := { dst := some 32, op := Op.load 9 (Operand.tmp 31), type := 9, pos := "ref.go:94", after := #[{ on := 9, ground := Ground.data }, { on := 5, ground := Ground.guard }, { on := 14, ground := Ground.gcOnly Departure.lateStores }], guard := some (5, true) }) (v := ?_) rfl (by kernel_rfl) (by kernel_rfl) (by kernel_rfl) (fun _ _ _ h => h) (Or.inl ⟨by rfl, ?_⟩) (by assumption) ?_
          rotate_left
          · intro w hSw
            try dsimp only at hSw
            go_simp
            try with_reducible rfl
          try simp only [Act.put, List.setIfInBounds_toArray, List.set_cons_zero, List.set_cons_succ]
          refine wpAnyH_take (i := 11) (oi := { dst := some 33, op := Op.move (Operand.tmp 1), type := 9, pos := "ref.go:94", after := #[{ on := 5, ground := Ground.guard }, { on := 14, ground := Ground.gcOnly Departure.lateStores }], guard := some (5, true) }) (v := ?_) rfl (by kernel_rfl) (by kernel_rfl) (by kernel_rfl) (fun _ _ _ h => h) (Or.inl ⟨by rfl, ?_⟩) (by assumption) ?_
          rotate_left
          · intro w hSw
            try dsimp only at hSw
            go_simp
            try with_reducible rfl
          try simp only [Act.put, List.setIfInBounds_toArray, List.set_cons_zero, List.set_cons_succ]
          refine wpAnyH_take (i := 12) (oi := { dst := some 34, op := Op.binOp BinOp.eql 9 (Operand.tmp 32) (Operand.tmp 33) 9, type := 4, pos := "ref.go:94", after := #[{ on := 10, ground := Ground.data }, { on := 11, ground := Ground.data }, { on := 5, ground := Ground.guard }, { on := 14, ground := Ground.gcOnly Departure.lateStores }], guard := some (5, true) }) (v := ?_) rfl (by kernel_rfl) (by kernel_rfl) (by kernel_rfl) (fun _ _ _ h => h) (Or.inl ⟨by rfl, ?_⟩) (by assumption) ?_
          rotate_left
          · intro w hSw
            try dsimp only at hSw
            go_simp
            try with_reducible rfl
          try simp only [Act.put, List.setIfInBounds_toArray, List.set_cons_zero, List.set_cons_succ]
          refine wpAnyH_take (i := 13) (oi := { dst := some 35, op := Op.pick (Operand.tmp 27) (Operand.tmp 34) (Operand.const (Value.bool false)), type := 4, pos := "ref.go:94", after := #[{ on := 5, ground := Ground.data }, { on := 12, ground := Ground.data }, { on := 14, ground := Ground.gcOnly Departure.lateStores }], guard := none }) (v := ?_) rfl (by kernel_rfl) (by kernel_rfl) (by kernel_rfl) (fun _ _ _ h => h) (Or.inl ⟨by rfl, ?_⟩) (by assumption) ?_
          rotate_left
          · intro w hSw
            try dsimp only at hSw
            go_simp
            try with_reducible rfl
          try simp only [Act.put, List.setIfInBounds_toArray, List.set_cons_zero, List.set_cons_succ]
          refine wpAnyH_take (i := 14) (oi := { dst := some 4, op := Op.assign (Operand.tmp 22), type := 3, pos := "ref.go:94", after := #[{ on := 0, ground := Ground.data }, { on := 5, ground := Ground.chain }, { on := 0, ground := Ground.phase }, { on := 1, ground := Ground.textOnly Departure.lateStores }, { on := 2, ground := Ground.textOnly Departure.lateStores }, { on := 3, ground := Ground.textOnly Departure.lateStoresUnsure }, { on := 4, ground := Ground.textOnly Departure.lateStores }, { on := 5, ground := Ground.textOnly Departure.lateStores }, { on := 6, ground := Ground.textOnly Departure.lateStores }, { on := 7, ground := Ground.textOnly Departure.lateStores }, { on := 8, ground := Ground.textOnly Departure.lateStores }, { on := 9, ground := Ground.textOnly Departure.lateStores }, { on := 10, ground := Ground.textOnly Departure.lateStores }, { on := 11, ground := Ground.textOnly Departure.lateStores }, { on := 12, ground := Ground.textOnly Departure.lateStores }, { on := 13, ground := Ground.textOnly Departure.lateStores }], guard := none }) (v := ?_) rfl (by kernel_rfl) (by kernel_rfl) (by kernel_rfl) (fun _ _ _ h => h) (Or.inl ⟨by rfl, ?_⟩) (by assumption) ?_
          rotate_left
          · intro w hSw
            try dsimp only at hSw
            go_simp
            try with_reducible rfl
          try simp only [Act.put, List.setIfInBounds_toArray, List.set_cons_zero, List.set_cons_succ]
          refine wpAnyH_take (i := 15) (oi := { dst := some 5, op := Op.assign (Operand.tmp 35), type := 4, pos := "ref.go:94", after := #[{ on := 13, ground := Ground.data }, { on := 14, ground := Ground.chain }, { on := 0, ground := Ground.phase }, { on := 1, ground := Ground.phase }, { on := 2, ground := Ground.phase }, { on := 3, ground := Ground.phase }, { on := 4, ground := Ground.phase }, { on := 5, ground := Ground.phase }, { on := 6, ground := Ground.phase }, { on := 7, ground := Ground.phase }, { on := 8, ground := Ground.phase }, { on := 9, ground := Ground.phase }, { on := 10, ground := Ground.phase }, { on := 11, ground := Ground.phase }, { on := 12, ground := Ground.phase }, { on := 13, ground := Ground.phase }, { on := 14, ground := Ground.phase }], guard := none }) (v := ?_) rfl (by kernel_rfl) (by kernel_rfl) (by kernel_rfl) (fun _ _ _ h => h) (Or.inl ⟨by rfl, ?_⟩) (by assumption) ?_
          rotate_left
          · intro w hSw
            try dsimp only at hSw
            go_simp
            try with_reducible rfl
          try simp only [Act.put, List.setIfInBounds_toArray, List.set_cons_zero, List.set_cons_succ]
          refine wpAnyH_done (by kernel_rfl) ?_ _
          go_wp2
          go_ret2
          exact ⟨rfl, HB.out.drew⟩
        · rw [hE] at hTE
          subst hTE
          go_wp2
          refine wp_region_held_drew (S := fun Y => Y.cell? ⟨g, o + k * 2, none⟩ = some (.string pk)) (by kernel_rfl) (c0) (fun hHeld => ?_)
          refine wpAnyH_take (i := 0) (oi := { dst := some 22, op := Op.move (Operand.tmp 6), type := 3, pos := "ref.go:94", after := #[], guard := none }) (v := ?_) rfl (by kernel_rfl) (by kernel_rfl) (by kernel_rfl) (fun _ _ _ h => h) (Or.inl ⟨by rfl, ?_⟩) (by assumption) ?_
          rotate_left
          · intro w hSw
            try dsimp only at hSw
            go_simp
            try with_reducible rfl
          try simp only [Act.put, List.setIfInBounds_toArray, List.set_cons_zero, List.set_cons_succ]
          refine wpAnyH_take (i := 1) (oi := { dst := some 23, op := Op.move (Operand.tmp 6), type := 3, pos := "ref.go:94", after := #[], guard := none }) (v := ?_) rfl (by kernel_rfl) (by kernel_rfl) (by kernel_rfl) (fun _ _ _ h => h) (Or.inl ⟨by rfl, ?_⟩) (by assumption) ?_
          rotate_left
          · intro w hSw
            try dsimp only at hSw
            go_simp
            try with_reducible rfl
          try simp only [Act.put, List.setIfInBounds_toArray, List.set_cons_zero, List.set_cons_succ]
          refine wpAnyH_take (i := 2) (oi := { dst := some 24, op := Op.move (Operand.tmp 0), type := 71, pos := "ref.go:94", after := #[], guard := none }) (v := ?_) rfl (by kernel_rfl) (by kernel_rfl) (by kernel_rfl) (fun _ _ _ h => h) (Or.inl ⟨by rfl, ?_⟩) (by assumption) ?_
          rotate_left
          · intro w hSw
            try dsimp only at hSw
            go_simp
            try with_reducible rfl
          try simp only [Act.put, List.setIfInBounds_toArray, List.set_cons_zero, List.set_cons_succ]
          refine wpAnyH_take (i := 3) (oi := { dst := some 25, op := Op.call { callee := Callee.builtin Builtin.len, args := #[Operand.tmp 24], argTypes := #[71] }, type := 3, pos := "ref.go:94", after := #[{ on := 2, ground := Ground.data }], guard := none }) (v := ?_) rfl (by kernel_rfl) (by kernel_rfl) (by kernel_rfl) (fun _ _ _ h => h) (Or.inl ⟨by rfl, ?_⟩) (by assumption) ?_
          rotate_left
          · intro w hSw
            try dsimp only at hSw
            go_simp
            try with_reducible rfl
          try simp only [Act.put, List.setIfInBounds_toArray, List.set_cons_zero, List.set_cons_succ]
          refine wpAnyH_take (i := 4) (oi := { dst := some 26, op := Op.binOp BinOp.lss 3 (Operand.tmp 23) (Operand.tmp 25) 3, type := 4, pos := "ref.go:94", after := #[{ on := 1, ground := Ground.data }, { on := 3, ground := Ground.data }], guard := none }) (v := ?_) rfl (by kernel_rfl) (by kernel_rfl) (by kernel_rfl) (fun _ _ _ h => h) (Or.inl ⟨by rfl, ?_⟩) (by assumption) ?_
          rotate_left
          · intro w hSw
            try dsimp only at hSw
            go_simp
            try with_reducible rfl
          try simp only [Act.put, List.setIfInBounds_toArray, List.set_cons_zero, List.set_cons_succ]
          refine wpAnyH_take (i := 5) (oi := { dst := some 27, op := Op.move (Operand.tmp 26), type := 4, pos := "ref.go:94", after := #[{ on := 4, ground := Ground.data }], guard := none }) (v := ?_) rfl (by kernel_rfl) (by kernel_rfl) (by kernel_rfl) (fun _ _ _ h => h) (Or.inl ⟨by rfl, ?_⟩) (by assumption) ?_
          rotate_left
          · intro w hSw
            try dsimp only at hSw
            go_simp
            try with_reducible rfl
          try simp only [Act.put, List.setIfInBounds_toArray, List.set_cons_zero, List.set_cons_succ]
          refine wpAnyH_take (i := 6) (oi := { dst := some 28, op := Op.move (Operand.tmp 0), type := 71, pos := "ref.go:94", after := #[{ on := 5, ground := Ground.guard }, { on := 14, ground := Ground.gcOnly Departure.lateStores }], guard := some (5, true) }) (v := ?_) rfl (by kernel_rfl) (by kernel_rfl) (by kernel_rfl) (fun _ _ _ h => h) (Or.inl ⟨by rfl, ?_⟩) (by assumption) ?_
          rotate_left
          · intro w hSw
            try dsimp only at hSw
            go_simp
            try with_reducible rfl
          try simp only [Act.put, List.setIfInBounds_toArray, List.set_cons_zero, List.set_cons_succ]
          refine wpAnyH_take (i := 7) (oi := { dst := some 29, op := Op.move (Operand.tmp 6), type := 3, pos := "ref.go:94", after := #[{ on := 5, ground := Ground.guard }, { on := 14, ground := Ground.gcOnly Departure.lateStores }], guard := some (5, true) }) (v := ?_) rfl (by kernel_rfl) (by kernel_rfl) (by kernel_rfl) (fun _ _ _ h => h) (Or.inl ⟨by rfl, ?_⟩) (by assumption) ?_
          rotate_left
          · intro w hSw
            try dsimp only at hSw
            go_simp
            try with_reducible rfl
          try simp only [Act.put, List.setIfInBounds_toArray, List.set_cons_zero, List.set_cons_succ]
          refine wpAnyH_take (i := 8) (oi := { dst := some 30, op := Op.indexAddr 71 (Operand.tmp 28) (Operand.tmp 29), type := 0, pos := "ref.go:94", after := #[{ on := 6, ground := Ground.data }, { on := 7, ground := Ground.data }, { on := 5, ground := Ground.guard }, { on := 14, ground := Ground.gcOnly Departure.lateStores }], guard := some (5, true) }) (v := ?_) rfl (by kernel_rfl) (by kernel_rfl) (by kernel_rfl) (fun _ _ _ h => h) (Or.inl ⟨by rfl, ?_⟩) (by assumption) ?_
          rotate_left
          · intro w hSw
            try dsimp only at hSw
            go_simp
            try with_reducible rfl
          try simp only [Act.put, List.setIfInBounds_toArray, List.set_cons_zero, List.set_cons_succ]
          refine wpAnyH_take (i := 9) (oi := { dst := some 31, op := Op.fieldAddr 92 (Operand.tmp 30) 0, type := 0, pos := "ref.go:94", after := #[{ on := 8, ground := Ground.data }, { on := 5, ground := Ground.guard }, { on := 14, ground := Ground.gcOnly Departure.lateStores }], guard := some (5, true) }) (v := ?_) rfl (by kernel_rfl) (by kernel_rfl) (by kernel_rfl) (fun _ _ _ h => h) (Or.inl ⟨by rfl, ?_⟩) (by assumption) ?_
          rotate_left
          · intro w hSw
            try dsimp only at hSw
            go_simp
            try with_reducible rfl
          try simp only [Act.put, List.setIfInBounds_toArray, List.set_cons_zero, List.set_cons_succ]
          refine wpAnyH_take (i := 10) (oi := { dst := some 32, op := Op.load 9 (Operand.tmp 31), type := 9, pos := "ref.go:94", after := #[{ on := 9, ground := Ground.data }, { on := 5, ground := Ground.guard }, { on := 14, ground := Ground.gcOnly Departure.lateStores }], guard := some (5, true) }) (v := ?_) rfl (by kernel_rfl) (by kernel_rfl) (by kernel_rfl) (fun _ _ _ h => h) (Or.inl ⟨by rfl, ?_⟩) (by assumption) ?_
          rotate_left
          · intro w hSw
            try dsimp only at hSw
            go_simp
            try with_reducible rfl
          try simp only [Act.put, List.setIfInBounds_toArray, List.set_cons_zero, List.set_cons_succ]
          refine wpAnyH_take (i := 11) (oi := { dst := some 33, op := Op.move (Operand.tmp 1), type := 9, pos := "ref.go:94", after := #[{ on := 5, ground := Ground.guard }, { on := 14, ground := Ground.gcOnly Departure.lateStores }], guard := some (5, true) }) (v := ?_) rfl (by kernel_rfl) (by kernel_rfl) (by kernel_rfl) (fun _ _ _ h => h) (Or.inl ⟨by rfl, ?_⟩) (by assumption) ?_
          rotate_left
          · intro w hSw
            try dsimp only at hSw
            go_simp
            try with_reducible rfl
          try simp only [Act.put, List.setIfInBounds_toArray, List.set_cons_zero, List.set_cons_succ]
          refine wpAnyH_take (i := 12) (oi := { dst := some 34, op := Op.binOp BinOp.eql 9 (Operand.tmp 32) (Operand.tmp 33) 9, type := 4, pos := "ref.go:94", after := #[{ on := 10, ground := Ground.data }, { on := 11, ground := Ground.data }, { on := 5, ground := Ground.guard }, { on := 14, ground := Ground.gcOnly Departure.lateStores }], guard := some (5, true) }) (v := ?_) rfl (by kernel_rfl) (by kernel_rfl) (by kernel_rfl) (fun _ _ _ h => h) (Or.inl ⟨by rfl, ?_⟩) (by assumption) ?_
          rotate_left
          · intro w hSw
            try dsimp only at hSw
            go_simp
            try with_reducible rfl
          try simp only [Act.put, List.setIfInBounds_toArray, List.set_cons_zero, List.set_cons_succ]
          refine wpAnyH_take (i := 13) (oi := { dst := some 35, op := Op.pick (Operand.tmp 27) (Operand.tmp 34) (Operand.const (Value.bool false)), type := 4, pos := "ref.go:94", after := #[{ on := 5, ground := Ground.data }, { on := 12, ground := Ground.data }, { on := 14, ground := Ground.gcOnly Departure.lateStores }], guard := none }) (v := ?_) rfl (by kernel_rfl) (by kernel_rfl) (by kernel_rfl) (fun _ _ _ h => h) (Or.inl ⟨by rfl, ?_⟩) (by assumption) ?_
          rotate_left
          · intro w hSw
            try dsimp only at hSw
            go_simp
            try with_reducible rfl
          try simp only [Act.put, List.setIfInBounds_toArray, List.set_cons_zero, List.set_cons_succ]
          refine wpAnyH_take (i := 14) (oi := { dst := some 4, op := Op.assign (Operand.tmp 22), type := 3, pos := "ref.go:94", after := #[{ on := 0, ground := Ground.data }, { on := 5, ground := Ground.chain }, { on := 0, ground := Ground.phase }, { on := 1, ground := Ground.textOnly Departure.lateStores }, { on := 2, ground := Ground.textOnly Departure.lateStores }, { on := 3, ground := Ground.textOnly Departure.lateStoresUnsure }, { on := 4, ground := Ground.textOnly Departure.lateStores }, { on := 5, ground := Ground.textOnly Departure.lateStores }, { on := 6, ground := Ground.textOnly Departure.lateStores }, { on := 7, ground := Ground.textOnly Departure.lateStores }, { on := 8, ground := Ground.textOnly Departure.lateStores }, { on := 9, ground := Ground.textOnly Departure.lateStores }, { on := 10, ground := Ground.textOnly Departure.lateStores }, { on := 11, ground := Ground.textOnly Departure.lateStores }, { on := 12, ground := Ground.textOnly Departure.lateStores }, { on := 13, ground := Ground.textOnly Departure.lateStores }], guard := none }) (v := ?_) rfl (by kernel_rfl) (by kernel_rfl) (by kernel_rfl) (fun _ _ _ h => h) (Or.inl ⟨by rfl, ?_⟩) (by assumption) ?_
          rotate_left
          · intro w hSw
            try dsimp only at hSw
            go_simp
            try with_reducible rfl
          try simp only [Act.put, List.setIfInBounds_toArray, List.set_cons_zero, List.set_cons_succ]
          refine wpAnyH_take (i := 15) (oi := { dst := some 5, op := Op.assign (Operand.tmp 35), type := 4, pos := "ref.go:94", after := #[{ on := 13, ground := Ground.data }, { on := 14, ground := Ground.chain }, { on := 0, ground := Ground.phase }, { on := 1, ground := Ground.phase }, { on := 2, ground := Ground.phase }, { on := 3, ground := Ground.phase }, { on := 4, ground := Ground.phase }, { on := 5, ground := Ground.phase }, { on := 6, ground := Ground.phase }, { on := 7, ground := Ground.phase }, { on := 8, ground := Ground.phase }, { on := 9, ground := Ground.phase }, { on := 10, ground := Ground.phase }, { on := 11, ground := Ground.phase }, { on := 12, ground := Ground.phase }, { on := 13, ground := Ground.phase }, { on := 14, ground := Ground.phase }], guard := none }) (v := ?_) rfl (by kernel_rfl) (by kernel_rfl) (by kernel_rfl) (fun _ _ _ h => h) (Or.inl ⟨by rfl, ?_⟩) (by assumption) ?_
          rotate_left
          · intro w hSw
            try dsimp only at hSw
            go_simp
            try with_reducible rfl
          try simp only [Act.put, List.setIfInBounds_toArray, List.set_cons_zero, List.set_cons_succ]
          refine wpAnyH_done (by kernel_rfl) ?_ _
          go_wp2
          go_ret2
          exact ⟨rfl, HB.out.drew⟩
      · have t1 : Op.bytesLess pk.toList key.toList = true := hL
        have HT : Hid (∀ (j : Nat) p, j < k + 1 → l[j]? = some p → ltT p.1 key = true) := by
          intro j p hj hp
          by_cases e : j = k
          · subst e
            rw [HX.out] at hp
            cases hp
            exact hL
          · exact HLOW.out j p (by omega) hp
        go_wp2
        go_roundw
        case rel => exact ⟨k + 1, hlt, by go_num, HT.out, HB.out⟩
        case measure => simp [intOf]; omega
    · have hge : ¬ (k : Int) < (l.length : Int) := by omega
      have hdk : decide ((k : Int) < (l.length : Int)) = false := decide_eq_false hge
      have hdn : decide (k < l.length) = false := decide_eq_false hlt
      have HQ : Hid (fndA l key = k) := fndA_is hk HLOW.out fun p hp => by
        have := (List.getElem?_eq_some_iff.1 hp).1
        omega
      have hTH : thereA l key = false := thereA_none (by rw [HQ.out]; omega)
      obtain rfl : k = Q := HQ.out.symm.trans HQ0.out
      obtain rfl : TH = false := HT0.out.symm.trans hTH
      clear hTH
      go_wp2
      refine wp_region_held_drew (S := fun Y => True) (by kernel_rfl) (trivial) (fun hHeld => ?_)
      refine wpAnyH_take (i := 0) (oi := { dst := some 22, op := Op.move (Operand.tmp 6), type := 3, pos := "ref.go:94", after := #[], guard := none }) (v := ?_) rfl (by kernel_rfl) (by kernel_rfl) (by kernel_rfl) (fun _ _ _ h => h) (Or.inl ⟨by rfl, ?_⟩) (by assumption) ?_
      rotate_left
      · intro w hSw
        try dsimp only at hSw
        go_simp
        try with_reducible rfl
      try simp only [Act.put, List.setIfInBounds_toArray, List.set_cons_zero, List.set_cons_succ]
      refine wpAnyH_take (i := 1) (oi := { dst := some 23, op := Op.move (Operand.tmp 6), type := 3, pos := "ref.go:94", after := #[], guard := none }) (v := ?_) rfl (by kernel_rfl) (by kernel_rfl) (by kernel_rfl) (fun _ _ _ h => h) (Or.inl ⟨by rfl, ?_⟩) (by assumption) ?_
      rotate_left
      · intro w hSw
        try dsimp only at hSw
        go_simp
        try with_reducible rfl
      try simp only [Act.put, List.setIfInBounds_toArray, List.set_cons_zero, List.set_cons_succ]
      refine wpAnyH_take (i := 2) (oi := { dst := some 24, op := Op.move (Operand.tmp 0), type := 71, pos := "ref.go:94", after := #[], guard := none }) (v := ?_) rfl (by kernel_rfl) (by kernel_rfl) (by kernel_rfl) (fun _ _ _ h => h) (Or.inl ⟨by rfl, ?_⟩) (by assumption) ?_
      rotate_left
      · intro w hSw
        try dsimp only at hSw
        go_simp
        try with_reducible rfl
      try simp only [Act.put, List.setIfInBounds_toArray, List.set_cons_zero, List.set_cons_succ]
      refine wpAnyH_take (i := 3) (oi := { dst := some 25, op := Op.call { callee := Callee.builtin Builtin.len, args := #[Operand.tmp 24], argTypes := #[71] }, type := 3, pos := "ref.go:94", after := #[{ on := 2, ground := Ground.data }], guard := none }) (v := ?_) rfl (by kernel_rfl) (by kernel_rfl) (by kernel_rfl) (fun _ _ _ h => h) (Or.inl ⟨by rfl, ?_⟩) (by assumption) ?_
      rotate_left
      · intro w hSw
        try dsimp only at hSw
        go_simp
        try with_reducible rfl
      try simp only [Act.put, List.setIfInBounds_toArray, List.set_cons_zero, List.set_cons_succ]
      refine wpAnyH_take (i := 4) (oi := { dst := some 26, op := Op.binOp BinOp.lss 3 (Operand.tmp 23) (Operand.tmp 25) 3, type := 4, pos := "ref.go:94", after := #[{ on := 1, ground := Ground.data }, { on := 3, ground := Ground.data }], guard := none }) (v := ?_) rfl (by kernel_rfl) (by kernel_rfl) (by kernel_rfl) (fun _ _ _ h => h) (Or.inl ⟨by rfl, ?_⟩) (by assumption) ?_
      rotate_left
      · intro w hSw
        try dsimp only at hSw
        go_simp
        try with_reducible rfl
      try simp only [Act.put, List.setIfInBounds_toArray, List.set_cons_zero, List.set_cons_succ]
      refine wpAnyH_take (i := 5) (oi := { dst := some 27, op := Op.move (Operand.tmp 26), type := 4, pos := "ref.go:94", after := #[{ on := 4, ground := Ground.data }], guard := none }) (v := ?_) rfl (by kernel_rfl) (by kernel_rfl) (by kernel_rfl) (fun _ _ _ h => h) (Or.inl ⟨by rfl, ?_⟩) (by assumption) ?_
      rotate_left
      · intro w hSw
        try dsimp only at hSw
        go_simp
        try with_reducible rfl
      try simp only [Act.put, List.setIfInBounds_toArray, List.set_cons_zero, List.set_cons_succ]
      refine wpAnyH_take (i := 6) (oi := { dst := some 28, op := Op.move (Operand.tmp 0), type := 71, pos := "ref.go:94", after := #[{ on := 5, ground := Ground.guard }, { on := 14, ground := Ground.gcOnly Departure.lateStores }], guard := some (5, true) }) (v := undef) rfl (by kernel_rfl) (by kernel_rfl) (by kernel_rfl) (fun _ _ _ h => h) (Or.inr ⟨by rfl, rfl⟩) (by assumption) ?_
      try simp only [Act.put, List.setIfInBounds_toArray, List.set_cons_zero, List.set_cons_succ]
      refine wpAnyH_take (i := 7) (oi := { dst := some 29, op := Op.move (Operand.tmp 6), type := 3, pos := "ref.go:94", after := #[{ on := 5, ground := Ground.guard }, { on := 14, ground := Ground.gcOnly Departure.lateStores }], guard := some (5, true) }) (v := undef) rfl (by kernel_rfl) (by kernel_rfl) (by kernel_rfl) (fun _ _ _ h => h) (Or.inr ⟨by rfl, rfl⟩) (by assumption) ?_
      try simp only [Act.put, List.setIfInBounds_toArray, List.set_cons_zero, List.set_cons_succ]
      refine wpAnyH_take (i := 8) (oi := { dst := some 30, op := Op.indexAddr 71 (Operand.tmp 28) (Operand.tmp 29), type := 0, pos := "ref.go:94", after := #[{ on := 6, ground := Ground.data }, { on := 7, ground := Ground.data }, { on := 5, ground := Ground.guard }, { on := 14, ground := Ground.gcOnly Departure.lateStores }], guard := some (5, true) }) (v := undef) rfl (by kernel_rfl) (by kernel_rfl) (by kernel_rfl) (fun _ _ _ h => h) (Or.inr ⟨by rfl, rfl⟩) (by assumption) ?_
      try simp only [Act.put, List.setIfInBounds_toArray, List.set_cons_zero, List.set_cons_succ]
      refine wpAnyH_take (i := 9) (oi := { dst := some 31, op := Op.fieldAddr 92 (Operand.tmp 30) 0, type := 0, pos := "ref.go:94", after := #[{ on := 8, ground := Ground.data }, { on := 5, ground := Ground.guard }, { on := 14, ground := Ground.gcOnly Departure.lateStores }], guard := some (5, true) }) (v := undef) rfl (by kernel_rfl) (by kernel_rfl) (by kernel_rfl) (fun _ _ _ h => h) (Or.inr ⟨by rfl, rfl⟩) (by assumption) ?_
      try simp only [Act.put, List.setIfInBounds_toArray, List.set_cons_zero, List.set_cons_succ]
      refine wpAnyH_take (i := 10) (oi := { dst := some 32, op := Op.load 9 (Operand.tmp 31), type := 9, pos := "ref.go:94", after := #[{ on := 9, ground := Ground.data }, { on := 5, ground := Ground.guard }, { on := 14, ground := Ground.gcOnly Departure.lateStores }], guard := some (5, true) }) (v := undef) rfl (by kernel_rfl) (by kernel_rfl) (by kernel_rfl) (fun _ _ _ h => h) (Or.inr ⟨by rfl, rfl⟩) (by assumption) ?_
      try simp only [Act.put, List.setIfInBounds_toArray, List.set_cons_zero, List.set_cons_succ]
      refine wpAnyH_take (i := 11) (oi := { dst := some 33, op := Op.move (Operand.tmp 1), type := 9, pos := "ref.go:94", after := #[{ on := 5, ground := Ground.guard }, { on := 14, ground := Ground.gcOnly Departure.lateStores }], guard := some (5, true) }) (v := undef) rfl (by kernel_rfl) (by kernel_rfl) (by kernel_rfl) (fun _ _ _ h => h) (Or.inr ⟨by rfl, rfl⟩) (by assumption) ?_
      try simp only [Act.put, List.setIfInBounds_toArray, List.set_cons_zero, List.set_cons_succ]
      refine wpAnyH_take (i := 12) (oi := { dst := some 34, op := Op.binOp BinOp.eql 9 (Operand.tmp 32) (Operand.tmp 33) 9, type := 4, pos := "ref.go:94", after := #[{ on := 10, ground := Ground.data }, { on := 11, ground := Ground.data }, { on := 5, ground := Ground.guard }, { on := 14, ground := Ground.gcOnly Departure.lateStores }], guard := some (5, true) }) (v := undef) rfl (by kernel_rfl) (by kernel_rfl) (by kernel_rfl) (fun _ _ _ h => h) (Or.inr ⟨by rfl, rfl⟩) (by assumption) ?_
      try simp only [Act.put, List.setIfInBounds_toArray, List.set_cons_zero, List.set_cons_succ]
      refine wpAnyH_take (i := 13) (oi := { dst := some 35, op := Op.pick (Operand.tmp 27) (Operand.tmp 34) (Operand.const (Value.bool false)), type := 4, pos := "ref.go:94", after := #[{ on := 5, ground := Ground.data }, { on := 12, ground := Ground.data }, { on := 14, ground := Ground.gcOnly Departure.lateStores }], guard := none }) (v := ?_) rfl (by kernel_rfl) (by kernel_rfl) (by kernel_rfl) (fun _ _ _ h => h) (Or.inl ⟨by rfl, ?_⟩) (by assumption) ?_
      rotate_left
      · intro w hSw
        try dsimp only at hSw
        go_simp
        try with_reducible rfl
      try simp only [Act.put, List.setIfInBounds_toArray, List.set_cons_zero, List.set_cons_succ]
      refine wpAnyH_take (i := 14) (oi := { dst := some 4, op := Op.assign (Operand.tmp 22), type := 3, pos := "ref.go:94", after := #[{ on := 0, ground := Ground.data }, { on := 5, ground := Ground.chain }, { on := 0, ground := Ground.phase }, { on := 1, ground := Ground.textOnly Departure.lateStores }, { on := 2, ground := Ground.textOnly Departure.lateStores }, { on := 3, ground := Ground.textOnly Departure.lateStoresUnsure }, { on := 4, ground := Ground.textOnly Departure.lateStores }, { on := 5, ground := Ground.textOnly Departure.lateStores }, { on := 6, ground := Ground.textOnly Departure.lateStores }, { on := 7, ground := Ground.textOnly Departure.lateStores }, { on := 8, ground := Ground.textOnly Departure.lateStores }, { on := 9, ground := Ground.textOnly Departure.lateStores }, { on := 10, ground := Ground.textOnly Departure.lateStores }, { on := 11, ground := Ground.textOnly Departure.lateStores }, { on := 12, ground := Ground.textOnly Departure.lateStores }, { on := 13, ground := Ground.textOnly Departure.lateStores }], guard := none }) (v := ?_) rfl (by kernel_rfl) (by kernel_rfl) (by kernel_rfl) (fun _ _ _ h => h) (Or.inl ⟨by rfl, ?_⟩) (by assumption) ?_
      rotate_left
      · intro w hSw
        try dsimp only at hSw
        go_simp
        try with_reducible rfl
      try simp only [Act.put, List.setIfInBounds_toArray, List.set_cons_zero, List.set_cons_succ]
      refine wpAnyH_take (i := 15) (oi := { dst := some 5, op := Op.assign (Operand.tmp 35), type := 4, pos := "ref.go:94", after := #[{ on := 13, ground := Ground.data }, { on := 14, ground := Ground.chain }, { on := 0, ground := Ground.phase }, { on := 1, ground := Ground.phase }, { on := 2, ground := Ground.phase }, { on := 3, ground := Ground.phase }, { on := 4, ground := Ground.phase }, { on := 5, ground := Ground.phase }, { on := 6, ground := Ground.phase }, { on := 7, ground := Ground.phase }, { on := 8, ground := Ground.phase }, { on := 9, ground := Ground.phase }, { on := 10, ground := Ground.phase }, { on := 11, ground := Ground.phase }, { on := 12, ground := Ground.phase }, { on := 13, ground := Ground.phase }, { on := 14, ground := Ground.phase }], guard := none }) (v := ?_) rfl (by kernel_rfl) (by kernel_rfl) (by kernel_rfl) (fun _ _ _ h => h) (Or.inl ⟨by rfl, ?_⟩) (by assumption) ?_
      rotate_left
      · intro w hSw
        try dsimp only at hSw
        go_simp
        try with_reducible rfl
      try simp only [Act.put, List.setIfInBounds_toArray, List.set_cons_zero, List.set_cons_succ]
      refine wpAnyH_done (by kernel_rfl) ?_ _
      go_wp2
      go_ret2
      exact ⟨rfl, HB.out.drew⟩
set_option maxRecDepth 100000 in
set_option maxHeartbeats 4000000 in
theorem rvalue_any (va : Value) (l : Al Nat) (key : ByteArray) (w : World) (hlen : l.length ≤ 1000000) (hr : RisA l) (ha : SlG eP w va l) : Calls Tryz.prog 143 #[va, .string key] w fun e w' => e = .returned (.tuple #[.int .u64 (valP l key : Nat), .bool (hasP l key)]) ∧ Below w.heap.size w w' := by
  have hf := rfind_any va l key w hlen ha
  have hget := there_get hr key
  obtain ⟨a, cap, rfl⟩ := ha.form
  have HL := Lib.hid ha
  clear ha
  cases ht : thereA l key
  · have hv : valP l key = 0 := by unfold valP; rw [hget, ht]; rfl
    have hh : hasP l key = false := by unfold hasP; rw [hget, ht]; rfl
    rw [hv, hh]
    rw [ht] at hf
    clear hget ht hv hh
    go_enter Tryz.func143, Tryz.ntmps143
    go_wp2_with (go_at_call 219; refine hf.mono ?_; rintro e w1 ⟨rfl, h5⟩; have HB1 := Lib.hid h5; clear h5)
    go_ret2
    exact ⟨rfl, HB1.out⟩
  · have hlt := thereA_lt ht
    obtain ⟨p, hp, hk⟩ := thereA_iff.1 ht
    have hv : valP l key = p.2 := by unfold valP; rw [hget, ht, hp]; rfl
    have hh : hasP l key = true := by unfold hasP; rw [hget, ht, hp]; rfl
    rw [hv, hh]
    rw [ht] at hf
    obtain ⟨g, o, hA, hg, c0, c1⟩ := prs_at HL.out hp
    subst hA
    generalize fndA l key = q at *
    have hq0 : (0 : Int) ≤ (q : Int) := by omega
    have hq1 : (q : Int) < (l.length : Int) := by omega
    clear hget ht hv hh hp HL c0
    go_enter Tryz.func143, Tryz.ntmps143
    go_wp2_with (go_at_call 219; refine hf.mono ?_; rintro e w1 ⟨rfl, h5⟩; have HB1 := Lib.hid h5; have d1 := cell_in h5 hg c1; clear h5)
    go_ret2
    exact ⟨rfl, HB1.out⟩
theorem inA_take {α : Type} (P : ByteArray → Bool) {l : Al α} {k : Nat} {x : ByteArray × α} (hx : l[k]? = some x) : inA P (l.take (k + 1)) = inA P (l.take k) ++ (if P x.1 = true then [x] else []) := by
  unfold inA
  rw [List.take_add_one, hx, List.filter_append]
  cases h : P x.1 <;> simp [h]
set_option maxRecDepth 100000 in
set_option maxHeartbeats 4000000 in
theorem rpick_any (va vs : Value) (l : Al Nat) (S : List Sp) (w : World) (hlen : l.length ≤ 100000) (hS : S.length ≤ 1000000) (ha : SlG eP w va l) (hs : Sl w vs S) : Calls Tryz.prog 62 #[va, vs] w (RetPr w (inA (memL S) l)) := by
  obtain ⟨a, cap, rfl⟩ := ha.form
  obtain ⟨aS, cS, rfl⟩ := hs.form
  have HL := Lib.hid ha
  have HS := Lib.hid hs
  clear ha hs
  go_enter Tryz.func62, Tryz.ntmps62
  go_wp2_with fail
  go_loopw [5, 6] (fun v i wr => ∃ k : Nat, k ≤ l.length ∧ i = .int .i64 k ∧ OwnPr wr w.heap.size v (inA (memL S) (l.take k)) ∧ Below w.heap.size w wr) (fun _ i _ => l.length - (intOf i).toNat)
  case atStart => exact ⟨0, Nat.zero_le _, rfl, OwnG.nil _ _, Below.refl _ _⟩
  case round =>
    obtain ⟨k, hk, rfl, ho, hb⟩ := hrel
    have HB := Lib.hid hb
    have HO := Lib.hid ho
    obtain ⟨av, cv, rfl⟩ := ho.form
    have HLL : Hid ((inA (memL S) (l.take k)).length ≤ 100000) := by
      have h1 := List.length_filter_le (fun p => memL S p.1) (l.take k)
      rw [List.length_take] at h1
      show (List.filter _ _).length ≤ _
      omega
    clear hb ho
    generalize hD : inA (memL S) (l.take k) = D at *
    generalize hN : D.length = N at *
    have HD := Lib.hid hD
    have HN := Lib.hid hN
    clear hD hN
    by_cases hlt : k < l.length
    · obtain ⟨⟨pk, pn⟩, hx⟩ := at_lt hlt
      obtain ⟨g, o, hA, hg, d0, d1⟩ := prs_at HL.out hx
      simp only at d0 d1
      have K3 := Lib.hid (fun (Y : World) (hY : Below w.heap.size w Y) => (⟨cell_in hY hg d0, cell_in hY hg d1⟩ : Y.cell? ⟨g, o + k * 2, none⟩ = some (.string pk) ∧ Y.cell? ⟨g, o + k * 2 + 1, none⟩ = some (.int .u64 (pn : Int))))
      obtain ⟨c0, c1⟩ := K3.out _ HB.out
      have hk1 : (k : Int) < (l.length : Int) := by omega
      have hk0 : (0 : Int) ≤ (k : Int) := by omega
      have hdk : decide ((k : Int) < (l.length : Int)) = true := decide_eq_true hk1
      have hdn : decide (k < l.length) = true := decide_eq_true hlt
      have HT := Lib.hid (inA_take (memL S) hx)
      rw [HD.out] at HT
      clear hx d0 d1
      subst hA
      cases hm : memL S pk
      · simp only [Hid, hm] at HT
        have HT := Lib.hid HT
        go_wp2_with (go_at_call 153; go_must (refine (refhas_any _ S pk _ hS (HS.out.later HB.out)).mono ?_; rw [hm]; rintro e w2 ⟨rfl, h5⟩; have HB2 : Hid (Below w.heap.size w w2) := blThen HB.out h5; have HO2 := Lib.hid (HO.out.later h5); clear h5))
        go_roundw
        case rel => exact ⟨k + 1, hlt, by go_num, by rw [HT.out]; simpa using HO2.out, HB2.out⟩
        case measure => simp [intOf]; omega
      · simp only [Hid, hm] at HT
        have HT := Lib.hid HT
        go_wp2_with (first
          | (go_at_call 153; go_must (refine (refhas_any _ S pk _ hS (HS.out.later HB.out)).mono ?_; rw [hm]; rintro e w2 ⟨rfl, h5⟩; have HB2 : Hid (Below w.heap.size w w2) := blThen HB.out h5; have HO2 := Lib.hid (HO.out.later h5); obtain ⟨b0, b1⟩ := K3.out _ HB2.out; clear h5))
          | (at_builtin; go_must (refine append_G 71 _ 24 info_pr Tryz.underlying71 rfl (by decide) rfl _ _ rfl w.heap.size _ D rfl (HO2.out.later (blAlloc (Below.refl _ _) _)) _ [(pk, pn)] rfl (one_G eP _ _ (pk, pn) _ _ rfl rfl) (by have := HLL.out; have := HN.out; simp only [List.length_cons, List.length_nil]; omega) (blAlloc HB2.out _).size ?_; intro v3 w3 h1 h2; have HO3 := Lib.hid h1; have HB3 : Hid (Below w.heap.size w w3) := grown_belowG (blAlloc HB2.out _) (HO2.out.later (blAlloc (Below.refl _ _) _)) (Nat.le_refl _) (blAlloc HB2.out _).size h2; clear h1 h2)))
        go_roundw
        case rel => exact ⟨k + 1, hlt, by go_num, by rw [HT.out]; simpa using HO3.out, HB3.out⟩
        case measure => simp [intOf]; omega
    · have hge : ¬ (k : Int) < (l.length : Int) := by omega
      have hdk : decide ((k : Int) < (l.length : Int)) = false := decide_eq_false hge
      have hdn : decide (k < l.length) = false := decide_eq_false hlt
      have hE : D = inA (memL S) l := by rw [← HD.out, List.take_of_length_le (by omega)]
      have HE := Lib.hid hE
      clear hE
      have HO := Lib.hid (show OwnPr wr w.heap.size (.slice av N cv) D from HO.out)
      go_wp2
      go_ret
      exact ⟨_, rfl, by rw [← HE.out]; exact HO.out, HB.out⟩
end SP
end Go.Proofs.YtjlkgbejldcklaaGreat

namespace Go.Proofs.YtjlkgbejldcklaaGreat
open S3 SN
namespace SP
open Go.ChangeShapes Go.WideShapes Go.ChangeAt Go.RowKit Go.Joins Go.Deep
theorem slG_dropA {α : Type} {E : Enc α} {w : World} {ad : Addr} {n cap : Nat} {l : List α} (h : SlG E w (.slice (some ad) n cap) l) (k c m : Nat) (hk : k ≤ l.length) (hm : m = l.length - k) : SlG E w (.slice (some (ad.add (k * E.K))) m c) (l.drop k) := by
  by_cases hl : l = []
  · subst hl
    have : k = 0 := by simpa using hk
    subst this
    subst hm
    exact SlG.zero _ _ _ (fun h => (by cases h))
  · obtain ⟨a', cap', hv, hn, hr⟩ := id h
    simp only [Value.slice.injEq] at hv
    obtain ⟨rfl, rfl, rfl⟩ := hv
    obtain ⟨g, o, ha, hg, hrow⟩ := hr hl
    cases ha
    rw [Go.WideShapes.add_plain]
    exact slG_drop h k c m (by rw [List.length_drop, hm])
theorem one_wr (X : World) (x : Wrt) (n : Nat) (h : X.heap.size = n) : (X.alloc (.cells #[.string x.1, .int .u64 (x.2.1 : Int), .bool x.2.2] 178)).cell? ⟨n, 0, none⟩ = some (.string x.1) ∧ (X.alloc (.cells #[.string x.1, .int .u64 (x.2.1 : Int), .bool x.2.2] 178)).cell? ⟨n, 1, none⟩ = some (.int .u64 (x.2.1 : Int)) ∧ (X.alloc (.cells #[.string x.1, .int .u64 (x.2.1 : Int), .bool x.2.2] 178)).cell? ⟨n, 2, none⟩ = some (.bool x.2.2) ∧ n < (X.alloc (.cells #[.string x.1, .int .u64 (x.2.1 : Int), .bool x.2.2] 178)).heap.size := by
  subst h
  have hb : (X.alloc (.cells #[.string x.1, .int .u64 (x.2.1 : Int), .bool x.2.2] 178)).heap[X.heap.size]? = some (.cells #[.string x.1, .int .u64 (x.2.1 : Int), .bool x.2.2] 178 (0, 0)) := by
    show (X.heap.push _)[X.heap.size]? = _
    simp
  refine ⟨?_, ?_, ?_, by simp⟩
  · simp only [World.cell?, hb]; rfl
  · simp only [World.cell?, hb]; rfl
  · simp only [World.cell?, hb]; rfl
theorem OwnG.cp {α : Type} {E : Enc α} {T : TypeId} {w : World} {base : Nat} {v : Value} {l : List α} (h : OwnG E T w base v l) : ∃ a c, v = .slice a l.length c ∧ l.length ≤ c := by
  obtain ⟨h1, ⟨rfl, hl⟩ | ⟨g, cap, cur, rfl, hg, hh, hn, _⟩⟩ := h
  · exact ⟨none, 0, by rw [hl], by omega⟩
  · exact ⟨_, cap, rfl, hn⟩
set_option maxRecDepth 100000 in
set_option maxHeartbeats 16000000 in
theorem rdo_any (a : Option Addr) (cap : Nat) (d : Al Nat) (x : Wrt) (w : World) (hlen : d.length ≤ 100000) (hcap : d.length ≤ cap) (hr : RisA d) (ha : SlG eP w (.slice a d.length cap) d) : Calls Tryz.prog 151 #[.slice a d.length cap, wrV x] w (RetPr w (doW d x)) := by
  obtain ⟨key, n, gone⟩ := x
  have hv : doW d (key, n, gone) = d.take (fndA d key) ++ (if gone = true then [] else [(key, n)]) ++ d.drop (fndA d key + if thereA d key = true then 1 else 0) := by
    unfold doW
    simp only
    split
    · rw [delA_cut hr, List.append_nil]
    · rw [putA_cut]; simp
  generalize doW d (key, n, gone) = V at *
  have hql := fndA_le d key
  have hf := Lib.hid (fun (Y : World) (h : SlG eP Y (.slice a d.length cap) d) => rfind_any _ d key Y (by omega) h)
  have HTL : Hid (thereA d key = true → fndA d key < d.length) := thereA_lt
  generalize fndA d key = q at *
  generalize thereA d key = th at *
  have HA := Lib.hid ha
  unfold wrV
  simp only
  have HB0 : Hid (Below w.heap.size w (w.alloc (.cells #[.string key, .int .u64 (n : Int), .bool gone] 178))) := blAlloc (Below.refl _ _) _
  obtain ⟨y0, y1, y2, y3⟩ := one_wr w (key, n, gone) _ rfl
  simp only at y0 y1 y2 y3
  have HA0 := Lib.hid (ha.later HB0.out)
  have KB0 := Lib.hid (fun (Y : World) (hY : Below (w.alloc (.cells #[.string key, .int .u64 (n : Int), .bool gone] 178)).heap.size (w.alloc (.cells #[.string key, .int .u64 (n : Int), .bool gone] 178)) Y) => (⟨cell_in hY y3 y0, cell_in hY y3 y1, cell_in hY y3 y2⟩ : Y.cell? ⟨w.heap.size, 0, none⟩ = some (.string key) ∧ Y.cell? ⟨w.heap.size, 1, none⟩ = some (.int .u64 (n : Int)) ∧ Y.cell? ⟨w.heap.size, 2, none⟩ = some (.bool gone)))
  have HLT : Hid ((d.take q).length ≤ 100000) := by show _ ≤ _; rw [List.length_take]; omega
  clear ha hr y0 y1 y2 y3
  generalize hN : d.length = N at *
  have HN := Lib.hid hN
  clear hN
  have hq0 : (0 : Int) ≤ (q : Int) := by omega
  have hqN : (q : Int) ≤ (N : Int) := by omega
  have hqC : (q : Int) ≤ (cap : Int) := by omega
  cases th
  · simp only [Bool.false_eq_true, if_false, Nat.add_zero] at hv
    by_cases hc : cap = q
    · by_cases h0 : q = 0
      · subst h0
        subst hc
        obtain rfl : N = 0 := by omega
        cases gone
        · simp only [Bool.false_eq_true, if_false] at hv
          have HV : Hid (V = d.take 0 ++ [(key, n)] ++ (d.drop 0)) := hv
          clear hv
          go_enter Tryz.func151, Tryz.ntmps151
          go_wp2_with fail
          refine (hf.out _ HA0.out).mono ?_
          rintro e w1 ⟨rfl, h5⟩
          have HBW : Hid (Below w.heap.size w w1) := blThen HB0.out h5
          have KB := Lib.hid (fun (Y : World) (hY : Below w1.heap.size w1 Y) => KB0.out Y (blThen h5 hY))
          obtain ⟨z0, z1, z2⟩ := KB.out _ (Below.refl _ _)
          have HA1 := Lib.hid (HA.out.later HBW.out)
          clear h5
          have HBE : Hid (Below w1.heap.size w1 (w1.alloc (.cells #[] 92))) := blAlloc (Below.refl _ _) _
          have HOE : Hid (OwnPr (w1.alloc (.cells #[] 92)) w1.heap.size (.slice (some ⟨w1.heap.size, 0, none⟩) 0 0) []) := own_emptyG w1 _ _ _ rfl (Nat.le_refl _)
          have HTK := Lib.hid ((slG_take HA1.out 0 (by have := HN.out; omega)).later HBE.out)
          
          have HR := Lib.hid (fun (Y : World) (hY : Below w1.heap.size w1 Y) => ((show SlG eP w1 (.slice a 0 0) (d.drop 0) from by have := HA1.out; rw [List.drop_zero]; exact this)).later hY)
          have HLR : Hid (((d.drop 0)).length ≤ 100000) := by show _ ≤ _; rw [List.length_drop]; have := HN.out; omega
          go_wp2_with (at_builtin; first
            | ((refine append_G 71 _ 24 info_pr Tryz.underlying71 rfl (by decide) rfl _ _ rfl w1.heap.size _ (d.take 0 ++ [(key, n)]) rfl HO4.out _ (d.drop 0) rfl (HR.out _ HB4.out) (by have h8 := HLR.out; have h9 := HLT.out; (try simp only [List.length_append, List.length_cons, List.length_nil] at h8 h9 ⊢); omega) HB4.out.size ?_; intro v5 w5 h1 h2; have HO5 := Lib.hid h1; have HB5 : Hid (Below w1.heap.size w1 w5) := grown_belowG HB4.out HO4.out (Nat.le_refl _) HB4.out.size h2; clear h1 h2))
            | ((refine append_G 71 _ 24 info_pr Tryz.underlying71 rfl (by decide) rfl _ _ rfl w1.heap.size _ (d.take 0) rfl (HO3.out.later (blAlloc (Below.refl _ _) _)) _ [(key, n)] rfl (one_G eP w3 _ (key, n) _ _ rfl rfl) (by have := HLT.out; simp only [List.length_cons, List.length_nil]; omega) (blAlloc HB3.out _).size ?_; intro v4 w4 h1 h2; have HO4 := Lib.hid h1; have HB4 : Hid (Below w1.heap.size w1 w4) := grown_belowG (blAlloc HB3.out _) (HO3.out.later (blAlloc (Below.refl _ _) _)) (Nat.le_refl _) (blAlloc HB3.out _).size h2; obtain ⟨z0, z1, z2⟩ := KB.out _ HB4.out; clear h1 h2))
            | ((refine append_G 71 _ 24 info_pr Tryz.underlying71 rfl (by decide) rfl _ _ rfl w1.heap.size _ [] rfl HOE.out _ (d.take 0) rfl HTK.out (by have := HLT.out; simp only [List.length_nil]; omega) HBE.out.size ?_; intro v3 w3 h1 h2; rw [List.nil_append] at h1; have HO3 := Lib.hid h1; have HB3 : Hid (Below w1.heap.size w1 w3) := grown_belowG HBE.out HOE.out (Nat.le_refl _) HBE.out.size h2; obtain ⟨z0, z1, z2⟩ := KB.out _ HB3.out; clear h1 h2)))
          go_ret
          exact ⟨_, rfl, by rw [HV.out]; exact HO5.out.mono HBW.out.size, blThen HBW.out HB5.out⟩
        · simp only [if_true] at hv
          have HV : Hid (V = d.take 0 ++ [] ++ (d.drop 0)) := hv
          clear hv
          go_enter Tryz.func151, Tryz.ntmps151
          go_wp2_with fail
          refine (hf.out _ HA0.out).mono ?_
          rintro e w1 ⟨rfl, h5⟩
          have HBW : Hid (Below w.heap.size w w1) := blThen HB0.out h5
          have KB := Lib.hid (fun (Y : World) (hY : Below w1.heap.size w1 Y) => KB0.out Y (blThen h5 hY))
          obtain ⟨z0, z1, z2⟩ := KB.out _ (Below.refl _ _)
          have HA1 := Lib.hid (HA.out.later HBW.out)
          clear h5
          have HBE : Hid (Below w1.heap.size w1 (w1.alloc (.cells #[] 92))) := blAlloc (Below.refl _ _) _
          have HOE : Hid (OwnPr (w1.alloc (.cells #[] 92)) w1.heap.size (.slice (some ⟨w1.heap.size, 0, none⟩) 0 0) []) := own_emptyG w1 _ _ _ rfl (Nat.le_refl _)
          have HTK := Lib.hid ((slG_take HA1.out 0 (by have := HN.out; omega)).later HBE.out)
          
          have HR := Lib.hid (fun (Y : World) (hY : Below w1.heap.size w1 Y) => ((show SlG eP w1 (.slice a 0 0) (d.drop 0) from by have := HA1.out; rw [List.drop_zero]; exact this)).later hY)
          have HLR : Hid (((d.drop 0)).length ≤ 100000) := by show _ ≤ _; rw [List.length_drop]; have := HN.out; omega
          go_wp2_with (at_builtin; first
            | ((refine append_G 71 _ 24 info_pr Tryz.underlying71 rfl (by decide) rfl _ _ rfl w1.heap.size _ (d.take 0) rfl HO3.out _ (d.drop 0) rfl (HR.out _ HB3.out) (by have h8 := HLR.out; have h9 := HLT.out; (try simp only [List.length_append, List.length_cons, List.length_nil] at h8 h9 ⊢); omega) HB3.out.size ?_; intro v5 w5 h1 h2; have HO5 := Lib.hid h1; have HB5 : Hid (Below w1.heap.size w1 w5) := grown_belowG HB3.out HO3.out (Nat.le_refl _) HB3.out.size h2; clear h1 h2))
            | ((refine append_G 71 _ 24 info_pr Tryz.underlying71 rfl (by decide) rfl _ _ rfl w1.heap.size _ [] rfl HOE.out _ (d.take 0) rfl HTK.out (by have := HLT.out; simp only [List.length_nil]; omega) HBE.out.size ?_; intro v3 w3 h1 h2; rw [List.nil_append] at h1; have HO3 := Lib.hid h1; have HB3 : Hid (Below w1.heap.size w1 w3) := grown_belowG HBE.out HOE.out (Nat.le_refl _) HBE.out.size h2; obtain ⟨z0, z1, z2⟩ := KB.out _ HB3.out; clear h1 h2)))
          go_ret
          exact ⟨_, rfl, by rw [HV.out]; rw [List.append_nil]; exact HO5.out.mono HBW.out.size, blThen HBW.out HB5.out⟩
      · cases a with
        | none =>
          obtain ⟨_, _, hv2, hn2, _⟩ := HA.out
          cases hv2
          have := hn2 rfl
          omega
        | some ad =>
          subst hc
          obtain rfl : N = cap := by omega
          have hc0 : ¬ N = 0 := h0
          cases gone
          · simp only [Bool.false_eq_true, if_false] at hv
            have HV : Hid (V = d.take N ++ [(key, n)] ++ (d.drop N)) := hv
            clear hv
            go_enter Tryz.func151, Tryz.ntmps151
            go_wp2_with fail
            refine (hf.out _ HA0.out).mono ?_
            rintro e w1 ⟨rfl, h5⟩
            have HBW : Hid (Below w.heap.size w w1) := blThen HB0.out h5
            have KB := Lib.hid (fun (Y : World) (hY : Below w1.heap.size w1 Y) => KB0.out Y (blThen h5 hY))
            obtain ⟨z0, z1, z2⟩ := KB.out _ (Below.refl _ _)
            have HA1 := Lib.hid (HA.out.later HBW.out)
            clear h5
            have HBE : Hid (Below w1.heap.size w1 (w1.alloc (.cells #[] 92))) := blAlloc (Below.refl _ _) _
            have HOE : Hid (OwnPr (w1.alloc (.cells #[] 92)) w1.heap.size (.slice (some ⟨w1.heap.size, 0, none⟩) 0 0) []) := own_emptyG w1 _ _ _ rfl (Nat.le_refl _)
            have HTK := Lib.hid ((slG_take HA1.out N (by have := HN.out; omega)).later HBE.out)
            
            have HR := Lib.hid (fun (Y : World) (hY : Below w1.heap.size w1 Y) => ((show SlG eP w1 (.slice (some ad) 0 0) (d.drop N) from by have e : d.drop N = [] := List.drop_of_length_le (by have := HN.out; omega); rw [e]; exact SlG.zero _ (some ad) 0 (fun h => (by cases h)))).later hY)
            have HLR : Hid (((d.drop N)).length ≤ 100000) := by show _ ≤ _; rw [List.length_drop]; have := HN.out; omega
            go_wp2_with (at_builtin; first
              | ((refine append_G 71 _ 24 info_pr Tryz.underlying71 rfl (by decide) rfl _ _ rfl w1.heap.size _ (d.take N ++ [(key, n)]) rfl HO4.out _ (d.drop N) rfl (HR.out _ HB4.out) (by have h8 := HLR.out; have h9 := HLT.out; (try simp only [List.length_append, List.length_cons, List.length_nil] at h8 h9 ⊢); omega) HB4.out.size ?_; intro v5 w5 h1 h2; have HO5 := Lib.hid h1; have HB5 : Hid (Below w1.heap.size w1 w5) := grown_belowG HB4.out HO4.out (Nat.le_refl _) HB4.out.size h2; clear h1 h2))
              | ((refine append_G 71 _ 24 info_pr Tryz.underlying71 rfl (by decide) rfl _ _ rfl w1.heap.size _ (d.take N) rfl (HO3.out.later (blAlloc (Below.refl _ _) _)) _ [(key, n)] rfl (one_G eP w3 _ (key, n) _ _ rfl rfl) (by have := HLT.out; simp only [List.length_cons, List.length_nil]; omega) (blAlloc HB3.out _).size ?_; intro v4 w4 h1 h2; have HO4 := Lib.hid h1; have HB4 : Hid (Below w1.heap.size w1 w4) := grown_belowG (blAlloc HB3.out _) (HO3.out.later (blAlloc (Below.refl _ _) _)) (Nat.le_refl _) (blAlloc HB3.out _).size h2; obtain ⟨z0, z1, z2⟩ := KB.out _ HB4.out; clear h1 h2))
              | ((refine append_G 71 _ 24 info_pr Tryz.underlying71 rfl (by decide) rfl _ _ rfl w1.heap.size _ [] rfl HOE.out _ (d.take N) rfl HTK.out (by have := HLT.out; simp only [List.length_nil]; omega) HBE.out.size ?_; intro v3 w3 h1 h2; rw [List.nil_append] at h1; have HO3 := Lib.hid h1; have HB3 : Hid (Below w1.heap.size w1 w3) := grown_belowG HBE.out HOE.out (Nat.le_refl _) HBE.out.size h2; obtain ⟨z0, z1, z2⟩ := KB.out _ HB3.out; clear h1 h2)))
            go_ret
            exact ⟨_, rfl, by rw [HV.out]; exact HO5.out.mono HBW.out.size, blThen HBW.out HB5.out⟩
          · simp only [if_true] at hv
            have HV : Hid (V = d.take N ++ [] ++ (d.drop N)) := hv
            clear hv
            go_enter Tryz.func151, Tryz.ntmps151
            go_wp2_with fail
            refine (hf.out _ HA0.out).mono ?_
            rintro e w1 ⟨rfl, h5⟩
            have HBW : Hid (Below w.heap.size w w1) := blThen HB0.out h5
            have KB := Lib.hid (fun (Y : World) (hY : Below w1.heap.size w1 Y) => KB0.out Y (blThen h5 hY))
            obtain ⟨z0, z1, z2⟩ := KB.out _ (Below.refl _ _)
            have HA1 := Lib.hid (HA.out.later HBW.out)
            clear h5
            have HBE : Hid (Below w1.heap.size w1 (w1.alloc (.cells #[] 92))) := blAlloc (Below.refl _ _) _
            have HOE : Hid (OwnPr (w1.alloc (.cells #[] 92)) w1.heap.size (.slice (some ⟨w1.heap.size, 0, none⟩) 0 0) []) := own_emptyG w1 _ _ _ rfl (Nat.le_refl _)
            have HTK := Lib.hid ((slG_take HA1.out N (by have := HN.out; omega)).later HBE.out)
            
            have HR := Lib.hid (fun (Y : World) (hY : Below w1.heap.size w1 Y) => ((show SlG eP w1 (.slice (some ad) 0 0) (d.drop N) from by have e : d.drop N = [] := List.drop_of_length_le (by have := HN.out; omega); rw [e]; exact SlG.zero _ (some ad) 0 (fun h => (by cases h)))).later hY)
            have HLR : Hid (((d.drop N)).length ≤ 100000) := by show _ ≤ _; rw [List.length_drop]; have := HN.out; omega
            go_wp2_with (at_builtin; first
              | ((refine append_G 71 _ 24 info_pr Tryz.underlying71 rfl (by decide) rfl _ _ rfl w1.heap.size _ (d.take N) rfl HO3.out _ (d.drop N) rfl (HR.out _ HB3.out) (by have h8 := HLR.out; have h9 := HLT.out; (try simp only [List.length_append, List.length_cons, List.length_nil] at h8 h9 ⊢); omega) HB3.out.size ?_; intro v5 w5 h1 h2; have HO5 := Lib.hid h1; have HB5 : Hid (Below w1.heap.size w1 w5) := grown_belowG HB3.out HO3.out (Nat.le_refl _) HB3.out.size h2; clear h1 h2))
              | ((refine append_G 71 _ 24 info_pr Tryz.underlying71 rfl (by decide) rfl _ _ rfl w1.heap.size _ [] rfl HOE.out _ (d.take N) rfl HTK.out (by have := HLT.out; simp only [List.length_nil]; omega) HBE.out.size ?_; intro v3 w3 h1 h2; rw [List.nil_append] at h1; have HO3 := Lib.hid h1; have HB3 : Hid (Below w1.heap.size w1 w3) := grown_belowG HBE.out HOE.out (Nat.le_refl _) HBE.out.size h2; obtain ⟨z0, z1, z2⟩ := KB.out _ HB3.out; clear h1 h2)))
            go_ret
            exact ⟨_, rfl, by rw [HV.out]; rw [List.append_nil]; exact HO5.out.mono HBW.out.size, blThen HBW.out HB5.out⟩
    · cases a with
      | none =>
        obtain ⟨_, _, hv2, hn2, _⟩ := HA.out
        cases hv2
        have := hn2 rfl
        omega
      | some ad =>
        have hc0 : ¬ cap = 0 := by omega
        cases gone
        · simp only [Bool.false_eq_true, if_false] at hv
          have HV : Hid (V = d.take q ++ [(key, n)] ++ (d.drop q)) := hv
          clear hv
          go_enter Tryz.func151, Tryz.ntmps151
          go_wp2_with fail
          refine (hf.out _ HA0.out).mono ?_
          rintro e w1 ⟨rfl, h5⟩
          have HBW : Hid (Below w.heap.size w w1) := blThen HB0.out h5
          have KB := Lib.hid (fun (Y : World) (hY : Below w1.heap.size w1 Y) => KB0.out Y (blThen h5 hY))
          obtain ⟨z0, z1, z2⟩ := KB.out _ (Below.refl _ _)
          have HA1 := Lib.hid (HA.out.later HBW.out)
          clear h5
          have HBE : Hid (Below w1.heap.size w1 (w1.alloc (.cells #[] 92))) := blAlloc (Below.refl _ _) _
          have HOE : Hid (OwnPr (w1.alloc (.cells #[] 92)) w1.heap.size (.slice (some ⟨w1.heap.size, 0, none⟩) 0 0) []) := own_emptyG w1 _ _ _ rfl (Nat.le_refl _)
          have HTK := Lib.hid ((slG_take HA1.out q (by have := HN.out; omega)).later HBE.out)
          
          have HR := Lib.hid (fun (Y : World) (hY : Below w1.heap.size w1 Y) => ((slG_dropA HA1.out q (cap - q) (N - q) (by have := HN.out; omega) (by have := HN.out; omega))).later hY)
          have HLR : Hid (((d.drop q)).length ≤ 100000) := by show _ ≤ _; rw [List.length_drop]; have := HN.out; omega
          go_wp2_with (at_builtin; first
            | ((refine append_G 71 _ 24 info_pr Tryz.underlying71 rfl (by decide) rfl _ _ rfl w1.heap.size _ (d.take q ++ [(key, n)]) rfl HO4.out _ (d.drop q) rfl (HR.out _ HB4.out) (by have h8 := HLR.out; have h9 := HLT.out; (try simp only [List.length_append, List.length_cons, List.length_nil] at h8 h9 ⊢); omega) HB4.out.size ?_; intro v5 w5 h1 h2; have HO5 := Lib.hid h1; have HB5 : Hid (Below w1.heap.size w1 w5) := grown_belowG HB4.out HO4.out (Nat.le_refl _) HB4.out.size h2; clear h1 h2))
            | ((refine append_G 71 _ 24 info_pr Tryz.underlying71 rfl (by decide) rfl _ _ rfl w1.heap.size _ (d.take q) rfl (HO3.out.later (blAlloc (Below.refl _ _) _)) _ [(key, n)] rfl (one_G eP w3 _ (key, n) _ _ rfl rfl) (by have := HLT.out; simp only [List.length_cons, List.length_nil]; omega) (blAlloc HB3.out _).size ?_; intro v4 w4 h1 h2; have HO4 := Lib.hid h1; have HB4 : Hid (Below w1.heap.size w1 w4) := grown_belowG (blAlloc HB3.out _) (HO3.out.later (blAlloc (Below.refl _ _) _)) (Nat.le_refl _) (blAlloc HB3.out _).size h2; obtain ⟨z0, z1, z2⟩ := KB.out _ HB4.out; clear h1 h2))
            | ((refine append_G 71 _ 24 info_pr Tryz.underlying71 rfl (by decide) rfl _ _ rfl w1.heap.size _ [] rfl HOE.out _ (d.take q) rfl HTK.out (by have := HLT.out; simp only [List.length_nil]; omega) HBE.out.size ?_; intro v3 w3 h1 h2; rw [List.nil_append] at h1; have HO3 := Lib.hid h1; have HB3 : Hid (Below w1.heap.size w1 w3) := grown_belowG HBE.out HOE.out (Nat.le_refl _) HBE.out.size h2; obtain ⟨z0, z1, z2⟩ := KB.out _ HB3.out; clear h1 h2)))
          go_ret
          exact ⟨_, rfl, by rw [HV.out]; exact HO5.out.mono HBW.out.size, blThen HBW.out HB5.out⟩
        · simp only [if_true] at hv
          have HV : Hid (V = d.take q ++ [] ++ (d.drop q)) := hv
          clear hv
          go_enter Tryz.func151, Tryz.ntmps151
          go_wp2_with fail
          refine (hf.out _ HA0.out).mono ?_
          rintro e w1 ⟨rfl, h5⟩
          have HBW : Hid (Below w.heap.size w w1) := blThen HB0.out h5
          have KB := Lib.hid (fun (Y : World) (hY : Below w1.heap.size w1 Y) => KB0.out Y (blThen h5 hY))
          obtain ⟨z0, z1, z2⟩ := KB.out _ (Below.refl _ _)
          have HA1 := Lib.hid (HA.out.later HBW.out)
          clear h5
          have HBE : Hid (Below w1.heap.size w1 (w1.alloc (.cells #[] 92))) := blAlloc (Below.refl _ _) _
          have HOE : Hid (OwnPr (w1.alloc (.cells #[] 92)) w1.heap.size (.slice (some ⟨w1.heap.size, 0, none⟩) 0 0) []) := own_emptyG w1 _ _ _ rfl (Nat.le_refl _)
          have HTK := Lib.hid ((slG_take HA1.out q (by have := HN.out; omega)).later HBE.out)
          
          have HR := Lib.hid (fun (Y : World) (hY : Below w1.heap.size w1 Y) => ((slG_dropA HA1.out q (cap - q) (N - q) (by have := HN.out; omega) (by have := HN.out; omega))).later hY)
          have HLR : Hid (((d.drop q)).length ≤ 100000) := by show _ ≤ _; rw [List.length_drop]; have := HN.out; omega
          go_wp2_with (at_builtin; first
            | ((refine append_G 71 _ 24 info_pr Tryz.underlying71 rfl (by decide) rfl _ _ rfl w1.heap.size _ (d.take q) rfl HO3.out _ (d.drop q) rfl (HR.out _ HB3.out) (by have h8 := HLR.out; have h9 := HLT.out; (try simp only [List.length_append, List.length_cons, List.length_nil] at h8 h9 ⊢); omega) HB3.out.size ?_; intro v5 w5 h1 h2; have HO5 := Lib.hid h1; have HB5 : Hid (Below w1.heap.size w1 w5) := grown_belowG HB3.out HO3.out (Nat.le_refl _) HB3.out.size h2; clear h1 h2))
            | ((refine append_G 71 _ 24 info_pr Tryz.underlying71 rfl (by decide) rfl _ _ rfl w1.heap.size _ [] rfl HOE.out _ (d.take q) rfl HTK.out (by have := HLT.out; simp only [List.length_nil]; omega) HBE.out.size ?_; intro v3 w3 h1 h2; rw [List.nil_append] at h1; have HO3 := Lib.hid h1; have HB3 : Hid (Below w1.heap.size w1 w3) := grown_belowG HBE.out HOE.out (Nat.le_refl _) HBE.out.size h2; obtain ⟨z0, z1, z2⟩ := KB.out _ HB3.out; clear h1 h2)))
          go_ret
          exact ⟨_, rfl, by rw [HV.out]; rw [List.append_nil]; exact HO5.out.mono HBW.out.size, blThen HBW.out HB5.out⟩
  · simp only [if_true] at hv
    have hqlt := HTL.out rfl
    cases a with
    | none =>
      obtain ⟨_, _, hv2, hn2, _⟩ := HA.out
      cases hv2
      have := hn2 rfl
      omega
    | some ad =>
      have hc0 : ¬ cap = 0 := by omega
      have hcq : ¬ cap = q := by omega
      have hq1 : ((q : Int) + 1) ≤ (N : Int) := by omega
      have hw1 : wrap64 ((q : Int) + 1) = ((q + 1 : Nat) : Int) := by unfold wrap64; omega
      have hw2 : IntKind.i64.wrap ((q : Int) + 1) = ((q + 1 : Nat) : Int) := by rw [IntKind.wrap_i64]; omega
      by_cases hc : cap = q + 1
      · subst hc
        obtain rfl : N = q + 1 := by omega
        cases gone
        · simp only [Bool.false_eq_true, if_false] at hv
          have HV : Hid (V = d.take q ++ [(key, n)] ++ (d.drop (q + 1))) := hv
          clear hv
          go_enter Tryz.func151, Tryz.ntmps151
          go_wp2_with fail
          refine (hf.out _ HA0.out).mono ?_
          rintro e w1 ⟨rfl, h5⟩
          have HBW : Hid (Below w.heap.size w w1) := blThen HB0.out h5
          have KB := Lib.hid (fun (Y : World) (hY : Below w1.heap.size w1 Y) => KB0.out Y (blThen h5 hY))
          obtain ⟨z0, z1, z2⟩ := KB.out _ (Below.refl _ _)
          have HA1 := Lib.hid (HA.out.later HBW.out)
          clear h5
          have HBE : Hid (Below w1.heap.size w1 (w1.alloc (.cells #[] 92))) := blAlloc (Below.refl _ _) _
          have HOE : Hid (OwnPr (w1.alloc (.cells #[] 92)) w1.heap.size (.slice (some ⟨w1.heap.size, 0, none⟩) 0 0) []) := own_emptyG w1 _ _ _ rfl (Nat.le_refl _)
          have HTK := Lib.hid ((slG_take HA1.out q (by have := HN.out; omega)).later HBE.out)
          
          have HR := Lib.hid (fun (Y : World) (hY : Below w1.heap.size w1 Y) => ((show SlG eP w1 (.slice (some ad) 0 0) (d.drop (q + 1)) from by have e : d.drop (q + 1) = [] := List.drop_of_length_le (by have := HN.out; omega); rw [e]; exact SlG.zero _ (some ad) 0 (fun h => (by cases h)))).later hY)
          have HLR : Hid (((d.drop (q + 1))).length ≤ 100000) := by show _ ≤ _; rw [List.length_drop]; have := HN.out; omega
          go_wp2_with (at_builtin; first
            | ((refine append_G 71 _ 24 info_pr Tryz.underlying71 rfl (by decide) rfl _ _ rfl w1.heap.size _ (d.take q ++ [(key, n)]) rfl HO4.out _ (d.drop (q + 1)) rfl (HR.out _ HB4.out) (by have h8 := HLR.out; have h9 := HLT.out; (try simp only [List.length_append, List.length_cons, List.length_nil] at h8 h9 ⊢); omega) HB4.out.size ?_; intro v5 w5 h1 h2; have HO5 := Lib.hid h1; have HB5 : Hid (Below w1.heap.size w1 w5) := grown_belowG HB4.out HO4.out (Nat.le_refl _) HB4.out.size h2; clear h1 h2))
            | ((refine append_G 71 _ 24 info_pr Tryz.underlying71 rfl (by decide) rfl _ _ rfl w1.heap.size _ (d.take q) rfl (HO3.out.later (blAlloc (Below.refl _ _) _)) _ [(key, n)] rfl (one_G eP w3 _ (key, n) _ _ rfl rfl) (by have := HLT.out; simp only [List.length_cons, List.length_nil]; omega) (blAlloc HB3.out _).size ?_; intro v4 w4 h1 h2; have HO4 := Lib.hid h1; have HB4 : Hid (Below w1.heap.size w1 w4) := grown_belowG (blAlloc HB3.out _) (HO3.out.later (blAlloc (Below.refl _ _) _)) (Nat.le_refl _) (blAlloc HB3.out _).size h2; obtain ⟨z0, z1, z2⟩ := KB.out _ HB4.out; clear h1 h2))
            | ((refine append_G 71 _ 24 info_pr Tryz.underlying71 rfl (by decide) rfl _ _ rfl w1.heap.size _ [] rfl HOE.out _ (d.take q) rfl HTK.out (by have := HLT.out; simp only [List.length_nil]; omega) HBE.out.size ?_; intro v3 w3 h1 h2; rw [List.nil_append] at h1; have HO3 := Lib.hid h1; have HB3 : Hid (Below w1.heap.size w1 w3) := grown_belowG HBE.out HOE.out (Nat.le_refl _) HBE.out.size h2; obtain ⟨z0, z1, z2⟩ := KB.out _ HB3.out; clear h1 h2)))
          go_ret
          exact ⟨_, rfl, by rw [HV.out]; exact HO5.out.mono HBW.out.size, blThen HBW.out HB5.out⟩
        · simp only [if_true] at hv
          have HV : Hid (V = d.take q ++ [] ++ (d.drop (q + 1))) := hv
          clear hv
          go_enter Tryz.func151, Tryz.ntmps151
          go_wp2_with fail
          refine (hf.out _ HA0.out).mono ?_
          rintro e w1 ⟨rfl, h5⟩
          have HBW : Hid (Below w.heap.size w w1) := blThen HB0.out h5
          have KB := Lib.hid (fun (Y : World) (hY : Below w1.heap.size w1 Y) => KB0.out Y (blThen h5 hY))
          obtain ⟨z0, z1, z2⟩ := KB.out _ (Below.refl _ _)
          have HA1 := Lib.hid (HA.out.later HBW.out)
          clear h5
          have HBE : Hid (Below w1.heap.size w1 (w1.alloc (.cells #[] 92))) := blAlloc (Below.refl _ _) _
          have HOE : Hid (OwnPr (w1.alloc (.cells #[] 92)) w1.heap.size (.slice (some ⟨w1.heap.size, 0, none⟩) 0 0) []) := own_emptyG w1 _ _ _ rfl (Nat.le_refl _)
          have HTK := Lib.hid ((slG_take HA1.out q (by have := HN.out; omega)).later HBE.out)
          
          have HR := Lib.hid (fun (Y : World) (hY : Below w1.heap.size w1 Y) => ((show SlG eP w1 (.slice (some ad) 0 0) (d.drop (q + 1)) from by have e : d.drop (q + 1) = [] := List.drop_of_length_le (by have := HN.out; omega); rw [e]; exact SlG.zero _ (some ad) 0 (fun h => (by cases h)))).later hY)
          have HLR : Hid (((d.drop (q + 1))).length ≤ 100000) := by show _ ≤ _; rw [List.length_drop]; have := HN.out; omega
          go_wp2_with (at_builtin; first
            | ((refine append_G 71 _ 24 info_pr Tryz.underlying71 rfl (by decide) rfl _ _ rfl w1.heap.size _ (d.take q) rfl HO3.out _ (d.drop (q + 1)) rfl (HR.out _ HB3.out) (by have h8 := HLR.out; have h9 := HLT.out; (try simp only [List.length_append, List.length_cons, List.length_nil] at h8 h9 ⊢); omega) HB3.out.size ?_; intro v5 w5 h1 h2; have HO5 := Lib.hid h1; have HB5 : Hid (Below w1.heap.size w1 w5) := grown_belowG HB3.out HO3.out (Nat.le_refl _) HB3.out.size h2; clear h1 h2))
            | ((refine append_G 71 _ 24 info_pr Tryz.underlying71 rfl (by decide) rfl _ _ rfl w1.heap.size _ [] rfl HOE.out _ (d.take q) rfl HTK.out (by have := HLT.out; simp only [List.length_nil]; omega) HBE.out.size ?_; intro v3 w3 h1 h2; rw [List.nil_append] at h1; have HO3 := Lib.hid h1; have HB3 : Hid (Below w1.heap.size w1 w3) := grown_belowG HBE.out HOE.out (Nat.le_refl _) HBE.out.size h2; obtain ⟨z0, z1, z2⟩ := KB.out _ HB3.out; clear h1 h2)))
          go_ret
          exact ⟨_, rfl, by rw [HV.out]; rw [List.append_nil]; exact HO5.out.mono HBW.out.size, blThen HBW.out HB5.out⟩
      · skip
        cases gone
        · simp only [Bool.false_eq_true, if_false] at hv
          have HV : Hid (V = d.take q ++ [(key, n)] ++ (d.drop (q + 1))) := hv
          clear hv
          go_enter Tryz.func151, Tryz.ntmps151
          go_wp2_with fail
          refine (hf.out _ HA0.out).mono ?_
          rintro e w1 ⟨rfl, h5⟩
          have HBW : Hid (Below w.heap.size w w1) := blThen HB0.out h5
          have KB := Lib.hid (fun (Y : World) (hY : Below w1.heap.size w1 Y) => KB0.out Y (blThen h5 hY))
          obtain ⟨z0, z1, z2⟩ := KB.out _ (Below.refl _ _)
          have HA1 := Lib.hid (HA.out.later HBW.out)
          clear h5
          have HBE : Hid (Below w1.heap.size w1 (w1.alloc (.cells #[] 92))) := blAlloc (Below.refl _ _) _
          have HOE : Hid (OwnPr (w1.alloc (.cells #[] 92)) w1.heap.size (.slice (some ⟨w1.heap.size, 0, none⟩) 0 0) []) := own_emptyG w1 _ _ _ rfl (Nat.le_refl _)
          have HTK := Lib.hid ((slG_take HA1.out q (by have := HN.out; omega)).later HBE.out)
          
          have HR := Lib.hid (fun (Y : World) (hY : Below w1.heap.size w1 Y) => ((slG_dropA HA1.out (q + 1) (cap - (q + 1)) (N - (q + 1)) (by have := HN.out; omega) (by have := HN.out; omega))).later hY)
          have HLR : Hid (((d.drop (q + 1))).length ≤ 100000) := by show _ ≤ _; rw [List.length_drop]; have := HN.out; omega
          go_wp2_with (at_builtin; first
            | ((refine append_G 71 _ 24 info_pr Tryz.underlying71 rfl (by decide) rfl _ _ rfl w1.heap.size _ (d.take q ++ [(key, n)]) rfl HO4.out _ (d.drop (q + 1)) rfl (HR.out _ HB4.out) (by have h8 := HLR.out; have h9 := HLT.out; (try simp only [List.length_append, List.length_cons, List.length_nil] at h8 h9 ⊢); omega) HB4.out.size ?_; intro v5 w5 h1 h2; have HO5 := Lib.hid h1; have HB5 : Hid (Below w1.heap.size w1 w5) := grown_belowG HB4.out HO4.out (Nat.le_refl _) HB4.out.size h2; clear h1 h2))
            | ((refine append_G 71 _ 24 info_pr Tryz.underlying71 rfl (by decide) rfl _ _ rfl w1.heap.size _ (d.take q) rfl (HO3.out.later (blAlloc (Below.refl _ _) _)) _ [(key, n)] rfl (one_G eP w3 _ (key, n) _ _ rfl rfl) (by have := HLT.out; simp only [List.length_cons, List.length_nil]; omega) (blAlloc HB3.out _).size ?_; intro v4 w4 h1 h2; have HO4 := Lib.hid h1; have HB4 : Hid (Below w1.heap.size w1 w4) := grown_belowG (blAlloc HB3.out _) (HO3.out.later (blAlloc (Below.refl _ _) _)) (Nat.le_refl _) (blAlloc HB3.out _).size h2; obtain ⟨z0, z1, z2⟩ := KB.out _ HB4.out; clear h1 h2))
            | ((refine append_G 71 _ 24 info_pr Tryz.underlying71 rfl (by decide) rfl _ _ rfl w1.heap.size _ [] rfl HOE.out _ (d.take q) rfl HTK.out (by have := HLT.out; simp only [List.length_nil]; omega) HBE.out.size ?_; intro v3 w3 h1 h2; rw [List.nil_append] at h1; have HO3 := Lib.hid h1; have HB3 : Hid (Below w1.heap.size w1 w3) := grown_belowG HBE.out HOE.out (Nat.le_refl _) HBE.out.size h2; obtain ⟨z0, z1, z2⟩ := KB.out _ HB3.out; clear h1 h2)))
          go_ret
          exact ⟨_, rfl, by rw [HV.out]; exact HO5.out.mono HBW.out.size, blThen HBW.out HB5.out⟩
        · simp only [if_true] at hv
          have HV : Hid (V = d.take q ++ [] ++ (d.drop (q + 1))) := hv
          clear hv
          go_enter Tryz.func151, Tryz.ntmps151
          go_wp2_with fail
          refine (hf.out _ HA0.out).mono ?_
          rintro e w1 ⟨rfl, h5⟩
          have HBW : Hid (Below w.heap.size w w1) := blThen HB0.out h5
          have KB := Lib.hid (fun (Y : World) (hY : Below w1.heap.size w1 Y) => KB0.out Y (blThen h5 hY))
          obtain ⟨z0, z1, z2⟩ := KB.out _ (Below.refl _ _)
          have HA1 := Lib.hid (HA.out.later HBW.out)
          clear h5
          have HBE : Hid (Below w1.heap.size w1 (w1.alloc (.cells #[] 92))) := blAlloc (Below.refl _ _) _
          have HOE : Hid (OwnPr (w1.alloc (.cells #[] 92)) w1.heap.size (.slice (some ⟨w1.heap.size, 0, none⟩) 0 0) []) := own_emptyG w1 _ _ _ rfl (Nat.le_refl _)
          have HTK := Lib.hid ((slG_take HA1.out q (by have := HN.out; omega)).later HBE.out)
          
          have HR := Lib.hid (fun (Y : World) (hY : Below w1.heap.size w1 Y) => ((slG_dropA HA1.out (q + 1) (cap - (q + 1)) (N - (q + 1)) (by have := HN.out; omega) (by have := HN.out; omega))).later hY)
          have HLR : Hid (((d.drop (q + 1))).length ≤ 100000) := by show _ ≤ _; rw [List.length_drop]; have := HN.out; omega
          go_wp2_with (at_builtin; first
            | ((refine append_G 71 _ 24 info_pr Tryz.underlying71 rfl (by decide) rfl _ _ rfl w1.heap.size _ (d.take q) rfl HO3.out _ (d.drop (q + 1)) rfl (HR.out _ HB3.out) (by have h8 := HLR.out; have h9 := HLT.out; (try simp only [List.length_append, List.length_cons, List.length_nil] at h8 h9 ⊢); omega) HB3.out.size ?_; intro v5 w5 h1 h2; have HO5 := Lib.hid h1; have HB5 : Hid (Below w1.heap.size w1 w5) := grown_belowG HB3.out HO3.out (Nat.le_refl _) HB3.out.size h2; clear h1 h2))
            | ((refine append_G 71 _ 24 info_pr Tryz.underlying71 rfl (by decide) rfl _ _ rfl w1.heap.size _ [] rfl HOE.out _ (d.take q) rfl HTK.out (by have := HLT.out; simp only [List.length_nil]; omega) HBE.out.size ?_; intro v3 w3 h1 h2; rw [List.nil_append] at h1; have HO3 := Lib.hid h1; have HB3 : Hid (Below w1.heap.size w1 w3) := grown_belowG HBE.out HOE.out (Nat.le_refl _) HBE.out.size h2; obtain ⟨z0, z1, z2⟩ := KB.out _ HB3.out; clear h1 h2)))
          go_ret
          exact ⟨_, rfl, by rw [HV.out]; rw [List.append_nil]; exact HO5.out.mono HBW.out.size, blThen HBW.out HB5.out⟩
end SP
end Go.Proofs.YtjlkgbejldcklaaGreat

namespace Go.Proofs.YtjlkgbejldcklaaGreat
open S3 SN
namespace SP
open Go.ChangeShapes Go.WideShapes Go.ChangeAt Go.RowKit Go.Joins Go.Deep
def RetSl {α : Type} (E : Enc α) (w : World) (r : List α) (e : Ending) (w' : World) : Prop := ∃ a c, e = .returned (.slice a r.length c) ∧ r.length ≤ c ∧ SlG E w' (.slice a r.length c) r ∧ Below w.heap.size w w'
set_option maxRecDepth 100000 in
set_option maxHeartbeats 4000000 in
theorem rapply_any (a : Option Addr) (cap : Nat) (d : Al Nat) (vs : Value) (l : List Wrt) (w : World) (hlen : d.length ≤ 10000) (hl : l.length ≤ 1000) (hcap : d.length ≤ cap) (hr : RisA d) (ha : SlG eP w (.slice a d.length cap) d) (hs : SlG eW w vs l) : Calls Tryz.prog 60 #[.slice a d.length cap, vs] w (RetSl eP w (applyP d l)) := by
  obtain ⟨aS, cS, rfl⟩ := hs.form
  have HL := Lib.hid hs
  have HA := Lib.hid ha
  have HR := Lib.hid hr
  clear ha hs hr
  go_enter Tryz.func60, Tryz.ntmps60
  go_wp2_with fail
  go_loopw [0, 5] (fun v i wr => ∃ k : Nat, ∃ av cv, k ≤ l.length ∧ i = .int .i64 k ∧ v = .slice av (applyP d (l.take k)).length cv ∧ (applyP d (l.take k)).length ≤ cv ∧ SlG eP wr (.slice av (applyP d (l.take k)).length cv) (applyP d (l.take k)) ∧ Below w.heap.size w wr) (fun _ i _ => l.length - (intOf i).toNat)
  case atStart => exact ⟨0, a, cap, Nat.zero_le _, rfl, rfl, hcap, HA.out, Below.refl _ _⟩
  case round =>
    obtain ⟨k, av, cv, hk, rfl, rfl, hcv, ho, hb⟩ := hrel
    have HB := Lib.hid hb
    have HO := Lib.hid ho
    have HRK := Lib.hid (ris_apply (l.take k) HR.out)
    have HLL : Hid ((applyP d (l.take k)).length ≤ 20000) := by
      have h1 := apply_len (l.take k) d
      rw [List.length_take] at h1
      show _ ≤ _
      omega
    clear hb ho
    generalize hD : applyP d (l.take k) = D at *
    have HD := Lib.hid hD
    clear hD
    by_cases hlt : k < l.length
    · obtain ⟨⟨xk, xn, xg⟩, hx⟩ := at_lt hlt
      obtain ⟨g, o, hA, hg, d0, d1, d2⟩ := wrs_at HL.out hx
      simp only at d0 d1 d2
      have c0 := cell_in HB.out hg d0
      have c1 := cell_in HB.out hg d1
      have c2 := cell_in HB.out hg d2
      have hk1 : (k : Int) < (l.length : Int) := by omega
      have hk0 : (0 : Int) ≤ (k : Int) := by omega
      have hdk : decide ((k : Int) < (l.length : Int)) = true := decide_eq_true hk1
      have hdn : decide (k < l.length) = true := decide_eq_true hlt
      have HT : Hid (applyP d (l.take (k + 1)) = doW D (xk, xn, xg)) := by
        show _ = _
        rw [List.take_add_one, hx, apply_append, HD.out]
        rfl
      have HDO := Lib.hid (rdo_any av cv D (xk, xn, xg) wr (by have := HLL.out; omega) hcv HRK.out HO.out)
      clear hx d0 d1 d2
      subst hA
      generalize hN : D.length = N at *
      have HN := Lib.hid hN
      clear hN
      go_wp2_with (go_at_call 151; go_must (refine HDO.out.mono ?_; rintro e w2 ⟨v2, rfl, h1, h2⟩; have HB2 : Hid (Below w.heap.size w w2) := blThen HB.out h2; obtain ⟨a2, c2, rfl, h3⟩ := h1.cp; have HO2 := Lib.hid h1.sl; have HC2 := Lib.hid h3; clear h1 h2 h3))
      go_roundw
      case rel => exact ⟨k + 1, _, _, hlt, by go_num, by rw [HT.out], by rw [HT.out]; exact HC2.out, by rw [HT.out]; exact HO2.out, HB2.out⟩
      case measure => simp [intOf]; omega
    · have hge : ¬ (k : Int) < (l.length : Int) := by omega
      have hdk : decide ((k : Int) < (l.length : Int)) = false := decide_eq_false hge
      have hdn : decide (k < l.length) = false := decide_eq_false hlt
      have HE : Hid (D = applyP d l) := by
        show _ = _
        rw [← HD.out, List.take_of_length_le (by omega)]
      go_wp2
      go_ret
      exact ⟨av, cv, by rw [← HE.out]; rfl, by rw [← HE.out]; exact hcv, by rw [← HE.out]; exact HO.out, HB.out⟩
end SP
end Go.Proofs.YtjlkgbejldcklaaGreat
