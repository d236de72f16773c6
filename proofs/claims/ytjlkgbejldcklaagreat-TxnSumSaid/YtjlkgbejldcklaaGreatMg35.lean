/- put, drop, add and stockOf of stock. Conditions: at most a million keys. -/
import Derived.Maps.OwnSet
import Derived.Maps.OwnOps
import Derived.Maps.RangeWalk
import Derived.Deep.RegionHeld3
import Derived.WalkSpells
import Derived.Test.YtjlkgbejldcklaaGreatMg34
set_option linter.unusedVariables false
namespace Go.Proofs.YtjlkgbejldcklaaGreat
open S3 SN
namespace SP
open Go.ChangeShapes Go.WideShapes Go.ChangeAt Go.RowKit Go.Joins Go.Deep
theorem lawT8 : Maps.Keyed Tryz.prog 9 := Maps.string_keyed Tryz.underlying9
def numR (v : Value) : Option (DataW Value × List MemPlace) := match v with | .int .u64 i => if 0 ≤ i then some (.held v, []) else none | _ => none
theorem numR_mk (n : Nat) : numR (.int .u64 (n : Int)) = some (.held (.int .u64 (n : Int)), []) := by unfold numR; simp
theorem numR_inv {v : Value} {y : DataW Value × List MemPlace} (h : numR v = some y) : ∃ n : Nat, v = .int .u64 (n : Int) ∧ y = (.held (.int .u64 (n : Int)), []) := by
  unfold numR at h
  split at h
  · rename_i i
    split at h
    · rename_i hi
      refine ⟨i.toNat, by rw [Int.toNat_of_nonneg hi], ?_⟩
      rw [Int.toNat_of_nonneg hi]
      exact (Option.some.inj h).symm
    · cases h
  · cases h
def kK (k : ByteArray) : Lit := .string k.data.toList
theorem kK_key (k : ByteArray) : WideAt.IsKeyLit (kK k) := trivial
theorem kK_inj {a b : ByteArray} (h : kK a = kK b) : a = b := by
  unfold kK at h
  have h1 := Lit.string.inj h
  refine text_ext ?_
  rw [toList_data, toList_data, h1]
theorem kK_ne {a b : ByteArray} (h : a ≠ b) : kK a ≠ kK b := fun e => h (kK_inj e)
def zN : DataW Value := .held (.int .u64 0)
def RepD (D : DataW Value) (d : Al Nat) : Prop := Maps.IsMap D ∧ ∀ k, Maps.has D (kK k) = hasP d k ∧ D.atKey (kK k) zN = .held (.int .u64 (valP d k : Nat))
theorem repD_nil : RepD (.map []) [] := ⟨Maps.isMap_empty, fun k => ⟨rfl, rfl⟩⟩
theorem repD_put {D : DataW Value} {d : Al Nat} (h : RepD D d) (hr : RisA d) (k : ByteArray) (v : Nat) : RepD (D.put (kK k) (.held (.int .u64 (v : Int)))) (putA d k v) := by
  refine ⟨h.1.put _ _, fun x => ?_⟩
  unfold hasP valP
  rw [getA_put hr]
  by_cases e : k = x
  · subst e
    rw [if_pos rfl]
    exact ⟨Maps.has_put_same h.1 (kK_key _) _, Maps.atKey_put_same h.1 (kK_key _) _ _⟩
  · rw [if_neg e, Maps.has_put_other (kK_ne (fun h => e h.symm)), Maps.atKey_put_other (kK_ne (fun h => e h.symm))]
    exact h.2 x
theorem repD_del {D : DataW Value} {d : Al Nat} (h : RepD D d) (k : ByteArray) : RepD (D.del (kK k)) (delA d k) := by
  refine ⟨h.1.del _, fun x => ?_⟩
  unfold hasP valP
  rw [getA_del]
  by_cases e : k = x
  · subst e
    rw [if_pos rfl]
    exact ⟨Maps.has_del_same, Maps.atKey_del_same _⟩
  · rw [if_neg e, Maps.has_del_other (kK_ne (fun h => e h.symm)), Maps.atKey_del_other (kK_ne (fun h => e h.symm))]
    exact h.2 x
def MapN (w : World) (b n : Nat) (d : Al Nat) : Prop := ∃ D : DataW Value, w.ownsMap Tryz.prog 9 numR b n D ∧ RepD D d
theorem MapN.lt {w : World} {b n : Nat} {d : Al Nat} (h : MapN w b n d) : b < w.heap.size := by obtain ⟨D, h, _⟩ := h; exact World.ownsMap.lt h
theorem MapN.later {B : Nat} {w wr : World} {b n : Nat} {d : Al Nat} (h : MapN w b n d) (hw : Below B w wr) (hb : b < B) : MapN wr b n d := by
  obtain ⟨D, ⟨es, clock, hh, r⟩, h2⟩ := h
  exact ⟨D, ⟨es, clock, (hw.block b hb).trans hh, r⟩, h2⟩
theorem mapN_new (w : World) : MapN (w.alloc (.map #[] 0)) w.heap.size 0 [] := ⟨_, World.ownsMap_made w _ _ _, repD_nil⟩
theorem zeroN (w : World) : (zeroValue 89).run Tryz.prog w = .ok (.int .u64 0) w := by kernel_rfl
theorem heldN {D : DataW Value} {d : Al Nat} {k : ByteArray} {v : Value} {ps : List MemPlace} (h : RepD D d) (hv : numR v = some (D.atKey (kK k) zN, ps)) : v = .int .u64 (valP d k : Nat) := by
  obtain ⟨n, rfl, e⟩ := numR_inv hv
  rw [(h.2 k).2] at e
  simp only [Prod.mk.injEq] at e
  exact (DataW.held.inj e.1).symm
theorem mapN_look {w : World} {b n : Nat} {d : Al Nat} (h : MapN w b n d) {k : ByteArray} (hk : k.size ≤ maxLen) :
    (Instr.lookup 254 (.map (some b)) (.string k) false).run Tryz.prog w = .ok (.int .u64 (valP d k : Nat)) w := by
  obtain ⟨D, ho, hr⟩ := h
  obtain ⟨v, ps, hrun, hv⟩ := World.ownsMap.lookup (t := 254) (e := 89) ho lawT8 Tryz.underlying254 (zeroN w) (zd := zN) (zp := []) rfl (kl := kK k) (WideMaps.keyOf_string_mk Tryz.underlying9 hk)
  rw [hrun, heldN hr hv]
theorem mapN_look2 {w : World} {b n : Nat} {d : Al Nat} (h : MapN w b n d) {k : ByteArray} (hk : k.size ≤ maxLen) :
    (Instr.lookup 254 (.map (some b)) (.string k) true).run Tryz.prog w = .ok (.tuple #[.int .u64 (valP d k : Nat), .bool (hasP d k)]) w := by
  obtain ⟨D, ho, hr⟩ := h
  obtain ⟨v, ps, hrun, hv⟩ := World.ownsMap.look_ok (t := 254) (e := 89) ho lawT8 Tryz.underlying254 (zeroN w) (zd := zN) (zp := []) rfl (kl := kK k) (WideMaps.keyOf_string_mk Tryz.underlying9 hk)
  rw [hrun, heldN hr hv, (hr.2 k).1]
theorem mapN_upd {w : World} {b n : Nat} {d : Al Nat} (h : MapN w b n d) (hd : RisA d) {k : ByteArray} (hk : k.size ≤ maxLen) (hn : n < 4000000) (v : Nat) :
    ∃ w', (Instr.mapUpdate 254 (.map (some b)) (.string k) (.int .u64 (v : Int))).run Tryz.prog w = .ok () w' ∧ MapN w' b (n + 1) (putA d k v) ∧ w.grownBy w' (some b) := by
  obtain ⟨D, ho, hr⟩ := h
  obtain ⟨w', h1, h2, h3⟩ := World.ownsMap.update (t := 254) (e := 89) (d := .held (.int .u64 (v : Int))) (ps := []) (val := .int .u64 (v : Int)) ho lawT8 Tryz.underlying254 (by unfold maxLen; omega) (WideMaps.keyOf_string_mk Tryz.underlying9 hk) (numR_mk v)
  exact ⟨w', h1, ⟨_, h2, repD_put hr hd k v⟩, h3⟩
theorem mapN_drop {w : World} {b n : Nat} {d : Al Nat} (h : MapN w b n d) {k : ByteArray} (hk : k.size ≤ maxLen) (ty : TypeId) :
    ∃ w', (Builtin.delete_ #[254, 9] ty #[.map (some b), .string k]).run Tryz.prog w = .ok (.tuple #[]) w' ∧ MapN w' b n (delA d k) ∧ w.grownBy w' (some b) := by
  obtain ⟨D, ho, hr⟩ := h
  obtain ⟨w', h1, h2, h3⟩ := World.ownsMap.drop (t := 254) (e := 89) ho lawT8 Tryz.underlying254 (WideMaps.keyOf_string_mk Tryz.underlying9 hk) ty
  exact ⟨w', h1, ⟨_, h2, repD_del hr k⟩, h3.grown⟩
def Safe (w : World) (k : Nat) : Prop := ∃ cur T fr, w.heap[k]? = some (.cells cur T fr) ∧ T ≠ 9 ∧ T ≠ 256
structure Kp (base : Nat) (w w' : World) : Prop where
  os : w'.os = w.os
  tape : w'.tape = w.tape
  output : w'.output = w.output
  size : w.heap.size ≤ w'.heap.size
  block : ∀ k, k < w.heap.size → (k < base ∨ Safe w k) → w'.heap[k]? = w.heap[k]?
theorem Kp.refl (base : Nat) (w : World) : Kp base w w := ⟨rfl, rfl, rfl, Nat.le_refl _, fun _ _ _ => rfl⟩
theorem Kp.ofBelow {base : Nat} {w w' : World} (h : Below w.heap.size w w') : Kp base w w' := ⟨h.os, h.tape, h.output, h.size, fun k hk _ => h.block k hk⟩
theorem Safe.of {w w' : World} {k : Nat} (h : Safe w k) (e : w'.heap[k]? = w.heap[k]?) : Safe w' k := by
  obtain ⟨cur, T, fr, h1, h2, h3⟩ := h
  exact ⟨cur, T, fr, e.trans h1, h2, h3⟩
theorem Kp.trans {base : Nat} {w x y : World} (h : Kp base w x) (k : Kp base x y) : Kp base w y := by
  refine ⟨k.os.trans h.os, k.tape.trans h.tape, k.output.trans h.output, Nat.le_trans h.size k.size, fun j hj hs => ?_⟩
  have e := h.block j hj hs
  refine (k.block j (Nat.lt_of_lt_of_le hj h.size) ?_).trans e
  rcases hs with hs | hs
  · exact .inl hs
  · exact .inr (hs.of e)
theorem Kp.below {base : Nat} {w w' : World} (h : Kp base w w') (hb : base ≤ w.heap.size) : Below base w w' := ⟨h.os, h.tape, h.output, h.size, fun k hk => h.block k (Nat.lt_of_lt_of_le hk hb) (.inl hk)⟩
theorem Kp.grown {base : Nat} {w w' : World} {row : Option Nat} (hg : w.grownBy w' row) (hr : ∀ k, row = some k → base ≤ k ∧ ¬ Safe w k) : Kp base w w' := by
  refine ⟨hg.os, hg.tape, hg.output, hg.size, fun k hk hs => hg.block k hk fun e => ?_⟩
  obtain ⟨h1, h2⟩ := hr k e.symm
  rcases hs with hs | hs
  · omega
  · exact h2 hs
theorem mapN_unsafe {w : World} {b n : Nat} {d : Al Nat} (h : MapN w b n d) : ¬ Safe w b := by
  rintro ⟨cur, T, fr, h1, _⟩
  obtain ⟨D, ⟨es, clock, hh, _⟩, _⟩ := h
  rw [hh] at h1
  cases h1
theorem ownT_unsafe {w : World} {base : Nat} {v : Value} {l : List ByteArray} (h : OwnT w base v l) : ∀ k, v.ownBlock = some k → base ≤ k ∧ ¬ Safe w k := by
  intro k hk
  obtain ⟨h1, ⟨rfl, _⟩ | ⟨g, cap, cur, rfl, hg, hh, _⟩⟩ := h
  · cases hk
  · simp only [Value.ownBlock, Option.some.injEq] at hk
    subst hk
    refine ⟨hg, ?_⟩
    rintro ⟨c, T, fr, h2, h3, _⟩
    rw [hh] at h2
    cases h2
    exact h3 rfl
theorem OwnG.kp {α : Type} {E : Enc α} {T : TypeId} {base B : Nat} {w w' : World} {v : Value} {l : List α} (h : OwnG E T w B v l) (hk : Kp base w w') (h1 : T ≠ 9) (h2 : T ≠ 256) : OwnG E T w' B v l := by
  obtain ⟨e, h3 | ⟨g, cap, cur, hv, hg, hh, rest⟩⟩ := h
  · exact ⟨e, .inl h3⟩
  · exact ⟨e, .inr ⟨g, cap, cur, hv, hg, (hk.block g (lt_of_block hh) (.inr ⟨_, _, _, hh, h1, h2⟩)).trans hh, rest⟩⟩
structure Stk (w : World) (base s n : Nat) (d : Al Nat) (ks : List ByteArray) (b : Nat) (wv : Value) : Prop where
  box : w.heap[s]? = some (.cells #[.map (some b), wv] 256 (0, 0))
  row : OwnT w base wv ks
  map : MapN w b n d
  bs : base ≤ s
  bb : base ≤ b
theorem Stk.lt {w : World} {base s n : Nat} {d : Al Nat} {ks : List ByteArray} {b : Nat} {wv : Value} (h : Stk w base s n d ks b wv) : s < w.heap.size := lt_of_block h.box
theorem Stk.c0 {w : World} {base s n : Nat} {d : Al Nat} {ks : List ByteArray} {b : Nat} {wv : Value} (h : Stk w base s n d ks b wv) : w.cell? ⟨s, 0, none⟩ = some (.map (some b)) := by simp only [World.cell?, h.box]; rfl
theorem Stk.c1 {w : World} {base s n : Nat} {d : Al Nat} {ks : List ByteArray} {b : Nat} {wv : Value} (h : Stk w base s n d ks b wv) : w.cell? ⟨s, 1, none⟩ = some wv := by simp only [World.cell?, h.box]; rfl
theorem Stk.f1 {w : World} {base s n : Nat} {d : Al Nat} {ks : List ByteArray} {b : Nat} {wv : Value} (h : Stk w base s n d ks b wv) : w.frozen? ⟨s, 1, none⟩ = false := by simp only [World.frozen?, h.box]; rfl
theorem Stk.later {w wr : World} {base s n : Nat} {d : Al Nat} {ks : List ByteArray} {b : Nat} {wv : Value} (h : Stk w base s n d ks b wv) (hw : Below w.heap.size w wr) : Stk wr base s n d ks b wv :=
  ⟨(hw.block s h.lt).trans h.box, h.row.later hw, h.map.later hw h.map.lt, h.bs, h.bb⟩
end SP
end Go.Proofs.YtjlkgbejldcklaaGreat

set_option linter.unusedSimpArgs false
namespace Go.Proofs.YtjlkgbejldcklaaGreat
open S3 SN
namespace SP
open Go.ChangeShapes Go.WideShapes Go.ChangeAt Go.RowKit Go.Joins Go.Deep
theorem append_tx {w : World} {ops : Array Oper} {rest : List Oper} {o : Oper} {a : Act} {Q : Exit → Act → World → Prop} (hgd : o.guard = none) (s x : Operand)
    (ho : o.op = .call { callee := .builtin .append, args := #[s, x], argTypes := #[87, 87] })
    (base : Nat) (v : Value) (d : List ByteArray) (hs : a.eval s = v) (hown : OwnT w base v d) (xv : Value) (l : List ByteArray) (hx : a.eval x = xv) (hsl : Tl w xv l)
    (hlen : d.length + l.length ≤ 4000000) (hbase : base ≤ w.heap.size)
    (h : ∀ v' w', OwnT w' base v' (d ++ l) → w.grownBy w' v.ownBlock → wpList Tryz.prog ops Q rest (a.put o.dst v') w') : wpList Tryz.prog ops Q (o :: rest) a w :=
  wpList_plain hgd fun _ hK => wp_append_tx s x ho base v d hs hown xv l hx hsl hlen hbase fun v' w' h2 h3 => hK _ _ (h v' w' h2 h3)
theorem setBox {w : World} {s : Nat} {x y : Value} {T : TypeId} (h : w.heap[s]? = some (.cells #[x, y] T (0, 0))) (u : Value) : (w.setCell ⟨s, 1, none⟩ u).heap[s]? = some (.cells #[x, u] T (0, 0)) := by
  have hs := lt_of_block h
  have he : w.heap[s] = .cells #[x, y] T (0, 0) := by
    rw [Array.getElem?_eq_getElem hs] at h
    exact Option.some.inj h
  simp only [World.setCell]
  rw [Array.getElem?_modify, if_pos rfl, h]
  rfl
theorem setBox_grown {w : World} {s : Nat} (hs : s < w.heap.size) (u : Value) : w.grownBy (w.setCell ⟨s, 1, none⟩ u) (some s) :=
  ⟨rfl, rfl, rfl, by simp [World.setCell], fun k hk hne => Go.Deep.blk_setCell_other w _ u k (fun e => hne (by rw [e]))⟩
theorem Below.size_le {B : Nat} {w w' : World} (h : Below B w w') : w.heap.size ≤ w'.heap.size := h.size
theorem row_ne_box {w : World} {base s n : Nat} {d : Al Nat} {ks : List ByteArray} {b : Nat} {wv : Value} (h : Stk w base s n d ks b wv) : wv.ownBlock ≠ some s ∧ wv.ownBlock ≠ some b ∧ s ≠ b := by
  refine ⟨fun e => ?_, fun e => ?_, fun e => ?_⟩
  · obtain ⟨h1, ⟨rfl, _⟩ | ⟨g, cap, cur, rfl, hg, hh, _⟩⟩ := h.row
    · cases e
    · simp only [Value.ownBlock, Option.some.injEq] at e
      subst e
      have hb := h.box
      rw [hh] at hb
      simp at hb
  · obtain ⟨h1, ⟨rfl, _⟩ | ⟨g, cap, cur, rfl, hg, hh, _⟩⟩ := h.row
    · cases e
    · simp only [Value.ownBlock, Option.some.injEq] at e
      subst e
      obtain ⟨D, ⟨es, clock, h2, _⟩, _⟩ := h.map
      rw [hh] at h2
      cases h2
  · subst e
    obtain ⟨D, ⟨es, clock, h2, _⟩, _⟩ := h.map
    rw [h.box] at h2
    cases h2
theorem ownT_kept {w w' : World} {base : Nat} {v : Value} {d : List ByteArray} {row : Option Nat} (h : OwnT w base v d) (hg : w.grownBy w' row) (hne : v.ownBlock ≠ row ∨ v.ownBlock = none) : OwnT w' base v d := by
  obtain ⟨h1, h2 | ⟨g, cap, cur, rfl, hgb, hh, rest⟩⟩ := h
  · exact ⟨h1, .inl h2⟩
  · refine ⟨h1, .inr ⟨g, cap, cur, rfl, hgb, ?_, rest⟩⟩
    have hb : some g ≠ row := by
      rcases hne with h | h
      · exact h
      · cases h
    exact (hg.block g (lt_of_block hh) hb).trans hh
theorem mapN_kept {w w' : World} {b n : Nat} {d : Al Nat} {row : Option Nat} (h : MapN w b n d) (hg : w.grownBy w' row) (hne : some b ≠ row) : MapN w' b n d := by
  obtain ⟨D, h1, h2⟩ := h
  exact ⟨D, World.ownsMap.kept h1 hg hne, h2⟩
def Wrote (w : World) (base s n : Nat) (d : Al Nat) (ks : List ByteArray) (w' : World) : Prop := (∃ b wv, Stk w' base s n d ks b wv) ∧ Kp base w w'
theorem wrote_of {w w1 w3 : World} {base s n m : Nat} {d d' : Al Nat} {ks : List ByteArray} {b : Nat} {wv v3 : Value} {key : ByteArray} (h : Stk w base s n d ks b wv) (hb : base ≤ w.heap.size) (hm : MapN w1 b m d') (hg : w.grownBy w1 (some b))
    (hr : OwnT w3 base v3 (ks ++ [key])) (hg2 : (w1.alloc (.cells #[.string key] 9)).grownBy w3 wv.ownBlock) : Wrote w base s m d' (ks ++ [key]) (w3.setCell ⟨s, 1, none⟩ v3) := by
  obtain ⟨n1, n2, n3⟩ := row_ne_box h
  have hbox1 : w1.heap[s]? = some (.cells #[.map (some b), wv] 256 (0, 0)) := (hg.block s h.lt (fun e => n3 (Option.some.inj e))).trans h.box
  have hs1 := lt_of_block hbox1
  have hga := World.grownBy_alloc w1 (.cells #[.string key] 9) none
  have hbox2 : (w1.alloc (.cells #[.string key] 9)).heap[s]? = some (.cells #[.map (some b), wv] 256 (0, 0)) := (hga.block s hs1 (by simp)).trans hbox1
  have hbox3 : w3.heap[s]? = some (.cells #[.map (some b), wv] 256 (0, 0)) := (hg2.block s (lt_of_block hbox2) (fun e => n1 e.symm)).trans hbox2
  have hm2 := mapN_kept hm hga (by simp)
  have hm3 := mapN_kept hm2 hg2 (fun e => n2 e.symm)
  have hgs := setBox_grown (lt_of_block hbox3) v3
  have hm4 := mapN_kept hm3 hgs (fun e => n3 (Option.some.inj e).symm)
  have hr3 : v3.ownBlock ≠ some s := by
    intro e
    obtain ⟨h1, ⟨rfl, _⟩ | ⟨g, cap, cur, rfl, hg, hh, _⟩⟩ := hr
    · cases e
    · simp only [Value.ownBlock, Option.some.injEq] at e
      subst e
      rw [hh] at hbox3
      simp at hbox3
  refine ⟨⟨b, v3, ⟨setBox hbox3 v3, ownT_kept hr hgs (.inl hr3), hm4, h.bs, h.bb⟩⟩, ?_⟩
  have row1 : OwnT w1 base wv ks := ownT_kept h.row hg (.inl n2)
  have row2 : OwnT (w1.alloc (.cells #[.string key] 9)) base wv ks := ownT_kept row1 hga (by
    by_cases e : wv.ownBlock = none
    · exact .inr e
    · exact .inl e)
  have k1 : Kp base w w1 := Kp.grown hg (fun k e => by cases e; exact ⟨h.bb, mapN_unsafe h.map⟩)
  have k2 : Kp base w1 (w1.alloc (.cells #[.string key] 9)) := Kp.grown hga (fun k e => by cases e)
  have k3 : Kp base (w1.alloc (.cells #[.string key] 9)) w3 := Kp.grown hg2 (ownT_unsafe row2)
  have k4 : Kp base w3 (w3.setCell ⟨s, 1, none⟩ v3) := Kp.grown hgs (fun k e => by
    cases e
    refine ⟨h.bs, ?_⟩
    rintro ⟨c, T, fr, h2, _, h3⟩
    rw [hbox3] at h2
    cases h2
    exact h3 rfl)
  exact ((k1.trans k2).trans k3).trans k4
set_option maxRecDepth 100000 in
set_option maxHeartbeats 4000000 in
theorem sput_any (base s n : Nat) (d : Al Nat) (ks : List ByteArray) (b : Nat) (wv : Value) (key : ByteArray) (x : Nat) (w : World) (hb : base ≤ w.heap.size) (hd : RisA d) (hk : key.size ≤ maxLen) (hn : n < 1000000) (hks : ks.length ≤ 1000000) (h : Stk w base s n d ks b wv) :
    Calls Tryz.prog 149 #[.pointer (some ⟨s, 0, none⟩), .string key, .int .u64 (x : Int)] w fun e w' => e = .returned (.tuple #[]) ∧ Wrote w base s (n + 1) (putA d key x) (ks ++ [key]) w' := by
  have c0 := h.c0
  have hs := h.lt
  obtain ⟨n1, n2', n3⟩ := row_ne_box h
  obtain ⟨w1, hup, hm1, hg1⟩ := mapN_upd h.map hd hk (by omega) x
  have hbox1 : w1.heap[s]? = some (.cells #[.map (some b), wv] 256 (0, 0)) := (hg1.block s h.lt (fun e => n3 (Option.some.inj e))).trans h.box
  have c1 : w1.cell? ⟨s, 1, none⟩ = some wv := by simp only [World.cell?, hbox1]; rfl
  have hs1 : s < w1.heap.size := lt_of_block hbox1
  have HST := Lib.hid h
  have HB := Lib.hid hb
  have HM1 := Lib.hid hm1
  have HG1 := Lib.hid hg1
  have hga := World.grownBy_alloc w1 (.cells #[.string key] 9) none
  have HR2 : Hid (OwnT (w1.alloc (.cells #[.string key] 9)) base wv ks) := ownT_kept (ownT_kept h.row hg1 (.inl n2')) hga (by
    by_cases e : wv.ownBlock = none
    · exact .inr e
    · exact .inl e)
  have hbox2 : (w1.alloc (.cells #[.string key] 9)).heap[s]? = some (.cells #[.map (some b), wv] 256 (0, 0)) := (hga.block s hs1 (by simp)).trans hbox1
  have HBX : Hid (∀ w3, (w1.alloc (.cells #[.string key] 9)).grownBy w3 wv.ownBlock → w3.heap[s]? = some (.cells #[.map (some b), wv] 256 (0, 0))) := fun w3 hg2 => (hg2.block s (lt_of_block hbox2) (fun e => n1 e.symm)).trans hbox2
  have HSZ : Hid (base ≤ (w1.alloc (.cells #[.string key] 9)).heap.size) := Nat.le_trans hb (Nat.le_trans hg1.size hga.size)
  obtain ⟨ga, gc, rfl⟩ := h.row.form
  generalize hN : ks.length = N at *
  have HN := Lib.hid hN
  clear hN h hb hm1 hg1 hga hbox1 hbox2 n1 n2' n3 hs
  go_enter Tryz.func149, Tryz.ntmps149
  go_wp2_with (at_builtin; go_must (refine append_tx rfl _ _ rfl base _ ks rfl HR2.out _ [key] rfl (one_newT _ key _ rfl) (by have := HN.out; simp only [List.length_cons, List.length_nil]; omega) HSZ.out ?_; intro v3 w3 h1 h2; have HO3 := Lib.hid h1; have HG3 := Lib.hid h2; have hbx := HBX.out _ h2; have d0 : w3.cell? ⟨s, 0, none⟩ = some (.map (some b)) := (by simp only [World.cell?, hbx]; rfl); have d1 : w3.cell? ⟨s, 1, none⟩ = some (.slice ga N gc) := (by simp only [World.cell?, hbx]; rfl); have f1 : w3.frozen? ⟨s, 1, none⟩ = false := (by simp only [World.frozen?, hbx]; rfl); have hs3 : s < w3.heap.size := lt_of_block hbx; obtain ⟨g3, e3, rfl⟩ := h1.form; clear h1 h2 hbx; generalize (ks ++ [key]).length = N3 at *))
  first | go_end0 | refine bodyPost_ret (results_none rfl _ _ _) rfl ?_
  exact ⟨rfl, wrote_of HST.out HB.out HM1.out HG1.out HO3.out HG3.out⟩
set_option maxRecDepth 100000 in
set_option maxHeartbeats 4000000 in
theorem sdrop_any (base s n : Nat) (d : Al Nat) (ks : List ByteArray) (b : Nat) (wv : Value) (key : ByteArray) (w : World) (hb : base ≤ w.heap.size) (hd : RisA d) (hk : key.size ≤ maxLen) (hn : n < 1000000) (hks : ks.length ≤ 1000000) (h : Stk w base s n d ks b wv) :
    Calls Tryz.prog 148 #[.pointer (some ⟨s, 0, none⟩), .string key] w fun e w' => e = .returned (.tuple #[]) ∧ Wrote w base s n (delA d key) (ks ++ [key]) w' := by
  have c0 := h.c0
  have hs := h.lt
  obtain ⟨n1, n2', n3⟩ := row_ne_box h
  have hdr := fun ty => mapN_drop h.map hk ty
  obtain ⟨w1, hup, hm1, hg1⟩ := hdr 0
  have hbox1 : w1.heap[s]? = some (.cells #[.map (some b), wv] 256 (0, 0)) := (hg1.block s h.lt (fun e => n3 (Option.some.inj e))).trans h.box
  have c1 : w1.cell? ⟨s, 1, none⟩ = some wv := by simp only [World.cell?, hbox1]; rfl
  have hs1 : s < w1.heap.size := lt_of_block hbox1
  have HST := Lib.hid h
  have HB := Lib.hid hb
  have HM1 := Lib.hid hm1
  have HG1 := Lib.hid hg1
  have hga := World.grownBy_alloc w1 (.cells #[.string key] 9) none
  have HR2 : Hid (OwnT (w1.alloc (.cells #[.string key] 9)) base wv ks) := ownT_kept (ownT_kept h.row hg1 (.inl n2')) hga (by
    by_cases e : wv.ownBlock = none
    · exact .inr e
    · exact .inl e)
  have hbox2 : (w1.alloc (.cells #[.string key] 9)).heap[s]? = some (.cells #[.map (some b), wv] 256 (0, 0)) := (hga.block s hs1 (by simp)).trans hbox1
  have HBX : Hid (∀ w3, (w1.alloc (.cells #[.string key] 9)).grownBy w3 wv.ownBlock → w3.heap[s]? = some (.cells #[.map (some b), wv] 256 (0, 0))) := fun w3 hg2 => (hg2.block s (lt_of_block hbox2) (fun e => n1 e.symm)).trans hbox2
  have HSZ : Hid (base ≤ (w1.alloc (.cells #[.string key] 9)).heap.size) := Nat.le_trans hb (Nat.le_trans hg1.size hga.size)
  obtain ⟨ga, gc, rfl⟩ := h.row.form
  generalize hN : ks.length = N at *
  have HN := Lib.hid hN
  clear hN h hb hm1 hg1 hga hbox1 hbox2 n1 n2' n3 hs
  go_enter Tryz.func148, Tryz.ntmps148
  go_wp2_with (at_builtin; go_must (refine append_tx rfl _ _ rfl base _ ks rfl HR2.out _ [key] rfl (one_newT _ key _ rfl) (by have := HN.out; simp only [List.length_cons, List.length_nil]; omega) HSZ.out ?_; intro v3 w3 h1 h2; have HO3 := Lib.hid h1; have HG3 := Lib.hid h2; have hbx := HBX.out _ h2; have d0 : w3.cell? ⟨s, 0, none⟩ = some (.map (some b)) := (by simp only [World.cell?, hbx]; rfl); have d1 : w3.cell? ⟨s, 1, none⟩ = some (.slice ga N gc) := (by simp only [World.cell?, hbx]; rfl); have f1 : w3.frozen? ⟨s, 1, none⟩ = false := (by simp only [World.frozen?, hbx]; rfl); have hs3 : s < w3.heap.size := lt_of_block hbx; obtain ⟨g3, e3, rfl⟩ := h1.form; clear h1 h2 hbx; generalize (ks ++ [key]).length = N3 at *))
  first | go_end0 | refine bodyPost_ret (results_none rfl _ _ _) rfl ?_
  exact ⟨rfl, wrote_of HST.out HB.out HM1.out HG1.out HO3.out HG3.out⟩
end SP
end Go.Proofs.YtjlkgbejldcklaaGreat
