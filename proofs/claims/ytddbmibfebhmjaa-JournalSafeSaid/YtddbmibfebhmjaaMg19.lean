/- A drum in memory: its struct, a map from numbers to tracks, each track's own row of bytes. Conditions: none. -/
import Derived.Maps.OwnSet
import Derived.Maps.OwnOps
import Derived.Maps.RangeWalk
import Derived.Test.YtddbmibfebhmjaaMg00
import Derived.Test.YtddbmibfebhmjaaMg01
set_option maxRecDepth 100000
set_option maxHeartbeats 16000000
set_option linter.unusedVariables false
namespace Go.Proofs.Ytddbmibfebhmjaa
open S2
namespace SZ
open Go.ChangeShapes Go.WideShapes Go.ChangeAt Go.RowKit
def ptrV (v : Value) : Option (DataW Value × List MemPlace) := match v with | .pointer (some ⟨t, 0, none⟩) => some (.held (.pointer (some ⟨t, 0, none⟩)), []) | _ => none
def kI (s : Int) : Lit := .int .i64 s
theorem kI_key (s : Int) : WideAt.IsKeyLit (kI s) := trivial
theorem kI_ne {s t : Int} (h : s ≠ t) : kI s ≠ kI t := fun e => h (by unfold kI at e; exact (Lit.int.inj e).2)
theorem lawZ : Maps.Keyed Try.prog 3 := Maps.int_keyed Try.underlying3
def atP (t : Nat) : Value := .pointer (some ⟨t, 0, none⟩)
theorem ptrV_inv {v : Value} {y : DataW Value × List MemPlace} (h : ptrV v = some y) : ∃ t, v = atP t ∧ y = (.held (atP t), []) := by
 unfold ptrV at h
 split at h
 ·next t => exact ⟨t, rfl, (Option.some.inj h).symm⟩
 ·cases h
def ptO (o : Option Nat) : Value := .pointer (o.map fun t => ⟨t, 0, none⟩)
def ptrN (v : Value) : Option (DataW Value × List MemPlace) := some (.held v, [])
def zP : DataW Value := .held (.pointer none)
def RepP (M : DataW Value) (tb : Int → Option Nat) : Prop := Maps.IsMap M ∧ ∀ s, Maps.has M (kI s) = (tb s).isSome ∧ ∀ t, tb s = some t → ∀ z, M.atKey (kI s) z = .held (atP t)
def upT (tb : Int → Option Nat) (n : Int) (o : Option Nat) : Int → Option Nat := fun s => if s = n then o else tb s
theorem upT_same (tb : Int → Option Nat) (n : Int) (o : Option Nat) : upT tb n o n = o := if_pos rfl
theorem upT_other (tb : Int → Option Nat) {n s : Int} (o : Option Nat) (h : s ≠ n) : upT tb n o s = tb s := if_neg h
theorem upT_refl (tb : Int → Option Nat) {n : Int} {o : Option Nat} (h : tb n = o) : upT tb n o = tb := by
 funext s
 unfold upT
 split
 ·next e => rw [e, h]
 ·rfl
theorem repP_nil : RepP (.map []) fun _ => none := ⟨Maps.isMap_empty, fun s => ⟨rfl, fun t h => by cases h⟩⟩
theorem repP_put {M : DataW Value} {tb : Int → Option Nat} (h : RepP M tb) (n : Int) (t : Nat) : RepP (M.put (kI n) (.held (atP t))) (upT tb n (some t)) := by
 refine ⟨h.1.put _ _, fun s => ?_⟩
 by_cases e : s = n
 ·subst e
  rw [upT_same]
  exact ⟨Maps.has_put_same h.1 (kI_key _) _, fun t' ht z => by cases ht; exact Maps.atKey_put_same h.1 (kI_key _) _ _⟩
 ·rw [upT_other _ _ e, Maps.has_put_other (kI_ne e)]
  exact ⟨(h.2 s).1, fun t' ht z => by rw [Maps.atKey_put_other (kI_ne e)]; exact (h.2 s).2 t' ht z⟩
theorem repP_del {M : DataW Value} {tb : Int → Option Nat} (h : RepP M tb) (n : Int) : RepP (M.del (kI n)) (upT tb n none) := by
 refine ⟨h.1.del _, fun s => ?_⟩
 by_cases e : s = n
 ·subst e
  rw [upT_same]
  exact ⟨Maps.has_del_same, fun t' ht => by cases ht⟩
 ·rw [upT_other _ _ e, Maps.has_del_other (kI_ne e)]
  exact ⟨(h.2 s).1, fun t' ht z => by rw [Maps.atKey_del_other (kI_ne e)]; exact (h.2 s).2 t' ht z⟩
def MapT (w : World) (m n : Nat) (M : DataW Value) : Prop := w.ownsMap Try.prog 3 ptrV m n M
theorem MapT.lt {w : World} {m n : Nat} {M : DataW Value} (h : MapT w m n M) : m < w.heap.size := World.ownsMap.lt h
theorem MapT.of {w w' : World} {m n : Nat} {M : DataW Value} (h : MapT w m n M) (e : w'.heap[m]? = w.heap[m]?) : MapT w' m n M := by
 obtain ⟨es, clock, hh, r⟩ := h
 exact ⟨es, clock, e.trans hh, r⟩
theorem MapT.mono {w : World} {m n n' : Nat} {M : DataW Value} (h : MapT w m n M) (hn : n ≤ n') : MapT w m n' M := World.ownsMap.mono h hn
theorem MapT.block {w : World} {m n : Nat} {M : DataW Value} (h : MapT w m n M) : ∃ es clock, w.heap[m]? = some (.map es clock) := by
 obtain ⟨es, clock, hh, _⟩ := h
 exact ⟨es, clock, hh⟩
theorem mapT_new (w : World) : MapT (w.alloc (.map #[] 0)) w.heap.size 0 (.map []) := World.ownsMap_made w _ _ _
theorem zeroP (w : World) : (zeroValue 77).run Try.prog w = .ok (.pointer none) w := by kernel_rfl
theorem ptrV_N {v : Value} {z : DataW Value × List MemPlace} (h : ptrV v = some z) : ptrN v = some z := by
 obtain ⟨t, rfl, rfl⟩ := ptrV_inv h
 rfl
theorem mapT_look {w : World} {m n : Nat} {M : DataW Value} {tb : Int → Option Nat} (h : MapT w m n M) (hr : RepP M tb) {s : Int} (hs : (Lit.int .i64 s).wf = true) :
  (Instr.lookup 71 (.map (some m)) (.int .i64 s) false).run Try.prog w = .ok (ptO (tb s)) w := by
 have hN : w.ownsMap Try.prog 3 ptrN m n M := by
  obtain ⟨es, clock, hb, F, hn, hD⟩ := h
  obtain ⟨F1, hmap, _⟩ := F.stay (R' := ptrN) fun x _ z hz => ptrV_N hz
  exact ⟨es, clock, hb, F1, hn, by rw [hD, hmap]⟩
 obtain ⟨v, ps, hrun, hv⟩ := World.ownsMap.lookup (t := 71) (e := 77) hN lawZ Try.underlying71 (zeroP w) (zd := zP) (zp := []) rfl (kl := kI s) (Maps.keyOf_int_mk Try.underlying3 hs)
 have e : M.atKey (kI s) zP = .held v := by
  unfold ptrN at hv
  simp only [Option.some.injEq, Prod.mk.injEq] at hv
  exact hv.1.symm
 rw [hrun]
 cases ht : tb s with
 | none =>
  have h0 : Maps.has M (kI s) = false := by rw [(hr.2 s).1, ht]; rfl
  have h1 : M.atKey (kI s) zP = zP := Maps.atKey_of_not_has h0 _
  rw [h1] at e
  cases e
  rfl
 | some t =>
  rw [(hr.2 s).2 t ht] at e
  cases e
  rfl
theorem mapT_upd {w : World} {m n : Nat} {M : DataW Value} (h : MapT w m n M) {s : Int} (hs : (Lit.int .i64 s).wf = true) (hn : n < 4000000) (t : Nat) :
  ∃ w', (Instr.mapUpdate 71 (.map (some m)) (.int .i64 s) (atP t)).run Try.prog w = .ok () w' ∧ MapT w' m (n + 1) (M.put (kI s) (.held (atP t))) ∧ w.grownBy w' (some m) :=
 World.ownsMap.update (t := 71) (e := 77) (d := .held (atP t)) (ps := []) (val := atP t) h lawZ Try.underlying71 (by unfold maxLen; omega) (Maps.keyOf_int_mk Try.underlying3 hs) rfl
theorem mapT_drop {w : World} {m n : Nat} {M : DataW Value} (h : MapT w m n M) {s : Int} (hs : (Lit.int .i64 s).wf = true) (ty : TypeId) :
  ∃ w', (Builtin.delete_ #[71, 3] ty #[.map (some m), .int .i64 s]).run Try.prog w = .ok (.tuple #[]) w' ∧ MapT w' m n (M.del (kI s)) ∧ w.grownBy w' (some m) := by
 obtain ⟨w', h1, h2, h3⟩ := World.ownsMap.drop (t := 71) (e := 77) h lawZ Try.underlying71 (Maps.keyOf_int_mk Try.underlying3 hs) ty
 exact ⟨w', h1, h2, h3.grown⟩
def TrkAt (w : World) (t : Nat) (v : Value) (s : Nat) : Prop := w.heap[t]? = some (.cells #[v, .int .i64 s] 79 (0, 0))
structure PMem (w : World) (b : Nat) (S : Nat → Prop) (D : Dm) (m n : Nat) (lf : Int) (M : DataW Value) (tb : Int → Option Nat) (rv : Int → Value) : Prop where
 good : D.Good
 blk : w.heap[b]? = some (.cells #[.map (some m), .int .i64 D.free, .int .i64 lf, .bool D.off, .int .i64 D.done] 73 (0, 0))
 lfe : D.off = false → lf = D.left
 lfw : (Lit.int .i64 lf).wf = true
 map : MapT w m n M
 rep : RepP M tb
 key : ∀ s, (tb s).isSome = (getF D.l s).isSome
 trk : ∀ f ∈ D.l, ∀ t, tb f.n = some t → TrkAt w t (rv f.n) f.s ∧ S t
 row : ∀ f ∈ D.l, Row w (rv f.n).ownBlock (rv f.n) f.b ∧ ∀ k, (rv f.n).ownBlock = some k → S k
 inj : ∀ s s' t, tb s = some t → tb s' = some t → s = s'
 apart : ∀ f ∈ D.l, ∀ g ∈ D.l, f.n ≠ g.n → ∀ k, (rv f.n).ownBlock = some k → (rv g.n).ownBlock ≠ some k
 sb : S b
 sm : S m
 slt : ∀ k, S k → k < w.heap.size
def PAx (x : Nat) (w : World) (b : Nat) (S : Nat → Prop) (D : Dm) : Prop := ∃ m n lf M tb rv, PMem w b S D m n lf M tb rv ∧ n ≤ D.done + x
def PAt (w : World) (b : Nat) (S : Nat → Prop) (D : Dm) : Prop := PAx 0 w b S D
def Grow (S : Nat → Prop) (w w' : World) (k : Nat) : Prop := S k ∨ w.heap.size ≤ k ∧ k < w'.heap.size
section
variable {w : World} {b : Nat} {S : Nat → Prop} {D : Dm} {m n : Nat} {lf : Int} {M : DataW Value} {tb : Int → Option Nat} {rv : Int → Value}
theorem PMem.tb_some (h : PMem w b S D m n lf M tb rv) {f : Fil} (hf : f ∈ D.l) : ∃ t, tb f.n = some t := by
 have := h.key f.n
 rw [h.good.ris.get hf] at this
 exact Option.isSome_iff_exists.1 (by simpa using this)
theorem PMem.tb_mem (h : PMem w b S D m n lf M tb rv) {s : Int} {t : Nat} (ht : tb s = some t) : ∃ f ∈ D.l, f.n = s := by
 have := h.key s
 rw [ht] at this
 obtain ⟨f, hf⟩ := Option.isSome_iff_exists.1 (by simpa using this.symm)
 exact ⟨f, (getF_some hf).1, (getF_some hf).2⟩
theorem PMem.tb_get (h : PMem w b S D m n lf M tb rv) {s : Int} {t : Nat} (ht : tb s = some t) : ∃ f, getF D.l s = some f := by
 have := h.key s
 rw [ht] at this
 exact Option.isSome_iff_exists.1 (by simpa using this.symm)
theorem PMem.tb_none (h : PMem w b S D m n lf M tb rv) {s : Int} (ht : tb s = none) : getF D.l s = none := by
 have := h.key s
 rw [ht] at this
 simpa using this.symm
theorem PMem.of (h : PMem w b S D m n lf M tb rv) {w' : World} (hs : w.heap.size ≤ w'.heap.size) (hk : ∀ k, S k → w'.heap[k]? = w.heap[k]?) : PMem w' b S D m n lf M tb rv where
 good := h.good
 blk := (hk b h.sb).trans h.blk
 lfe := h.lfe
 lfw := h.lfw
 map := h.map.of (hk m h.sm)
 rep := h.rep
 key := h.key
 trk := fun f hf t ht => ⟨(hk t (h.trk f hf t ht).2).trans (h.trk f hf t ht).1, (h.trk f hf t ht).2⟩
 row := fun f hf => by
  obtain ⟨⟨⟨h1, h2⟩, h3⟩, h4⟩ := h.row f hf
  refine ⟨⟨⟨h1, ?_⟩, h3⟩, h4⟩
  rcases h2 with h2 | ⟨g, cap, cur, hv, hb, hh, r⟩
  ·exact .inl h2
  ·exact .inr ⟨g, cap, cur, hv, hb, (hk g (h4 g (by rw [hv]; rfl))).trans hh, r⟩
 inj := h.inj
 apart := h.apart
 sb := h.sb
 sm := h.sm
 slt := fun k hk' => Nat.lt_of_lt_of_le (h.slt k hk') hs
theorem PMem.keep (h : PMem w b S D m n lf M tb rv) {T : Nat → Prop} {w' : World} (hk : Keeps T w w') (hT : ∀ k, S k → ¬ T k) : PMem w' b S D m n lf M tb rv :=
 h.of hk.size fun k hs => hk.block k (h.slt k hs) (hT k hs)
theorem PMem.wide (h : PMem w b S D m n lf M tb rv) {S' : Nat → Prop} (hS : ∀ k, S k → S' k) (hl : ∀ k, S' k → k < w.heap.size) : PMem w b S' D m n lf M tb rv :=
 ⟨h.good, h.blk, h.lfe, h.lfw, h.map, h.rep, h.key, fun f hf t ht => ⟨(h.trk f hf t ht).1, hS _ (h.trk f hf t ht).2⟩, fun f hf => ⟨(h.row f hf).1, fun k hk => hS _ ((h.row f hf).2 k hk)⟩, h.inj, h.apart, hS _ h.sb, hS _ h.sm, hl⟩
end
theorem PAt.keep {w w' : World} {b : Nat} {S T : Nat → Prop} {D : Dm} (h : PAt w b S D) (hk : Keeps T w w') (hT : ∀ k, S k → ¬ T k) : PAt w' b S D := by
 obtain ⟨m, n, lf, M, tb, rv, h, hc⟩ := h
 exact ⟨m, n, lf, M, tb, rv, h.keep hk hT, hc⟩
theorem PAt.lt {w : World} {b : Nat} {S : Nat → Prop} {D : Dm} (h : PAt w b S D) : ∀ k, S k → k < w.heap.size := by
 obtain ⟨m, n, lf, M, tb, rv, h, _⟩ := h
 exact h.slt
theorem PAt.good {w : World} {b : Nat} {S : Nat → Prop} {D : Dm} (h : PAt w b S D) : D.Good := by
 obtain ⟨m, n, lf, M, tb, rv, h, _⟩ := h
 exact h.good
theorem row_ne {w : World} {g : Option Nat} {v : Value} {l : List UInt8} (h : Row w g v l) {k : Nat} {c : Array Value} {T : TypeId} {p : Nat × Nat} (hk : w.heap[k]? = some (.cells c T p)) (hT : T ≠ 5) : g ≠ some k := by
 rintro rfl
 obtain ⟨⟨_, h0 | ⟨x, cap, cur, hv, _, hh, _⟩⟩, he⟩ := h
 ·rw [h0.1] at he
  cases he
 ·rw [hv] at he
  cases he
  rw [hk] at hh
  cases hh
  exact hT rfl
theorem row_ne_map {w : World} {g : Option Nat} {v : Value} {l : List UInt8} (h : Row w g v l) {k : Nat} {es : Array MapEntry} {c : Nat} (hk : w.heap[k]? = some (.map es c)) : g ≠ some k := by
 rintro rfl
 obtain ⟨⟨_, h0 | ⟨x, cap, cur, hv, _, hh, _⟩⟩, he⟩ := h
 ·rw [h0.1] at he
  cases he
 ·rw [hv] at he
  cases he
  rw [hk] at hh
  cases hh
section
variable {w : World} {b : Nat} {S : Nat → Prop} {D : Dm} {m n : Nat} {lf : Int} {M : DataW Value} {tb : Int → Option Nat} {rv : Int → Value}
theorem PMem.b_ne_m (h : PMem w b S D m n lf M tb rv) : b ≠ m := by
 rintro rfl
 obtain ⟨es, c, he⟩ := h.map.block
 have := h.blk
 rw [he] at this
 cases this
theorem ty_ne : (73 : TypeId) ≠ 5 := by decide
theorem ty_ne2 : (79 : TypeId) ≠ 5 := by decide
theorem ty_ne3 : (73 : TypeId) ≠ 79 := by decide
theorem TrkAt.ne_b {t : Nat} {v : Value} {s : Nat} (h : TrkAt w t v s) (hm : PMem w b S D m n lf M tb rv) : t ≠ b := by
 rintro rfl
 have := hm.blk
 unfold TrkAt at h
 rw [h] at this
 have := Option.some.inj this
 exact ty_ne3 (Obj.cells.inj this).2.1.symm
theorem TrkAt.ne_m {t : Nat} {v : Value} {s : Nat} (h : TrkAt w t v s) (hm : PMem w b S D m n lf M tb rv) : t ≠ m := by
 rintro rfl
 obtain ⟨es, c, he⟩ := hm.map.block
 unfold TrkAt at h
 rw [he] at h
 cases h
def Few (b m : Nat) (t : Option Nat) (g : Option Nat) (k : Nat) : Prop := k = b ∨ k = m ∨ t = some k ∨ g = some k
theorem PMem.put (h : PMem w b S D m n lf M tb rv) {w' : World} {f : Fil} {t : Nat} {v' : Value} {n' : Nat} {lf' : Int} {M' : DataW Value} {left' : Int} {off' : Bool} {done' : Nat}
  (hg : (⟨putF D.l f, D.room, left', off', done'⟩ : Dm).Good) (hk : Keeps (Few b m (tb f.n) (if (tb f.n).isSome then (rv f.n).ownBlock else none)) w w') (hblk : w'.heap[b]? = some (.cells #[.map (some m), .int .i64 (Dm.free ⟨putF D.l f, D.room, left', off', done'⟩), .int .i64 lf', .bool off', .int .i64 done'] 73 (0, 0)))
  (hlf : off' = false → lf' = left') (hlw : (Lit.int .i64 lf').wf = true) (hmap : MapT w' m n' M') (hrep : RepP M' (upT tb f.n (some t)))
  (ht : tb f.n = some t ∨ tb f.n = none ∧ w.heap.size ≤ t ∧ t < w'.heap.size) (htrk : TrkAt w' t v' f.s) (hrow : Row w' v'.ownBlock v' f.b) (hv : (tb f.n = some t ∧ v'.ownBlock = (rv f.n).ownBlock) ∨ New w v'.ownBlock) :
  PMem w' b (Grow S w w') ⟨putF D.l f, D.room, left', off', done'⟩ m n' lf' M' (upT tb f.n (some t)) (fun s => if s = f.n then v' else rv s) := by
 have hsz := hk.size
 have hmem : ∀ g, g ∈ putF D.l f ↔ g = f ∨ g ∈ D.l ∧ g.n ≠ f.n := putF_mem h.good.ris f
 have hkeep : ∀ g ∈ D.l, g.n ≠ f.n → ∀ k, tb g.n = some k ∨ (rv g.n).ownBlock = some k → ¬ Few b m (tb f.n) (if (tb f.n).isSome then (rv f.n).ownBlock else none) k := by
  rintro g hg hne k hkk (rfl | rfl | e | e)
  ·rcases hkk with hkk | hkk
   ·exact (h.trk g hg _ hkk).1.ne_b h rfl
   ·exact row_ne (h.row g hg).1 h.blk ty_ne hkk
  ·rcases hkk with hkk | hkk
   ·exact (h.trk g hg _ hkk).1.ne_m h rfl
   ·obtain ⟨es, c, he⟩ := h.map.block
    exact row_ne_map (h.row g hg).1 he hkk
  ·rcases hkk with hkk | hkk
   ·exact hne (h.inj _ _ _ hkk e)
   ·obtain ⟨f0, hf0, hfn⟩ := h.tb_mem e
    rw [← hfn] at e
    exact row_ne (h.row g hg).1 (h.trk f0 hf0 _ e).1 ty_ne2 hkk
  ·split at e
   ·next hs =>
    obtain ⟨t0, ht0⟩ := Option.isSome_iff_exists.1 hs
    obtain ⟨f0, hf0, hfn⟩ := h.tb_mem ht0
    rcases hkk with hkk | hkk
    ·rw [← hfn] at e
     exact row_ne (h.row f0 hf0).1 (h.trk g hg _ hkk).1 ty_ne2 e
    ·rw [← hfn] at e hne
     exact h.apart g hg f0 hf0 hne k hkk e
   ·cases e
 have hlt : ∀ g ∈ D.l, ∀ k, tb g.n = some k ∨ (rv g.n).ownBlock = some k → k < w.heap.size := by
  rintro g hg k (hkk | hkk)
  ·exact h.slt _ (h.trk g hg _ hkk).2
  ·exact h.slt _ ((h.row g hg).2 _ hkk)
 have ht' : t < w'.heap.size := lt_of_block htrk
 have hS : ∀ k, Grow S w w' k → k < w'.heap.size := by
  rintro k (hk' | hk')
  ·exact Nat.lt_of_lt_of_le (h.slt k hk') hsz
  ·exact hk'.2
 have hvS : ∀ k, v'.ownBlock = some k → Grow S w w' k := by
  intro k hk'
  rcases hv with ⟨h1, h2⟩ | h1
  ·obtain ⟨f0, hf0, hfn⟩ := h.tb_mem h1
   rw [h2, ← hfn] at hk'
   exact .inl ((h.row f0 hf0).2 k hk')
  ·exact .inr ⟨h1 k hk', hrow.lt hk'⟩
 have htS : Grow S w w' t := by
  rcases ht with h1 | h1
  ·obtain ⟨f0, hf0, hfn⟩ := h.tb_mem h1
   rw [← hfn] at h1
   exact .inl (h.trk f0 hf0 _ h1).2
  ·exact .inr h1.2
 have htn : ∀ s, s ≠ f.n → tb s ≠ some t := by
  intro s hs e
  rcases ht with h1 | h1
  ·exact hs (h.inj _ _ _ e h1)
  ·obtain ⟨f0, hf0, hfn⟩ := h.tb_mem e
   rw [← hfn] at e
   have := hlt f0 hf0 t (.inl e)
   omega
 refine ⟨hg, hblk, hlf, hlw, hmap, hrep, fun s => ?_, fun g hgm t' ht' => ?_, fun g hgm => ?_, fun s s' t' h1 h2 => ?_, fun g hgm g' hgm' hne k hk1 => ?_, .inl h.sb, .inl h.sm, hS⟩
 ·show (upT tb f.n (some t) s).isSome = (getF (putF D.l f) s).isSome
  by_cases e : s = f.n
  ·subst e
   rw [upT_same, (h.good.ris.put f).get ((hmem f).2 (.inl rfl))]
   rfl
  ·rw [upT_other _ _ e, h.key s]
   cases e1 : getF D.l s with
   | none =>
    have : getF (putF D.l f) s = none := getF_none.2 fun g hg => by
     rcases (hmem g).1 hg with rfl | hg
     ·exact fun e2 => e e2.symm
     ·exact getF_none.1 e1 g hg.1
    rw [this]
   | some g =>
    obtain ⟨hg1, hg2⟩ := getF_some e1
    subst hg2
    rw [(h.good.ris.put f).get ((hmem g).2 (.inr ⟨hg1, e⟩))]
 ·rcases (hmem g).1 hgm with rfl | ⟨hg1, hg2⟩
  ·rw [upT_same] at ht'
   cases ht'
   simp only [if_true]
   exact ⟨htrk, htS⟩
  ·rw [upT_other _ _ hg2] at ht'
   simp only [if_neg hg2]
   obtain ⟨h1, h2⟩ := h.trk g hg1 t' ht'
   exact ⟨(hk.block t' (h.slt _ h2) (hkeep g hg1 hg2 t' (.inl ht'))).trans h1, .inl h2⟩
 ·rcases (hmem g).1 hgm with rfl | ⟨hg1, hg2⟩
  ·simp only [if_true]
   exact ⟨hrow, hvS⟩
  ·simp only [if_neg hg2]
   obtain ⟨h1, h2⟩ := h.row g hg1
   exact ⟨h1.keep hk (fun x hx => hkeep g hg1 hg2 x (.inr hx)), fun k hk' => .inl (h2 k hk')⟩
 ·by_cases e1 : s = f.n
  ·by_cases e2 : s' = f.n
   ·rw [e1, e2]
   ·rw [e1, upT_same] at h1
    rw [upT_other _ _ e2] at h2
    cases h1
    exact absurd h2 (htn s' e2)
  ·rw [upT_other _ _ e1] at h1
   by_cases e2 : s' = f.n
   ·rw [e2, upT_same] at h2
    cases h2
    exact absurd h1 (htn s e1)
   ·rw [upT_other _ _ e2] at h2
    exact h.inj _ _ _ h1 h2
 ·have key : ∀ x ∈ D.l, x.n ≠ f.n → ∀ k, v'.ownBlock = some k → (rv x.n).ownBlock ≠ some k := by
   intro x hx hxn k hk1 hk2
   rcases hv with ⟨h1, h2⟩ | h1
   ·obtain ⟨f0, hf0, hfn⟩ := h.tb_mem h1
    rw [h2, ← hfn] at hk1
    exact h.apart f0 hf0 x hx (by rw [hfn]; exact fun e => hxn e.symm) k hk1 hk2
   ·have := h1 k hk1
    have := hlt x hx k (.inr hk2)
    omega
  rcases (hmem g).1 hgm with rfl | ⟨hg1, hg2⟩
  ·rcases (hmem g').1 hgm' with rfl | ⟨hg1', hg2'⟩
   ·exact absurd rfl hne
   ·simp only [if_true] at hk1
    simp only [if_neg hg2']
    exact key g' hg1' hg2' k hk1
  ·simp only [if_neg hg2] at hk1
   rcases (hmem g').1 hgm' with rfl | ⟨hg1', hg2'⟩
   ·simp only [if_true]
    exact fun e => key g hg1 hg2 k e hk1
   ·simp only [if_neg hg2']
    exact h.apart g hg1 g' hg1' hne k hk1
theorem PMem.del (h : PMem w b S D m n lf M tb rv) {w' : World} {x : Int} {lf' : Int} {M' : DataW Value} {left' : Int} {off' : Bool} {done' : Nat}
  (hk : Keeps (Few b m none none) w w') (hblk : w'.heap[b]? = some (.cells #[.map (some m), .int .i64 (Dm.free ⟨delF D.l x, D.room, left', off', done'⟩), .int .i64 lf', .bool off', .int .i64 done'] 73 (0, 0)))
  (hlf : off' = false → lf' = left') (hlw : (Lit.int .i64 lf').wf = true) (hmap : MapT w' m n M') (hrep : RepP M' (upT tb x none)) :
  PMem w' b (Grow S w w') ⟨delF D.l x, D.room, left', off', done'⟩ m n lf' M' (upT tb x none) rv := by
 have hS : ∀ k, Grow S w w' k → k < w'.heap.size := by
  rintro k (hk' | hk')
  ·exact Nat.lt_of_lt_of_le (h.slt k hk') hk.size
  ·exact hk'.2
 have hone : ∀ f ∈ D.l, ∀ k, tb f.n = some k ∨ (rv f.n).ownBlock = some k → ¬ Few b m none none k := by
  rintro g hg k hkk (rfl | rfl | e | e)
  ·rcases hkk with hkk | hkk
   ·exact (h.trk g hg _ hkk).1.ne_b h rfl
   ·exact row_ne (h.row g hg).1 h.blk ty_ne hkk
  ·rcases hkk with hkk | hkk
   ·exact (h.trk g hg _ hkk).1.ne_m h rfl
   ·obtain ⟨es, c, he⟩ := h.map.block
    exact row_ne_map (h.row g hg).1 he hkk
  ·cases e
  ·cases e
 refine ⟨delF_good h.good x _ _ _, hblk, hlf, hlw, hmap, hrep, fun s => ?_, fun g hgm t' ht' => ?_, fun g hgm => ?_, fun s s' t' h1 h2 => ?_, fun g hgm g' hgm' hne k hk1 => ?_, .inl h.sb, .inl h.sm, hS⟩
 ·show (upT tb x none s).isSome = (getF (delF D.l x) s).isSome
  by_cases e : s = x
  ·subst e
   rw [upT_same, getF_none.2 fun g hg => (delF_mem.1 hg).2]
   rfl
  ·rw [upT_other _ _ e, h.key s]
   cases e1 : getF D.l s with
   | none => rw [getF_none.2 fun g hg => getF_none.1 e1 g (delF_mem.1 hg).1]
   | some g =>
    obtain ⟨hg1, hg2⟩ := getF_some e1
    subst hg2
    rw [(h.good.ris.del x).get (delF_mem.2 ⟨hg1, e⟩)]
 ·obtain ⟨hg1, hg2⟩ := delF_mem.1 hgm
  rw [upT_other _ _ hg2] at ht'
  obtain ⟨h1, h2⟩ := h.trk g hg1 t' ht'
  exact ⟨(hk.block t' (h.slt _ h2) (hone g hg1 t' (.inl ht'))).trans h1, .inl h2⟩
 ·obtain ⟨hg1, hg2⟩ := delF_mem.1 hgm
  obtain ⟨h1, h2⟩ := h.row g hg1
  exact ⟨h1.keep hk (fun y hy => hone g hg1 y (.inr hy)), fun k hk' => .inl (h2 k hk')⟩
 ·by_cases e1 : s = x
  ·rw [e1, upT_same] at h1; cases h1
  ·by_cases e2 : s' = x
   ·rw [e2, upT_same] at h2; cases h2
   ·rw [upT_other _ _ e1] at h1
    rw [upT_other _ _ e2] at h2
    exact h.inj _ _ _ h1 h2
 ·exact h.apart g (delF_mem.1 hgm).1 g' (delF_mem.1 hgm').1 hne k hk1
theorem PMem.num (h : PMem w b S D m n lf M tb rv) {w' : World} {lf' : Int} {left' : Int} {off' : Bool} {done' : Nat}
  (hk : Keeps (fun k => k = b) w w') (hblk : w'.heap[b]? = some (.cells #[.map (some m), .int .i64 D.free, .int .i64 lf', .bool off', .int .i64 done'] 73 (0, 0)))
  (hlf : off' = false → lf' = left') (hlw : (Lit.int .i64 lf').wf = true) :
  PMem w' b S ⟨D.l, D.room, left', off', done'⟩ m n lf' M tb rv where
 good := h.good.with _ _ _
 blk := hblk
 lfe := hlf
 lfw := hlw
 map := h.map.of (hk.block m (h.slt m h.sm) (fun e => h.b_ne_m e.symm))
 rep := h.rep
 key := h.key
 trk := fun f hf t ht => ⟨(hk.block t (h.slt _ (h.trk f hf t ht).2) ((h.trk f hf t ht).1.ne_b h)).trans (h.trk f hf t ht).1, (h.trk f hf t ht).2⟩
 row := fun f hf => ⟨(h.row f hf).1.keep hk fun x hx e => row_ne (h.row f hf).1 h.blk ty_ne (e ▸ hx), (h.row f hf).2⟩
 inj := h.inj
 apart := h.apart
 sb := h.sb
 sm := h.sm
 slt := fun k hk' => Nat.lt_of_lt_of_le (h.slt k hk') hk.size
end
end SZ
end Go.Proofs.Ytddbmibfebhmjaa
