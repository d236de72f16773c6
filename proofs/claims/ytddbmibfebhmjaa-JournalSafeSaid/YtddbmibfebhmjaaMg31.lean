/- JournalSafe, over whatever comes in. Conditions: none. -/
import Derived.Maps.AppendAt
import Derived.RangeFuncBox
import Derived.Lib.SlBytesConst
import Derived.Test.YtddbmibfebhmjaaMg30
import Derived.Test.YtddbmibfebhmjaaMg26
import Derived.Test.YtddbmibfebhmjaaMg27
set_option maxRecDepth 100000
set_option maxHeartbeats 16000000
set_option linter.unusedVariables false
set_option linter.unusedSimpArgs false
namespace Go.Proofs.Ytddbmibfebhmjaa
open S2 SZ
namespace SJ
open Go.RowKit Go.Sort Go.Shelf
attribute [local go_sem] Oper.semAt_some
def PayAt (n0 : Nat) (W : World) (v : Value) (l : List UInt8) : Prop := ∃ a c g, v = .slice a l.length c ∧ Bw W g v l ∧ (l ≠ [] → n0 ≤ g ∧ ∃ C p, W.heap[g]? = some (.cells C 5 p))
def SameU (t : TypeId) (A B : World) : Prop := ∀ (k : Nat) C p, A.heap[k]? = some (Obj.cells C t p) → B.heap[k]? = some (Obj.cells C t p)
theorem PayAt.of {n0 : Nat} {A B : World} {v : Value} {l : List UInt8} (h : PayAt n0 A v l) (k : SameU 5 A B) : PayAt n0 B v l := by
 obtain ⟨a, c, g, hv, hb, ht⟩ := h
 refine ⟨a, c, g, hv, bw_of_block hb fun hne => ?_, fun hne => ?_⟩
 ·obtain ⟨_, C, p, hx⟩ := ht hne
  rw [hx]
  exact k g C p hx
 ·obtain ⟨h1, C, p, hx⟩ := ht hne
  exact ⟨h1, C, p, k g C p hx⟩
theorem PayAt.nil (n0 : Nat) (W : World) : PayAt n0 W (.slice none 0 0) [] := ⟨none, 0, 0, rfl, ⟨none, 0, rfl, fun _ => ⟨rfl, rfl⟩, Nat.zero_le _, fun h => absurd rfl h⟩, fun h => absurd rfl h⟩
theorem MemE.pay {n0 : Nat} {x : Ev} {W : World} (h : MemE n0 x W) : PayAt n0 W (.slice x.a x.l.length x.c) x.l := by
 obtain ⟨⟨g, h1, h2⟩, _⟩ := h
 exact ⟨_, _, g, rfl, h1, h2⟩
def RecsP (n0 : Nat) (W : World) (v : Value) (L : List (List UInt8)) : Prop :=
 ∃ vs : List Value, W.ownsRow n0 39 1 v L.length vs ∧ ∀ (i : Nat) l, L[i]? = some l → ∃ u, vs[i]? = some u ∧ PayAt n0 W u l
theorem ownsRow_of {A B : World} {n0 sz n : Nat} {t : TypeId} {v : Value} {xs : List Value} (h : A.ownsRow n0 t sz v n xs) (k : ∀ g, v.ownBlock = some g → B.heap[g]? = A.heap[g]?) : B.ownsRow n0 t sz v n xs := by
 obtain ⟨h1, h2 | ⟨g, cap, cur, hv, hg, hh, r⟩⟩ := h
 ·exact ⟨h1, .inl h2⟩
 ·exact ⟨h1, .inr ⟨g, cap, cur, hv, hg, (k g (by rw [hv]; rfl)).trans hh, r⟩⟩
theorem ownsRow_at {A : World} {n0 sz n : Nat} {t : TypeId} {v : Value} {xs : List Value} (h : A.ownsRow n0 t sz v n xs) {g : Nat} (hg : v.ownBlock = some g) : n0 ≤ g ∧ ∃ C, A.heap[g]? = some (.cells C t (0, 0)) := by
 obtain ⟨h1, ⟨hv, _⟩ | ⟨g', cap, cur, hv, hg', hh, r⟩⟩ := h
 ·rw [hv] at hg; cases hg
 ·rw [hv] at hg
  cases hg
  exact ⟨hg', _, hh⟩
theorem RecsP.of {n0 : Nat} {A B : World} {v : Value} {L : List (List UInt8)} (h : RecsP n0 A v L) (k : SameU 5 A B) (kr : ∀ g, v.ownBlock = some g → B.heap[g]? = A.heap[g]?) : RecsP n0 B v L := by
 obtain ⟨vs, h1, h2⟩ := h
 refine ⟨vs, ownsRow_of h1 kr, fun i l hl => ?_⟩
 obtain ⟨u, hu, hp⟩ := h2 i l hl
 exact ⟨u, hu, hp.of k⟩
theorem RecsP.nil (n0 : Nat) (W : World) : RecsP n0 W (.slice none 0 0) [] := ⟨[], World.ownsRow_nil _ _ _ _, fun i l h => by simp at h⟩
theorem RecsP.form {n0 : Nat} {W : World} {v : Value} {L : List (List UInt8)} (h : RecsP n0 W v L) : ∃ a c, v = .slice a L.length c := by
 obtain ⟨vs, ⟨_, ⟨hv, hn⟩ | ⟨g, cap, cur, hv, _⟩⟩, _⟩ := h
 ·exact ⟨none, 0, by rw [hv, hn]⟩
 ·exact ⟨_, _, hv⟩
structure Rd (x W : World) (b5 b6 : Nat) (vf : Value) (fl : List Int) (acc : List UInt8 × List (List UInt8)) (vb vr : Value) : Prop where
 k : Keeps (fun _ => False) x W
 f : S4.OwnI W x.heap.size vf fl
 bb : W.heap[b5]? = some (.cells #[vb] 39 (0, 0))
 bv : PayAt x.heap.size W vb acc.1
 rb : W.heap[b6]? = some (.cells #[vr] 32 (0, 0))
 rv : RecsP x.heap.size W vr acc.2
 rn : ∀ k, vr.ownBlock = some k → k ≠ b5
 n5 : x.heap.size ≤ b5
 n6 : x.heap.size ≤ b6
section
variable {x W : World} {b5 b6 : Nat} {vf : Value} {fl : List Int} {acc : List UInt8 × List (List UInt8)} {vb vr : Value}
theorem Rd.row (h : Rd x W b5 b6 vf fl acc vb vr) {g : Nat} (hg : vr.ownBlock = some g) : x.heap.size ≤ g ∧ ∃ C, W.heap[g]? = some (.cells C 39 (0, 0)) := by
 obtain ⟨vs, h1, _⟩ := h.rv
 exact ownsRow_at h1 hg
theorem Rd.same (h : Rd x W b5 b6 vf fl acc vb vr) {W' : World} (ho : W'.os = W.os ∧ W'.tape = W.tape ∧ W'.output = W.output) (hs : W.heap.size ≤ W'.heap.size) (hk : ∀ k o, W.heap[k]? = some o → (k < x.heap.size ∨ ∃ C t p, o = .cells C t p ∧ t ≠ 138) → W'.heap[k]? = some o) : Rd x W' b5 b6 vf fl acc vb vr := by
 have hu : SameU 5 W W' := fun k C p e => hk k _ e (.inr ⟨C, 5, p, rfl, by decide⟩)
 refine ⟨⟨ho.1.trans h.k.os, ho.2.1.trans h.k.tape, ho.2.2.trans h.k.output, Nat.le_trans h.k.size hs, fun k hk1 _ => ?_⟩, ?_, hk _ _ h.bb (.inr ⟨_, _, _, rfl, by decide⟩), h.bv.of hu, hk _ _ h.rb (.inr ⟨_, _, _, rfl, by decide⟩), h.rv.of hu fun g hg => ?_, h.rn, h.n5, h.n6⟩
 ·have e := h.k.block k hk1 (fun h => h)
  rw [Array.getElem?_eq_getElem hk1] at e ⊢
  exact hk k _ e (.inl hk1)
 ·refine ownsRow_of h.f fun g hg => ?_
  obtain ⟨_, C, hc⟩ := ownsRow_at h.f hg
  rw [hc]
  exact hk g _ hc (.inr ⟨_, _, _, rfl, by decide⟩)
 ·obtain ⟨_, C, hc⟩ := h.row hg
  rw [hc]
  exact hk g _ hc (.inr ⟨_, _, _, rfl, by decide⟩)
theorem Rd.oth (h : Rd x W b5 b6 vf fl acc vb vr) {W' : World} (ho : Oth x.heap.size W W') : Rd x W' b5 b6 vf fl acc vb vr := by
 refine h.same ⟨ho.os, ho.tape, ho.output⟩ ho.size fun k o hk hc => ho.same k o hk (hc.imp id ?_)
 rintro ⟨C, t, p, rfl, ht⟩
 refine ⟨fun ⟨c, q, e⟩ => ht (by cases e; rfl), fun e => ?_⟩
 rcases e with ⟨r, e⟩ | ⟨d, e⟩ <;> cases e
theorem Rd.upd (h : Rd x W b5 b6 vf fl acc vb vr) {W' : World} {acc' : List UInt8 × List (List UInt8)} {vb' vr' : Value} (ho : W'.os = W.os ∧ W'.tape = W.tape ∧ W'.output = W.output) (hs : W.heap.size ≤ W'.heap.size)
  (hk : ∀ k, k < W.heap.size → k ≠ b5 → k ≠ b6 → vr.ownBlock ≠ some k → W'.heap[k]? = W.heap[k]?) (hbb : W'.heap[b5]? = some (.cells #[vb'] 39 (0, 0))) (hbv : PayAt x.heap.size W' vb' acc'.1)
  (hrb : W'.heap[b6]? = some (.cells #[vr'] 32 (0, 0))) (hrv : RecsP x.heap.size W' vr' acc'.2) (hrn : ∀ k, vr'.ownBlock = some k → k ≠ b5) : Rd x W' b5 b6 vf fl acc' vb' vr' := by
 refine ⟨⟨ho.1.trans h.k.os, ho.2.1.trans h.k.tape, ho.2.2.trans h.k.output, Nat.le_trans h.k.size hs, fun k hk1 hk2 => ?_⟩, ?_, hbb, hbv, hrb, hrv, hrn, h.n5, h.n6⟩
 ·refine (hk k (Nat.lt_of_lt_of_le hk1 h.k.size) ?_ ?_ ?_).trans (h.k.block k hk1 hk2)
  ·have := h.n5; omega
  ·have := h.n6; omega
  ·intro e
   have := (h.row e).1
   omega
 ·refine ownsRow_of h.f fun g hg => ?_
  obtain ⟨_, C, hc⟩ := ownsRow_at h.f hg
  refine hk g (Array.getElem?_eq_some_iff.1 hc).1 ?_ ?_ ?_
  ·rintro rfl; rw [h.bb] at hc; cases hc
  ·rintro rfl; rw [h.rb] at hc; cases hc
  ·intro e
   obtain ⟨_, C', hc'⟩ := h.row e
   rw [hc'] at hc
   cases hc
theorem Rd.bytes (h : Rd x W b5 b6 vf fl acc vb vr) {W' : World} (hk : ∀ k, k < W.heap.size → k ≠ b5 → k ≠ b6 → vr.ownBlock ≠ some k → W'.heap[k]? = W.heap[k]?) {t : TypeId} (h1 : t ≠ 39) (h2 : t ≠ 32) : SameU t W W' := by
 intro k C p hc
 rw [hk k (Array.getElem?_eq_some_iff.1 hc).1 ?_ ?_ ?_]
 ·exact hc
 ·rintro rfl; rw [h.bb] at hc; cases hc; exact h1 rfl
 ·rintro rfl; rw [h.rb] at hc; cases hc; exact h2 rfl
 ·intro e
  obtain ⟨_, C', hc'⟩ := h.row e
  rw [hc'] at hc
  cases hc
  exact h1 rfl
theorem Rd.soft (h : Rd x W b5 b6 vf fl acc vb vr) {W' : World} {Bl : Nat} (hs : W.heap.size ≤ W'.heap.size) (hk : ∀ k, k < W.heap.size → k ≠ b5 → k ≠ b6 → vr.ownBlock ≠ some k → W'.heap[k]? = W.heap[k]?) (h5 : Bl ≠ b5) (h6 : Bl ≠ b6) (hr : vr.ownBlock ≠ some Bl) : Bod Bl W W' := by
 refine ⟨hs, fun k o hc ho => ?_⟩
 have key : ∀ C t p, (o = .cells C t p) → t ≠ 39 → t ≠ 32 → W'.heap[k]? = some o := fun C t p e n1 n2 => by
  rw [e] at hc ⊢
  exact h.bytes hk n1 n2 k C p hc
 rcases ho with rfl | ⟨C, p, e⟩ | e | ⟨C, p, e⟩
 ·rw [hk k (Array.getElem?_eq_some_iff.1 hc).1 h5 h6 hr]; exact hc
 ·exact key _ _ _ e (by decide) (by decide)
 ·have hn : ∀ C t p, W.heap[k]? ≠ some (.cells C t p) := by
   intro C t p h'
   rw [hc] at h'
   cases h'
   rcases e with ⟨r, e⟩ | ⟨d, e⟩ <;> cases e
  rw [hk k (Array.getElem?_eq_some_iff.1 hc).1 ?_ ?_ ?_]
  ·exact hc
  ·rintro rfl; exact hn _ _ _ h.bb
  ·rintro rfl; exact hn _ _ _ h.rb
  ·intro e
   obtain ⟨_, C', hc'⟩ := h.row e
   exact hn _ _ _ hc'
 ·exact key _ _ _ e (by decide) (by decide)
end
def mark (D : Nat) : Deferred := { target := .collected D, args := #[] }
def Marks (n0 : Nat) (W : World) (Ds : List Nat) : Prop := Ds.Nodup ∧ ∀ D ∈ Ds, n0 ≤ D ∧ W.heap[D]? = some (.deferred (some []))
theorem leaves15 {n n0 : Nat} {P : Program} {fn : Func} {tmps : Array Value} {R : Ending → World → Prop} (Ds : List Nat) : ∀ W : World, Marks n0 W Ds → (∀ W', Oth n0 W W' → ∃ v, (results fn tmps).run P W' = .ok v W' ∧ R (.returned v) W') → LeavesInM Fence.wide n P fn tmps R (Ds.map mark) .returning W := by
 induction Ds with
 | nil =>
  intro W _ h
  exact h W ⟨rfl, rfl, rfl, Nat.le_refl _, fun _ _ h _ => h⟩
 | cons D Ds ih =>
  intro W hm h
  obtain ⟨h1, h2⟩ := hm.2 D List.mem_cons_self
  have hnd := List.nodup_cons.1 hm.1
  refine ⟨by simp, .inl ⟨D, W.putObj D (.deferred none), rfl, run_takeDeferred h2, ih _ ⟨hnd.2, fun E hE => ?_⟩ fun W' hW' => h W' ((Oth.put _ h2 h1 (.inr ⟨_, rfl⟩)).trans hW')⟩⟩
  have hne : E ≠ D := fun e => hnd.1 (e ▸ hE)
  exact ⟨(hm.2 E (List.mem_cons_of_mem _ hE)).1, (World.putObj_heap_other hne).trans (hm.2 E (List.mem_cons_of_mem _ hE)).2⟩

attribute [local go_sem] Oper.semAt_some
theorem frames_any (a : Option Addr) (n c : Nat) (w : World) : Calls Try.prog 67 #[.slice a n c] w fun e w' => e = .returned (.func (.func 77) #[] #[.pointer (some ⟨w.heap.size, 0, none⟩)]) ∧ w' = w.alloc (.cells #[.slice a n c] 39) := by
 go_enter Try.func67, Try.ntmps67
 go_wp2
 go_ret
 exact ⟨rfl, rfl⟩
theorem info_bytes15 : (Try.prog.info? 39).map (fun i => (i.zero, i.size, i.bytes)) = some (some (.slice none 0 0), 1, 24) := by kernel_rfl
theorem recs_app {n0 : Nat} {W : World} {v u : Value} {L : List (List UInt8)} {l : List UInt8} (h : RecsP n0 W v L) (hu : PayAt n0 W u l) (hlen : L.length ≤ 10000000) (hb : n0 ≤ W.heap.size) (ty : TypeId) :
  ∃ v' w1, (Builtin.append_ #[32, 32] ty #[v, .slice (some ⟨W.heap.size, 0, none⟩) 1 1]).run Try.prog (W.alloc (.cells #[u] 39)) = .ok v' w1 ∧ RecsP n0 w1 v' (L ++ [l]) ∧ (W.alloc (.cells #[u] 39)).grownBy w1 v.ownBlock ∧ (v'.ownBlock = v.ownBlock ∨ v'.ownBlock = some (W.heap.size + 1)) := by
 obtain ⟨vs, h1, h2⟩ := h
 obtain ⟨i0, hi, hz0, hz1, hz2⟩ := info_parts info_bytes15
 have hk : Keeps (fun _ => False) W (W.alloc (.cells #[u] 39)) := Keeps.alloc _ _ _
 have hown : (W.alloc (.cells #[u] 39)).ownsRow n0 39 1 v L.length vs := ownsRow_of h1 fun g hg => by
  obtain ⟨_, C, hc⟩ := ownsRow_at h1 hg
  exact hk.block g (Array.getElem?_eq_some_iff.1 hc).1 (fun h => h)
 obtain ⟨a, c, g, hv, hbw, ht⟩ := hu
 have hu' : PayAt n0 W u l := ⟨a, c, g, hv, hbw, ht⟩
 obtain ⟨v', w1, hrun, r1, r2, r3, r4⟩ := run_append_own_at (P := Try.prog) (W.alloc (.cells #[u] 39)) n0 32 ty 39 i0 (.slice none 0 0) 1 24 Try.underlying32 hi hz0 hz1 hz2 rfl (by decide) v L.length vs hown ⟨W.heap.size, 0, none⟩ 1 1 [u] rfl
  (fun j x hx => by
   match j, hx with
   | 0, hx =>
    simp at hx
    subst hx
    rw [add_plain]
    exact cell_of_one (heap_alloc_new W _)) (fun x hx => by simp at hx; subst hx; rw [hv]; rfl) (by unfold maxLen; omega) (by omega) (by rw [World.size_alloc]; omega)
 refine ⟨v', w1, hrun, ⟨vs ++ [u], by rw [List.length_append]; exact r1, fun i x hx => ?_⟩, r2, by rw [World.size_alloc] at r4; exact r4⟩
 have hsu : SameU 5 W w1 := by
  intro k C p hc
  have e1 := (hk.block k (Array.getElem?_eq_some_iff.1 hc).1 (fun h => h)).trans hc
  refine (r2.block k (Array.getElem?_eq_some_iff.1 e1).1 fun e => ?_).trans e1
  obtain ⟨_, C', hc'⟩ := ownsRow_at h1 e.symm
  rw [hc] at hc'
  cases hc'
 have hvl : vs.length = L.length := by have := h1.1; omega
 by_cases hi : i < L.length
 ·rw [List.getElem?_append_left hi] at hx
  obtain ⟨y, hy, hp⟩ := h2 i x hx
  exact ⟨y, by rw [List.getElem?_append_left (by omega)]; exact hy, hp.of hsu⟩
 ·have hi2 : i = L.length := by
   have := (List.getElem?_eq_some_iff.1 hx).1
   simp at this
   omega
  subst hi2
  simp at hx
  subst hx
  exact ⟨u, by rw [← hvl]; simp, hu'.of hsu⟩
theorem wpListIn_run15 {F : Fence} {n : Nat} {P : Program} {w w' : World} {ops : Array Oper} {rest : List Oper} {o : Oper} {a : Act} {Q : Exit → Act → World → Prop} (hg : o.guard = none) (s x : Operand) (t : TypeId)
  (hop : o.op = Op.call { callee := Callee.builtin Builtin.append, args := #[s, x], argTypes := #[t, t] }) {v xv v' : Value} (hs : a.eval s = v) (hx : a.eval x = xv) (hrun : (Builtin.append_ #[t, t] o.type #[v, xv]).run P w = .ok v' w')
  (hK : wpListIn F n P ops Q rest (a.put o.dst v') w') : wpListIn F n P ops Q (o :: rest) a w := by
 refine wpListIn_plain hg fun K hK' => ?_
 unfold Oper.wpIn
 refine ⟨by simp [Oper.about, hop, resolve, Target.leads, Sem.run_pure], ?_⟩
 rw [Oper.semAt_plain F _ _ (by rw [hop]; intro c hc'; cases hc')]
 simp [execOp, hop, resolve, invoke, builtin, hs, hx, hrun, Result.andThen]
 exact hK' _ _ hK
def ReadAll (x : World) (l : List Fil) (e : Ending) (y : World) : Prop := ∃ vb vr, e = .returned (.tuple #[vb, vr, .int .i64 0]) ∧ PayAt x.heap.size y vb (tellD l).1 ∧ RecsP x.heap.size y vr (tellD l).2 ∧ Keeps (fun _ => False) x y
theorem tellF_len (acc : List UInt8 × List (List UInt8)) (fs : List (Bool × List UInt8)) : (tellF acc fs).2.length ≤ acc.2.length + fs.length := by
 induction fs generalizing acc with
 | nil => simp [tellF]
 | cons f fs ih =>
  have e : tellF acc (f :: fs) = tellF (if f.1 then (f.2, []) else (acc.1, acc.2 ++ [f.2])) fs := rfl
  rw [e]
  refine Nat.le_trans (ih _) ?_
  split <;> simp <;> omega
theorem tellD_take {l : List Fil} {i : Nat} {f : Fil} (h : l[i]? = some f) : tellD (l.take (i + 1)) = tellF (tellD (l.take i)) (frs f.b) := by
 unfold tellD
 rw [List.take_add_one, h]
 simp
theorem tellD_len (l : List Fil) (i : Nat) : 13 * (tellD (l.take i)).2.length ≤ sumF (l.take i) := by
 induction i with
 | zero => simp [tellD]
 | succ i ih =>
  cases h : l[i]? with
  | none =>
   have : l.take (i + 1) = l.take i := by rw [List.take_add_one, h]; simp
   rw [this]
   exact ih
  | some f =>
   rw [tellD_take h]
   have h1 := tellF_len (tellD (l.take i)) (frs f.b)
   have h2 := frsF_len f.b.length true f.b
   have h3 : sumF (l.take (i + 1)) = sumF (l.take i) + f.b.length := by
    rw [List.take_add_one, h]
    have : ∀ a : List Fil, sumF (a ++ [f]) = sumF a + f.b.length := by
     intro a
     induction a with
     | nil => simp [sumF]
     | cons y a ih => simp only [List.cons_append, sumF, ih]; omega
    simpa using this _
   unfold frs at h1
   unfold frs
   omega
theorem sumF_take (l : List Fil) (i : Nat) : sumF (l.take i) ≤ sumF l := by
 induction l generalizing i with
 | nil => simp [sumF]
 | cons x l ih =>
  cases i with
  | zero => simp [sumF]
  | succ i => simp only [List.take_succ_cons, sumF]; have := ih i; omega
theorem read15_any {w x : World} {b : Nat} {S : Nat → Prop} {D : Dm} (h : Liv w x b S D) (hoff : D.off = false) : Calls Try.prog 55 #[.pointer (some ⟨b, 0, none⟩)] x (ReadAll x D.l) := by
 refine (callsIn_wide (n := 9)).1 ?_
 have HL := Lib.hid h
 have HGD := Lib.hid h.p.good
 have HOFF := Lib.hid hoff
 clear h hoff
 refine callsIn_of_wp_marks Try.func55 rfl trivial ?_ rfl
 simp only [Try.ntmps55, List.size_toArray, List.length_cons, List.length_nil, Nat.reduceAdd, Nat.reduceSub, Array.replicate_succ, Array.replicate_zero, List.push_toArray, List.append_toArray, List.nil_append, List.cons_append]
 gi_wp2
 refine ⟨trivial, ?_⟩
 have hX0 : Keeps (fun _ => False) x (x.alloc (.cells #[.slice none 0 0] 39)) := Keeps.alloc _ _ _
 have hX1 : Keeps (fun _ => False) (x.alloc (.cells #[.slice none 0 0] 39)) ((x.alloc (.cells #[.slice none 0 0] 39)).alloc (.cells #[.slice none 0 0] 32)) := Keeps.alloc _ _ _
 have b5 := heap_alloc_new x (.cells #[.slice none 0 0] 39)
 have b6 := heap_alloc_new (x.alloc (.cells #[.slice none 0 0] 39)) (.cells #[.slice none 0 0] 32)
 rw [World.size_alloc] at b6
 refine (callsIn_wide.2 ((HL.out.keep (hX0.then hX1)).files)).mono ?_
 rintro e x2 ⟨vf, rfl, hof, hbf⟩
 obtain ⟨fa, fc, rfl⟩ := hof.form
 have hk2 : Keeps (fun _ => False) ((x.alloc (.cells #[.slice none 0 0] 39)).alloc (.cells #[.slice none 0 0] 32)) x2 := .ofBelow hbf
 have b5x := (hk2.block x.heap.size (by simp; omega) (fun h => h)).trans ((hX1.block x.heap.size (by simp) (fun h => h)).trans b5)
 have b6x := (hk2.block (x.heap.size + 1) (by simp) (fun h => h)).trans b6
 have HRD : Hid (Rd x x2 x.heap.size (x.heap.size + 1) (.slice fa (D.l.map Fil.n).length fc) (D.l.map Fil.n) (tellD (D.l.take 0)) (.slice none 0 0) (.slice none 0 0)) :=
  Lib.hid ⟨(hX0.then hX1).then hk2, hof.mono (by simp; omega), b5x, PayAt.nil _ _, b6x, RecsP.nil _ _, (fun k hk => by cases hk), Nat.le_refl _, by omega⟩
 clear hX0 hX1 b5 b6 b5x b6x hk2 hof hbf
 have hlm : (D.l.map Fil.n).length = D.l.length := List.length_map _
 rw [hlm] at HRD
 obtain ⟨vf, hvf⟩ : ∃ vf, vf = Value.slice fa D.l.length fc := ⟨_, rfl⟩
 rw [← hvf] at HRD
 have HVF := Lib.hid hvf
 have hlen : D.l.length ≤ 1000 := HGD.out.len
 clear hvf hlm
 gi_wp2
 refine wpIn_loop (fun a' w' => ∃ (i : Nat) (vb vr : Value) (Ds : List Nat) (u8 u9 u10 u11 u12 u17 u18 u19 u20 u21 u22 u23 u24 u25 u26 u27 u28 u29 u30 u31 u32 u33 u34 u35 u36 u37 u38 u39 : Value), (i ≤ D.l.length ∧ Rd x w' x.heap.size (x.heap.size + 1) vf (D.l.map Fil.n) (tellD (D.l.take i)) vb vr ∧ Marks x.heap.size w' Ds) ∧ a' = { tmps := #[.pointer (some ⟨b, 0, none⟩), undef, .slice none 0 0, .slice none 0 0, .int .i64 0, .pointer (some ⟨x.heap.size, 0, none⟩), .pointer (some ⟨x.heap.size + 1, 0, none⟩), undef, u8, u9, u10, u11, u12, .pointer (some ⟨b, 0, none⟩), .slice fa D.l.length fc, .int .i64 D.l.length, .int .i64 i, u17, u18, u19, u20, u21, u22, u23, u24, u25, u26, u27, u28, u29, u30, u31, u32, u33, u34, u35, u36, u37, u38, u39, undef, undef], defers := Ds.map mark }) (fun a' _ => D.l.length - (RowKit.intOf (a'.tmps.getD 16 undef)).toNat) ⟨0, _, _, [], _, _, _, _, _, _, _, _, _, _, _, _, _, _, _, _, _, _, _, _, _, _, _, _, _, _, _, _, ⟨Nat.zero_le _, HRD.out, List.nodup_nil, fun D hD => by cases hD⟩, rfl⟩ ?_
 rintro a' wr ⟨i, vb, vr, Ds, u8, u9, u10, u11, u12, u17, u18, u19, u20, u21, u22, u23, u24, u25, u26, u27, u28, u29, u30, u31, u32, u33, u34, u35, u36, u37, u38, u39, ⟨hi, hrd, hmk⟩, rfl⟩
 clear HRD
 have HRD := Lib.hid hrd
 have HMK := Lib.hid hmk
 clear hmk
 by_cases hlt : i < D.l.length
 ·obtain ⟨f, hf⟩ : ∃ f, D.l[i]? = some f := ⟨_, List.getElem?_eq_getElem hlt⟩
  have hlt' : (i : Int) < (D.l.length : Int) := by omega
  have hfm := List.mem_of_getElem? hf
  have hfn : (D.l.map Fil.n)[i]? = some f.n := by simp [hf]
  have hil := hrd.f
  rw [HVF.out] at hil
  obtain ⟨gf, of, rfl, hgf, hcf⟩ := hil.at.at hfn
  have HF := Lib.hid hf
  have HFM := Lib.hid hfm
  have HRR : Hid (readD D f.n = (f.b, 0)) := by
   show _ = _
   unfold readD
   have hgn : goodN f.n = true := by have := HGD.out.num f hfm; unfold goodN; simp; omega
   rw [if_neg (by rw [hgn]; decide), if_neg (by rw [HOFF.out]; decide), HGD.out.ris.get hfm]
  clear hil hf hfm hfn
  gi_wp2
  refine ⟨trivial, ?_⟩
  have hread := (HL.out.keep HRD.out.k).read f.n
  rw [HRR.out] at hread
  refine (callsIn_wide.2 hread).mono ?_
  rintro e w2 ⟨v, g, rfl, hrow, hnew, hk2⟩
  clear hread
  obtain ⟨va, vc, rfl⟩ := bw_form15 hrow.bs.bw
  have HROW := Lib.hid hrow
  have HRD2 := Lib.hid (HRD.out.oth (StE.none hk2).oth)
  have HMK2 : Hid (Marks x.heap.size w2 Ds) := by
   show Marks _ _ _
   exact ⟨HMK.out.1, fun D hD => ⟨(HMK.out.2 D hD).1, (hk2.block D (Array.getElem?_eq_some_iff.1 (HMK.out.2 D hD).2).1 (fun h => h)).trans (HMK.out.2 D hD).2⟩⟩
  clear hrow hnew hk2 hrd hcf
  gi_wp2
  refine ⟨trivial, ?_⟩
  refine (callsIn_wide.2 (frames_any _ _ _ _)).mono ?_
  rintro e w' ⟨rfl, rfl⟩
  gi_wp2
  have hk3 : Keeps (fun _ => False) w2 (w2.alloc (.cells #[.slice va f.b.length vc] 39)) := Keeps.alloc _ _ _
  have hbox := heap_alloc_new w2 (.cells #[.slice va f.b.length vc] 39)
  have hz3 : (w2.alloc (.cells #[.slice va f.b.length vc] 39)).heap.size = w2.heap.size + 1 := World.size_alloc _ _
  obtain ⟨w3, hw3⟩ : ∃ w3, w3 = w2.alloc (.cells #[.slice va f.b.length vc] 39) := ⟨_, rfl⟩
  rw [← hw3] at hk3 hbox hz3 ⊢
  have hrd3 := HRD2.out.oth (StE.none hk3).oth
  have hmk3 : Marks x.heap.size w3 Ds := ⟨HMK2.out.1, fun D hD => ⟨(HMK2.out.2 D hD).1, (hk3.block D (Array.getElem?_eq_some_iff.1 (HMK2.out.2 D hD).2).1 (fun h => h)).trans (HMK2.out.2 D hD).2⟩⟩
  have hrow3 := HROW.out.keep hk3 (fun _ _ h => h)
  have hlen4 : f.b.length ≤ 4194304 := HGD.out.blen HFM.out
  have hx2 : x.heap.size ≤ w2.heap.size := HRD2.out.k.size
  have hbl5 : w2.heap.size ≠ x.heap.size := by
   have := (Array.getElem?_eq_some_iff.1 HRD2.out.bb).1; omega
  have hbl6 : w2.heap.size ≠ x.heap.size + 1 := by
   have := (Array.getElem?_eq_some_iff.1 HRD2.out.rb).1; omega
  have hblr : ∀ k, vr.ownBlock = some k → k ≠ w2.heap.size := by
   intro k hk e
   obtain ⟨_, C, hc⟩ := HRD2.out.row hk
   have := (Array.getElem?_eq_some_iff.1 hc).1
   omega
  clear hw3
  have hcount : 13 * (tellD (D.l.take i)).2.length ≤ 4194304 := Nat.le_trans (tellD_len D.l i) (Nat.le_trans (sumF_take D.l i) HGD.out.sum_le)
  obtain ⟨acc0, hacc0⟩ : ∃ acc0, acc0 = tellD (D.l.take i) := ⟨_, rfl⟩
  rw [← hacc0] at hrd3 hcount
  have HACC := Lib.hid hacc0
  clear hacc0 HRD2 HROW HMK2
  obtain ⟨I, hIe⟩ : ∃ I : List Ev → World → Prop, I = fun pre W => ∃ vb vr, Rd x W x.heap.size (x.heap.size + 1) vf (D.l.map Fil.n) (tellF acc0 (pre.map fun z => (z.b, z.l))) vb vr ∧ (∀ k, vr.ownBlock = some k → k ≠ w2.heap.size) ∧ w3.heap.size ≤ W.heap.size := ⟨_, rfl⟩
  have HIE := Lib.hid hIe
  have hI0 : I [] w3 := by rw [HIE.out]; exact ⟨vb, vr, hrd3, hblr, Nat.le_refl _⟩
  have hI1 : ∀ pre A B, I pre A → Oth x.heap.size A B → I pre B := by
   intro pre A B h k
   rw [HIE.out] at h ⊢
   obtain ⟨vb, vr, h1, h2, h3⟩ := h
   exact ⟨vb, vr, h1.oth k, h2, Nat.le_trans h3 k.size⟩
  clear hIe
  refine range15 (F := Fence.wide) (n := 9) (n0 := x.heap.size) (Bl := w2.heap.size) (Mem := MemE x.heap.size) (N := f.b.length) (encs := encE) rfl (by decide) (gf := 77) (lb := #[.pointer (some ⟨w2.heap.size, 0, none⟩)]) rfl trivial (enters_of Try.func77 (by kernel_rfl) rfl)
   (frames_seq 8 (by decide) w3 w2.heap.size (g.getD 0) x.heap.size _ f.b hrow3.bs hbox (fun hne => made_block hrow3 hne) (by omega) hlen4) (by omega) (by omega) (fun _ => rfl) (fun z A B h k => h.oth k)
   I hI1 hI0
   (fun z => { tmps := #[.pointer (some ⟨b, 0, none⟩), undef, .slice none 0 0, .slice none 0 0, .int .i64 0, .pointer (some ⟨x.heap.size, 0, none⟩), .pointer (some ⟨x.heap.size + 1, 0, none⟩), undef, .int .i64 f.n, .slice va f.b.length vc, .int .i64 0, .bool z.b, .slice z.a z.l.length z.c, .pointer (some ⟨b, 0, none⟩), .slice (some ⟨gf, of, none⟩) D.l.length fc, .int .i64 D.l.length, .int .i64 i, .bool true, .pointer (some ⟨gf, of + i, none⟩), .int .i64 f.n, .tuple #[.slice va f.b.length vc, .int .i64 0], .pointer (some ⟨b, 0, none⟩), .int .i64 f.n, .tuple #[.slice va f.b.length vc, .int .i64 0], .slice va f.b.length vc, .int .i64 0, .int .i64 0, .bool false, u28, .slice va f.b.length vc, .func (.func 77) #[] #[.pointer (some ⟨w2.heap.size, 0, none⟩)], .bool z.b, .slice z.a z.l.length z.c, u33, u34, u35, u36, u37, u38, u39, undef, undef], defers := [] }) ?assign ?body ?done
  case assign =>
   intro l z W K hK
   unfold encE
   gi_wp2
   exact hK
  case body =>
   rintro l pre ⟨zb, za, zl, zc⟩ W hIW hm hpl
   rw [HIE.out] at hIW
   obtain ⟨vb1, vr1, hrd1, hbl1, hwz⟩ := hIW
   have HM := Lib.hid hm.pay
   have HRD1 := Lib.hid hrd1
   have HBL1 := Lib.hid hbl1
   have hc1 : (tellF acc0 (pre.map fun z => (z.b, z.l))).2.length ≤ 10000000 := by
    have := tellF_len acc0 (pre.map fun z => (z.b, z.l))
    rw [List.length_map] at this
    omega
   have HC1 := Lib.hid hc1
   have HEX : Hid (tellF acc0 ((pre ++ [(⟨zb, za, zl, zc⟩ : Ev)]).map fun z => (z.b, z.l)) = tellF (tellF acc0 (pre.map fun z => (z.b, z.l))) [(zb, zl)]) := by
    show _ = _
    rw [List.map_append, tellF_app]
    rfl
   have c5 := S3.Box1.c (w := W) (t := 39) hrd1.bb
   have f5 := S3.Box1.f (w := W) (t := 39) hrd1.bb
   have c6 := S3.Box1.c (w := W) (t := 32) hrd1.rb
   have f6 := S3.Box1.f (w := W) (t := 32) hrd1.rb
   have l5 := lt_of_block hrd1.bb
   have l6 := lt_of_block hrd1.rb
   obtain ⟨ra, rc, hrf⟩ := hrd1.rv.form
   obtain ⟨acc1, hacc1⟩ : ∃ acc1, acc1 = tellF acc0 (pre.map fun z => (z.b, z.l)) := ⟨_, rfl⟩
   have hbf : ∃ a c, vb1 = .slice a acc1.1.length c := by
    obtain ⟨a, c, g, hv, _⟩ := hrd1.bv
    exact ⟨a, c, by rw [hacc1]; exact hv⟩
   obtain ⟨ba, bc, hbf⟩ := hbf
   rw [← hacc1] at hrf HEX HC1 HRD1
   subst hrf hbf
   clear hrd1 hbl1 hm hc1 hacc1
   have HPOST : Hid (∀ W' acc' vb' vr', Rd x W' x.heap.size (x.heap.size + 1) vf (D.l.map Fil.n) acc' vb' vr' → acc' = tellF acc1 [(zb, zl)] → (∀ k, vr'.ownBlock = some k → k ≠ w2.heap.size) → Bod w2.heap.size W W' → ∀ a', post15 w2.heap.size I (pre ++ [(⟨zb, za, zl, zc⟩ : Ev)]) W .normal a' W') := by
    show ∀ W' acc' vb' vr', _ → _ → _ → _ → ∀ a', _
    intro W' acc' vb' vr' h1 h2 h3 h4 a'
    refine ⟨h4, ?_⟩
    rw [HIE.out]
    refine ⟨vb', vr', ?_, h3, Nat.le_trans hwz h4.1⟩
    rw [HEX.out, ← h2]
    exact h1
   cases zb
   ·obtain ⟨v', w1, hrun, hr', hg1, hob⟩ := recs_app HRD1.out.rv HM.out HC1.out HRD1.out.k.size 32
    obtain ⟨ra', rc', hv'⟩ := hr'.form
    obtain ⟨n', hn'⟩ : ∃ n', n' = (acc1.2 ++ [zl]).length := ⟨_, rfl⟩
    rw [← hn'] at hv'
    subst hv'
    have hka : Keeps (fun _ => False) W (W.alloc (.cells #[.slice za zl.length zc] 39)) := Keeps.alloc _ _ _
    have hk1 : ∀ k, k < W.heap.size → (Value.slice ra acc1.2.length rc).ownBlock ≠ some k → w1.heap[k]? = W.heap[k]? := fun k hk hne => (hg1.block k (by rw [World.size_alloc]; omega) (fun e => hne e.symm)).trans (hka.block k hk (fun h => h))
    have hr6 : (Value.slice ra acc1.2.length rc).ownBlock ≠ some (x.heap.size + 1) := by
     intro e
     obtain ⟨_, C, hc⟩ := HRD1.out.row e
     have := HRD1.out.rb
     rw [hc] at this
     cases this
    have hr5 : (Value.slice ra acc1.2.length rc).ownBlock ≠ some x.heap.size := fun e => HRD1.out.rn _ e rfl
    have hb6 := (hk1 _ l6 hr6).trans HRD1.out.rb
    have hb5 := (hk1 _ l5 hr5).trans HRD1.out.bb
    have c61 := S3.Box1.c (w := w1) (t := 32) hb6
    have f61 := S3.Box1.f (w := w1) (t := 32) hb6
    have l61 := lt_of_block hb6
    have hk2 : ∀ k, k < W.heap.size → k ≠ x.heap.size → k ≠ x.heap.size + 1 → (Value.slice ra acc1.2.length rc).ownBlock ≠ some k → (w1.setCell ⟨x.heap.size + 1, 0, none⟩ (.slice ra' n' rc')).heap[k]? = W.heap[k]? := fun k hk _ h6 hr => (Below.heap_setCell _ _ _ _ h6).trans (hk1 k hk hr)
    have hsz1 : W.heap.size ≤ (w1.setCell ⟨x.heap.size + 1, 0, none⟩ (.slice ra' n' rc')).heap.size := by
     have := hg1.size
     rw [World.size_alloc] at this
     simp [World.setCell]
     omega
    have hsu : SameU 5 W (w1.setCell ⟨x.heap.size + 1, 0, none⟩ (.slice ra' n' rc')) := HRD1.out.bytes hk2 (by decide) (by decide)
    have hrow' : ∀ g, (Value.slice ra' n' rc').ownBlock = some g → g ≠ x.heap.size ∧ g ≠ x.heap.size + 1 ∧ g ≠ w2.heap.size := by
     intro g hg
     rcases hob with e | e
     ·rw [e] at hg
      exact ⟨HRD1.out.rn g hg, fun e' => hr6 (e' ▸ hg), HBL1.out g hg⟩
     ·rw [hg] at e
      have e2 : g = W.heap.size + 1 := Option.some.inj e
      omega
    have hsu1 : SameU 5 w1 (w1.setCell ⟨x.heap.size + 1, 0, none⟩ (.slice ra' n' rc')) := fun k C p hc => (Below.heap_setCell _ _ _ _ (by rintro rfl; rw [hb6] at hc; cases hc)).trans hc
    have HFIN := Lib.hid (HPOST.out (w1.setCell ⟨x.heap.size + 1, 0, none⟩ (.slice ra' n' rc')) (acc1.1, acc1.2 ++ [zl]) (.slice ba acc1.1.length bc) (.slice ra' n' rc')
     (HRD1.out.upd ⟨hg1.os, hg1.tape, hg1.output⟩ hsz1 hk2 ((Below.heap_setCell _ _ _ _ (by simp)).trans hb5) (HRD1.out.bv.of hsu) (blk_set hb6 _) (hr'.of hsu1 (fun g hg => Below.heap_setCell _ _ _ _ (hrow' g hg).2.1)) (fun g hg => (hrow' g hg).1)) rfl (fun g hg => (hrow' g hg).2.2) (HRD1.out.soft hsz1 hk2 hbl5 hbl6 (fun e => HBL1.out _ e rfl)))
    clear hka hk1 hr6 hr5 hb6 hb5 hk2 hsz1 hsu hrow' hsu1 hob hg1 hr' hn' c5 f5
    gi_wp2_with (gi_at_builtin; refine wpListIn_run15 rfl _ _ _ rfl rfl rfl hrun ?_; clear hrun)
    exact HFIN.out _
   ·have hk2 : ∀ k, k < W.heap.size → k ≠ x.heap.size → k ≠ x.heap.size + 1 → (Value.slice ra acc1.2.length rc).ownBlock ≠ some k → ((W.setCell ⟨x.heap.size, 0, none⟩ (.slice za zl.length zc)).setCell ⟨x.heap.size + 1, 0, none⟩ (.slice none 0 0)).heap[k]? = W.heap[k]? := fun k hk h5 h6 _ => (Below.heap_setCell _ _ _ _ h6).trans (Below.heap_setCell _ _ _ _ h5)
    have hsz1 : W.heap.size ≤ ((W.setCell ⟨x.heap.size, 0, none⟩ (.slice za zl.length zc)).setCell ⟨x.heap.size + 1, 0, none⟩ (.slice none 0 0)).heap.size := by simp [World.setCell]
    have hsu : SameU 5 W ((W.setCell ⟨x.heap.size, 0, none⟩ (.slice za zl.length zc)).setCell ⟨x.heap.size + 1, 0, none⟩ (.slice none 0 0)) := HRD1.out.bytes hk2 (by decide) (by decide)
    have hb5 := blk_set (i := 0) HRD1.out.bb (.slice za zl.length zc)
    have hb6 := blk_set (i := 0) ((Below.heap_setCell W ⟨x.heap.size, 0, none⟩ (.slice za zl.length zc) (x.heap.size + 1) (by simp)).trans HRD1.out.rb) (.slice none 0 0)
    have HFIN := Lib.hid (HPOST.out ((W.setCell ⟨x.heap.size, 0, none⟩ (.slice za zl.length zc)).setCell ⟨x.heap.size + 1, 0, none⟩ (.slice none 0 0)) (zl, []) (.slice za zl.length zc) (.slice none 0 0)
     (HRD1.out.upd ⟨rfl, rfl, rfl⟩ hsz1 hk2 ((Below.heap_setCell _ _ _ _ (by simp)).trans hb5) (HM.out.of hsu) hb6 (RecsP.nil _ _) (fun g hg => by cases hg)) rfl (fun g hg => by cases hg) (HRD1.out.soft hsz1 hk2 hbl5 hbl6 (fun e => HBL1.out _ e rfl)))
    clear hk2 hsz1 hsu hb5 hb6
    gi_wp2
    exact HFIN.out _
  case done =>
   rintro E xs W hE hxs hIW hEb hdf
   rw [HIE.out] at hIW
   obtain ⟨vb1, vr1, hrd1, hbl1, _⟩ := hIW
   have HRD1 : Hid (Rd x W x.heap.size (x.heap.size + 1) vf (D.l.map Fil.n) (tellD (D.l.take (i + 1))) vb1 vr1) := by
    show Rd _ _ _ _ _ _ _ _ _
    rw [tellD_take HF.out, ← HACC.out, ← hxs]
    exact hrd1
   have HMK1 : Hid (Marks x.heap.size W (E :: Ds)) := by
    show Marks _ _ _
    refine ⟨List.nodup_cons.2 ⟨fun hm => ?_, hmk3.1⟩, fun D' hD' => ?_⟩
    ·have := (Array.getElem?_eq_some_iff.1 (hmk3.2 E hm).2).1
     omega
    ·rcases List.mem_cons.1 hD' with rfl | hD'
     ·exact ⟨by omega, hEb⟩
     ·exact ⟨(hmk3.2 D' hD').1, hdf D' (hmk3.2 D' hD').2⟩
   clear hrd1 hbl1 hxs hEb hdf hrd3 hmk3 hrow3 hk3 hbox hz3
   have hw1 : wrap64 ((i : Int) + 1) = ((i + 1 : Nat) : Int) := by unfold wrap64; omega
   gi_wp2
   rw [hw1]
   clear hw1
   refine ⟨⟨i + 1, vb1, vr1, E :: Ds, _, _, _, _, _, _, _, _, _, _, _, _, _, _, _, _, _, _, _, _, _, _, _, _, _, _, _, _, ⟨hlt, HRD1.out, HMK1.out⟩, rfl⟩, ?_⟩
   simp [RowKit.intOf]
   omega
 ·obtain rfl : i = D.l.length := by omega
  have HRDE : Hid (Rd x wr x.heap.size (x.heap.size + 1) vf (D.l.map Fil.n) (tellD D.l) vb vr) := by
   show Rd _ _ _ _ _ _ _ _ _
   have := HRD.out
   rwa [List.take_length] at this
  clear HRD hrd
  have c5 := S3.Box1.c (w := wr) (t := 39) HRDE.out.bb
  have c6 := S3.Box1.c (w := wr) (t := 32) HRDE.out.rb
  have l5 := lt_of_block HRDE.out.bb
  have l6 := lt_of_block HRDE.out.rb
  obtain ⟨ra, rc, hrf⟩ := HRDE.out.rv.form
  obtain ⟨ba, bc, gb, hbf, _⟩ := HRDE.out.bv
  subst hrf hbf
  gi_wp2
  refine wpIn_wide.2 ?_
  go_quiet (fail)
  gi_wp2
  have hd : Keeps (fun _ => False) wr (wr.drewN nq) := ⟨rfl, rfl, rfl, Nat.le_refl _, fun _ _ _ => rfl⟩
  refine leaves15 (n0 := x.heap.size) Ds _ ⟨HMK.out.1, HMK.out.2⟩ fun W' hW' => ⟨_, results_tmp3 rfl _ _ _, ?_⟩
  have hr := HRDE.out.oth ((StE.none hd).oth.trans hW')
  exact ⟨_, _, rfl, hr.bv, hr.rv, hr.k⟩
end SJ
end Go.Proofs.Ytddbmibfebhmjaa

namespace Go.Proofs.Ytddbmibfebhmjaa
open S2 SZ
namespace SJ
open Go.RowKit
structure JL (w x : World) (b jb : Nat) (S : Nat → Prop) (D : Dm) (J : Jp) : Prop where
  liv : Liv w x b S D
  j : JAt x jb b J
  nS : ¬ S jb
  wj : w.heap.size ≤ jb
structure JStep (S : Nat → Prop) (jb : Nat) (x y : World) (S' : Nat → Prop) : Prop where
  k : Keeps (fun k => S k ∨ k = jb) x y
  s : ∀ k, S' k → S k ∨ x.heap.size ≤ k
theorem JStep.refl (S : Nat → Prop) (jb : Nat) (x : World) : JStep S jb x x S := ⟨Keeps.refl _ _, fun _ h => .inl h⟩
theorem JStep.trans {S S1 S2 : Nat → Prop} {jb : Nat} {x y z : World} (h : JStep S jb x y S1) (k : JStep S1 jb y z S2) : JStep S jb x z S2 :=
  ⟨h.k.trans k.k fun i hi ht => by
    rcases ht with ht | ht
    · rcases h.s i ht with h1 | h1
      · exact .inl h1
      · omega
    · exact .inr ht, fun i hi => by
    rcases k.s i hi with h1 | h1
    · exact h.s i h1
    · exact .inr (Nat.le_trans h.k.size h1)⟩
section
variable {w x : World} {b jb : Nat} {S : Nat → Prop} {D : Dm} {J : Jp}
theorem JL.lt (h : JL w x b jb S D J) : jb < x.heap.size := h.j.lt
theorem JL.drum (h : JL w x b jb S D J) {y : World} {D' : Dm} (hk : Keeps S x y) (hl : Liv w y b (Grow S x y) D') : JStep S jb x y (Grow S x y) ∧ JL w y b jb (Grow S x y) D' J :=
  ⟨⟨hk.mono fun _ _ h => .inl h, fun k hk => hk.imp id fun h => h.1⟩, hl, h.j.keep hk h.nS, fun hs => by
    rcases hs with hs | hs
    · exact h.nS hs
    · have := h.lt; omega, h.wj⟩
theorem JL.set (h : JL w x b jb S D J) {y : World} {J' : Jp} (hk : Keeps (fun k => k = jb) x y) (hj : JAt y jb b J') : JStep S jb x y S ∧ JL w y b jb S D J' :=
  ⟨⟨hk.mono fun _ _ h => .inr h, fun _ h => .inl h⟩, h.liv.away hk (fun k hs e => h.nS (e ▸ hs)) (fun k e => e ▸ h.wj), hj, h.nS, h.wj⟩
theorem JL.keep (h : JL w x b jb S D J) {y : World} (hk : Keeps (fun _ => False) x y) : JStep S jb x y S ∧ JL w y b jb S D J :=
  ⟨⟨hk.mono fun _ _ h => h.elim, fun _ h => .inl h⟩, h.liv.keep hk, h.j.keep hk (fun h => h), h.nS, h.wj⟩
end
def JDone (w x : World) (b jb : Nat) (S : Nat → Prop) (r : Int × Dm × Jp) (e : Ending) (y : World) : Prop := e = .returned (.int .i64 r.1) ∧ ∃ S', JStep S jb x y S' ∧ JL w y b jb S' r.2.1 r.2.2
def app2 (D : Dm) (J : Jp) (p : List UInt8) : Int × Dm × Jp :=
  if (appendD D J.file (fr false p)).1 = 0 then (0, (appendD D J.file (fr false p)).2, { J with added := J.added + (fr false p).length }) else ((appendD D J.file (fr false p)).1, (appendD D J.file (fr false p)).2, J.heed (appendD D J.file (fr false p)).1)
def Jp.next (J : Jp) : Jp := { J with file := J.file + 1, added := 0 }
def appendJ (D : Dm) (J : Jp) (p : List UInt8) : Int × Dm × Jp :=
  if J.brk = true then (150, D, J)
  else if J.size ≤ J.added then
    (if fitsN p.length (J.file + 1) ≠ 0 then (fitsN p.length (J.file + 1), D, J)
     else if (syncD D J.file).1 ≠ 0 then ((syncD D J.file).1, (syncD D J.file).2, J.heed (syncD D J.file).1)
     else app2 (syncD D J.file).2 J.next p)
  else if fitsN p.length J.file ≠ 0 then (fitsN p.length J.file, D, J) else app2 D J p
def syncJ (D : Dm) (J : Jp) : Int × Dm × Jp :=
  if J.brk = true then (150, D, J) else if J.added = 0 then (0, D, J) else ((syncD D J.file).1, (syncD D J.file).2, J.heed (syncD D J.file).1)
def delAll (J : Jp) (kept : Int) : List Int → Dm → Int × Dm × Jp
  | [], D => (0, D, J)
  | n :: l, D => if n = kept then delAll J kept l D else if (deleteD D n).1 = 0 then delAll J kept l (deleteD D n).2 else ((deleteD D n).1, (deleteD D n).2, J.heed (deleteD D n).1)
def rewJ (J : Jp) : Int := if 0 < J.added then J.file + 1 else J.file
def rewriteJ (D : Dm) (J : Jp) (p : List UInt8) : Int × Dm × Jp :=
  if J.brk = true then (150, D, J)
  else if fitsN p.length (rewJ J) ≠ 0 then (fitsN p.length (rewJ J), D, J)
  else if (appendD D (rewJ J) (fr true p)).1 ≠ 0 then ((appendD D (rewJ J) (fr true p)).1, (appendD D (rewJ J) (fr true p)).2, J.heed (appendD D (rewJ J) (fr true p)).1)
  else if (syncD (appendD D (rewJ J) (fr true p)).2 (rewJ J)).1 ≠ 0 then ((syncD (appendD D (rewJ J) (fr true p)).2 (rewJ J)).1, (syncD (appendD D (rewJ J) (fr true p)).2 (rewJ J)).2, J.heed (syncD (appendD D (rewJ J) (fr true p)).2 (rewJ J)).1)
  else if (delAll J (rewJ J) (D.l.map Fil.n) (syncD (appendD D (rewJ J) (fr true p)).2 (rewJ J)).2).1 ≠ 0 then delAll J (rewJ J) (D.l.map Fil.n) (syncD (appendD D (rewJ J) (fr true p)).2 (rewJ J)).2
  else (0, (delAll J (rewJ J) (D.l.map Fil.n) (syncD (appendD D (rewJ J) (fr true p)).2 (rewJ J)).2).2.1, { J with file := rewJ J, added := (fr true p).length })
def nextN (D : Dm) : Int := match D.l.getLast? with | some f => f.n + 1 | none => 1
theorem jcheck_arg (b : Nat) (size : Int) (h : size < 1 ∨ 4194304 < size) (w : World) : Calls Try.prog 54 #[.pointer (some ⟨b, 0, none⟩), .int .i64 size] w fun r w' => r = .returned (.tuple #[.int .i64 0, .int .i64 2]) ∧ w' = w := by
  by_cases h1 : size < 1
  · go_enter Try.func54, Try.ntmps54
    go_wp2
    refine bodyPost_ret (results_tmp2 rfl _ _ _) rfl ?_
    exact ⟨rfl, rfl⟩
  · have h2 : 4194304 < size := by omega
    clear h
    go_enter Try.func54, Try.ntmps54
    go_wp2
    refine bodyPost_ret (results_tmp2 rfl _ _ _) rfl ?_
    exact ⟨rfl, rfl⟩
theorem jcheck_any {w x : World} {b : Nat} {S : Nat → Prop} {D : Dm} (h : Liv w x b S D) (hoff : D.off = false) (size : Int) (h1 : 1 ≤ size) (h2 : size ≤ 4194304) (hn : nextN D ≤ 1000) :
    Calls Try.prog 54 #[.pointer (some ⟨b, 0, none⟩), .int .i64 size] x fun r y => r = .returned (.tuple #[.int .i64 (nextN D), .int .i64 0]) ∧ Keeps (fun _ => False) x y := by
  have HD := Lib.hid h.dead
  have HFL := Lib.hid h.files
  rw [hoff] at HD
  have h1' : ¬ size < 1 := by omega
  have h2' : ¬ 4194304 < size := by omega
  have hg := h.p.good
  cases hl : D.l.getLast? with
  | none =>
    have hnil : D.l = [] := List.getLast?_eq_none_iff.1 hl
    have hN : nextN D = 1 := by unfold nextN; rw [hl]
    rw [hN]
    rw [hnil] at HFL
    clear h hoff hn hg hl hnil hN h1 h2
    go_enter Try.func54, Try.ntmps54
    go_wp2_with (first
      | (go_at_call 37; refine HD.out.mono ?_; rintro r w' ⟨rfl, rfl⟩)
      | (go_at_call 35; refine HFL.out.mono ?_; rintro r w1 ⟨v, rfl, ho, hb⟩; obtain ⟨a, c, rfl⟩ := ho.form; have HB := Lib.hid hb; clear ho hb))
    refine bodyPost_ret (results_tmp2 rfl _ _ _) rfl ?_
    exact ⟨rfl, .ofBelow HB.out⟩
  | some f =>
    have hN : nextN D = f.n + 1 := by unfold nextN; rw [hl]
    have hne : D.l ≠ [] := by rintro e; rw [e] at hl; cases hl
    have hpos : 0 < D.l.length := List.length_pos_iff.2 hne
    have hfm : f ∈ D.l := List.mem_of_getLast? hl
    have hfn := hg.num f hfm
    have hlen := hg.len
    have hat : (D.l.map Fil.n)[D.l.length - 1]? = some f.n := by
      rw [List.getLast?_eq_getElem?] at hl
      simp [hl]
    rw [hN] at hn ⊢
    obtain ⟨N, hNe⟩ : ∃ N : Nat, N = D.l.length := ⟨_, rfl⟩
    have hlm : (D.l.map Fil.n).length = N := by rw [List.length_map, hNe]
    have HAT := Lib.hid hat
    rw [← hNe] at hpos hlen HAT
    have hp1 : (0 : Int) < (N : Int) := by omega
    have hp2 : wrap64 ((N : Int) - 1) = ((N - 1 : Nat) : Int) := by unfold wrap64; omega
    have hp3 : wrap64 (f.n + 1) = f.n + 1 := by unfold wrap64; omega
    have hp4 : ¬ 1000 < f.n + 1 := by omega
    have hp5 : ((N - 1 : Nat) : Int) < (N : Int) := by omega
    have hp6 : N - 1 < N := by omega
    clear h hoff hg hl hN hne hat hfm h1 h2 hNe hn
    go_enter Try.func54, Try.ntmps54
    go_wp2_with (first
      | (go_at_call 37; refine HD.out.mono ?_; rintro r w' ⟨rfl, rfl⟩)
      | (go_at_call 35; refine HFL.out.mono ?_; rintro r w1 ⟨v, rfl, ho, hb⟩; obtain ⟨a, c, rfl⟩ := ho.form; obtain ⟨gf, off, rfl, hgf, hcf⟩ := ho.at.at HAT.out; rw [hlm] at ho ⊢; have HB := Lib.hid hb; clear ho hb))
    refine bodyPost_ret (results_tmp2 rfl _ _ _) rfl ?_
    exact ⟨rfl, .ofBelow HB.out⟩

theorem results_four15 {P : Program} {fn : Func} {p q r s : Tmp} (h : fn.results = #[.tmp p, .tmp q, .tmp r, .tmp s]) (tmps : Array Value) (w : World) : (results fn tmps).run P w = .ok (.tuple #[tmps.getD p undef, tmps.getD q undef, tmps.getD r undef, tmps.getD s undef]) w := by simp [results, h]
theorem open_arg (b : Nat) (size : Int) (h : size < 1 ∨ 4194304 < size) (w : World) : Calls Try.prog 28 #[.pointer (some ⟨b, 0, none⟩), .int .i64 size] w fun r w' => r = .returned (.tuple #[.pointer none, .slice none 0 0, .slice none 0 0, .int .i64 2]) ∧ w' = w := by
 have H := Lib.hid (jcheck_arg b size h)
 clear h
 go_enter Try.func28, Try.ntmps28
 go_wp2_with (go_at_call 54; refine (H.out _).mono ?_; rintro r w' ⟨rfl, rfl⟩)
 refine bodyPost_ret (results_four15 rfl _ _) rfl ?_
 exact ⟨rfl, rfl⟩
def OpenR (w x : World) (b : Nat) (S : Nat → Prop) (D : Dm) (size : Int) (e : Ending) (y : World) : Prop :=
 ∃ jb vb vr, e = .returned (.tuple #[.pointer (some ⟨jb, 0, none⟩), vb, vr, .int .i64 0]) ∧ PayAt x.heap.size y vb (tellD D.l).1 ∧ RecsP x.heap.size y vr (tellD D.l).2 ∧ x.heap.size ≤ jb ∧ Keeps (fun _ => False) x y ∧ JL w y b jb S D ⟨size, nextN D, 0, false⟩
theorem open_ok {w x : World} {b : Nat} {S : Nat → Prop} {D : Dm} (h : Liv w x b S D) (hoff : D.off = false) (size : Int) (h1 : 1 ≤ size) (h2 : size ≤ 4194304) (hn : nextN D ≤ 1000) :
  Calls Try.prog 28 #[.pointer (some ⟨b, 0, none⟩), .int .i64 size] x (OpenR w x b S D size) := by
 have HC := Lib.hid (jcheck_any h hoff size h1 h2 hn)
 have HR : Hid (∀ y, Keeps (fun _ => False) x y → Calls Try.prog 55 #[.pointer (some ⟨b, 0, none⟩)] y (ReadAll y D.l)) := Lib.hid fun y hk => read15_any (h.keep hk) hoff
 have HL := Lib.hid h
 clear h hoff h1 h2 hn
 go_enter Try.func28, Try.ntmps28
 go_wp2_with (first
  | (go_at_call 54; refine HC.out.mono ?_; rintro r x1 ⟨rfl, hk1⟩; have HK1 := Lib.hid hk1; clear hk1)
  | (go_at_call 55; refine (HR.out _ HK1.out).mono ?_; rintro r x2 ⟨vb, vr, rfl, hb, hr, hk2⟩; have HB := Lib.hid hb; have HRR := Lib.hid hr; have HK2 := Lib.hid hk2; clear hb hr hk2))
 refine bodyPost_ret (results_four15 rfl _ _) rfl ?_
 have hka : Keeps (fun _ => False) x2 (x2.alloc (.cells #[.pointer (some ⟨b, 0, none⟩), .int .i64 size, .int .i64 (nextN D), .int .i64 0, .bool false] 95)) := Keeps.alloc _ _ _
 have hk := (HK1.out.then HK2.out).then hka
 have hsu : SameU 5 x2 (x2.alloc (.cells #[.pointer (some ⟨b, 0, none⟩), .int .i64 size, .int .i64 (nextN D), .int .i64 0, .bool false] 95)) := fun k C p hc => (hka.block k (Array.getElem?_eq_some_iff.1 hc).1 (fun h => h)).trans hc
 have hx1 : x.heap.size ≤ x1.heap.size := HK1.out.size
 have hx2 : x.heap.size ≤ x2.heap.size := (HK1.out.then HK2.out).size
 have hb : PayAt x.heap.size x2 vb (tellD D.l).1 := by
  obtain ⟨a, c, g, e, h3, h4⟩ := HB.out
  exact ⟨a, c, g, e, h3, fun hne => ⟨Nat.le_trans hx1 (h4 hne).1, (h4 hne).2⟩⟩
 have hr : RecsP x.heap.size x2 vr (tellD D.l).2 := by
  obtain ⟨vs, h3, h4⟩ := HRR.out
  refine ⟨vs, ?_, fun i l hl => ?_⟩
  ·obtain ⟨q1, q2 | ⟨g, cap, cur, q3, q4, q5⟩⟩ := h3
   ·exact ⟨q1, .inl q2⟩
   ·exact ⟨q1, .inr ⟨g, cap, cur, q3, Nat.le_trans hx1 q4, q5⟩⟩
  ·obtain ⟨u, hu, a, c, g, e, h5, h6⟩ := h4 i l hl
   exact ⟨u, hu, a, c, g, e, h5, fun hne => ⟨Nat.le_trans hx1 (h6 hne).1, (h6 hne).2⟩⟩
 refine ⟨x2.heap.size, vb, vr, rfl, hb.of hsu, hr.of hsu fun g hg => ?_, hx2, hk, HL.out.keep hk, heap_alloc_new x2 _, fun hs => by have := HL.out.lt _ hs; omega, Nat.le_trans HL.out.bel.size hx2⟩
 obtain ⟨vs, h3, _⟩ := hr
 obtain ⟨_, C, hc⟩ := ownsRow_at h3 hg
 exact hka.block g (Array.getElem?_eq_some_iff.1 hc).1 (fun h => h)
theorem bl_one15 {x y : World} {g : Nat} {v : Value} {l : List UInt8} {T : Nat → Prop} (h : Bw x g v l) (hy : y = x.alloc (.cells #[v] 39)) (hT : T x.heap.size) (hg : l ≠ [] → T g) : Bl y T (.slice (some ⟨x.heap.size, 0, none⟩) 1 1) [l] := by
 subst hy
 have hb := heap_alloc_new x (.cells #[v] 39)
 have hk : Keeps (fun _ => False) x (x.alloc (.cells #[v] 39)) := Keeps.alloc _ _ _
 obtain ⟨a, c, rfl⟩ := bw_form15 h
 refine ⟨_, 1, rfl, fun _ => ⟨x.heap.size, 0, rfl, hT, lt_of_block hb, fun i l' hl => ?_⟩⟩
 match i, hl with
 | 0, hl =>
  simp at hl
  subst hl
  exact ⟨a, c, g, cell_of_one hb, h.keep hk (fun _ h => h), hg⟩
theorem frame15 {x : World} {g : Nat} {b : Bool} {v : Value} {p : List UInt8} (h : Bw x g v p) (hp : p.length ≤ 1048576) : Calls Try.prog 59 #[.bool b, v] x fun e y => ∃ a c k, e = .returned (.slice a (fr b p).length c) ∧ Bw y k (.slice a (fr b p).length c) (fr b p) ∧ x.heap.size ≤ k ∧ k < y.heap.size ∧ Keeps (fun _ => False) x y := by
 refine (frame_any x g b v p h hp).mono ?_
 rintro e y ⟨v', g', rfl, hr, hn, hb⟩
 have hne : fr b p ≠ [] := by intro e; have := fr_len b p; rw [e] at this; simp at this; omega
 obtain ⟨k, c, cur, rfl, rfl, hh, _⟩ := row_block hr hne
 exact ⟨_, c, k, rfl, hr.bs.bw, hn k rfl, lt_of_block hh, .ofBelow hb⟩
section
variable {w x : World} {b jb : Nat} {S : Nat → Prop} {D : Dm} {J : Jp}
structure Jp.Ok (J : Jp) : Prop where
 f0 : 0 ≤ J.file
 f1 : J.file ≤ 1001
 a0 : 0 ≤ J.added
 a1 : J.added ≤ 1000000000000
theorem JL.sync (h : JL w x b jb S D J) (n : Int) (hd : D.done < 4000000) {y : World} (hy : Keeps (fun _ => False) x y) : Calls Try.prog 17 #[.pointer (some ⟨b, 0, none⟩), .int .i64 n] y fun e z => e = .returned (.int .i64 (syncD D n).1) ∧ ∃ S', JStep S jb x z S' ∧ JL w z b jb S' (syncD D n).2 J := by
 obtain ⟨s0, j0⟩ := h.keep hy
 refine (j0.liv.sync n hd).mono ?_
 rintro e z ⟨rfl, hk, hl⟩
 obtain ⟨s1, j1⟩ := j0.drum hk hl
 exact ⟨rfl, _, s0.trans s1, j1⟩
theorem JL.delete (h : JL w x b jb S D J) (n : Int) (hd : D.done < 4000000) {y : World} (hy : Keeps (fun _ => False) x y) : Calls Try.prog 19 #[.pointer (some ⟨b, 0, none⟩), .int .i64 n] y fun e z => e = .returned (.int .i64 (deleteD D n).1) ∧ ∃ S', JStep S jb x z S' ∧ JL w z b jb S' (deleteD D n).2 J := by
 obtain ⟨s0, j0⟩ := h.keep hy
 refine (j0.liv.delete n hd).mono ?_
 rintro e z ⟨rfl, hk, hl⟩
 obtain ⟨s1, j1⟩ := j0.drum hk hl
 exact ⟨rfl, _, s0.trans s1, j1⟩
theorem JL.append (h : JL w x b jb S D J) (n : Int) (hd : D.done < 4000000) {y : World} (hy : Keeps (fun _ => False) x y) {v : Value} {l : List UInt8} {T : Nat → Prop} (hv : Bl y T v [l]) (hT : ∀ k, T k → ¬ S k ∧ k < y.heap.size) (hl : l.length ≤ 1000000000) :
  Calls Try.prog 14 #[.pointer (some ⟨b, 0, none⟩), .int .i64 n, v] y fun e z => e = .returned (.int .i64 (appendD D n l).1) ∧ ∃ S', JStep S jb x z S' ∧ JL w z b jb S' (appendD D n l).2 J := by
 obtain ⟨s0, j0⟩ := h.keep hy
 have ha := j0.liv.append n hd hv hT (by simp) (by unfold totL; simp; omega)
 have e1 : [l].flatten = l := by simp
 rw [e1] at ha
 refine ha.mono ?_
 rintro e z ⟨rfl, hk, hl⟩
 obtain ⟨s1, j1⟩ := j0.drum hk hl
 exact ⟨rfl, _, s0.trans s1, j1⟩
theorem JL.heed (h : JL w x b jb S D J) (e : Int) {y : World} (hy : Keeps (fun _ => False) x y) : Calls Try.prog 58 #[.pointer (some ⟨jb, 0, none⟩), .int .i64 e] y fun r z => r = .returned (.int .i64 e) ∧ ∃ S', JStep S jb x z S' ∧ JL w z b jb S' D (J.heed e) := by
 obtain ⟨s0, j0⟩ := h.keep hy
 refine (heed_any j0.j e).mono ?_
 rintro r z ⟨rfl, hj, hk⟩
 obtain ⟨s1, j1⟩ := j0.set hk hj
 exact ⟨rfl, _, s0.trans s1, j1⟩
theorem JL.usable (h : JL w x b jb S D J) : Calls Try.prog 56 #[.pointer (some ⟨jb, 0, none⟩)] x fun r w' => r = .returned (.int .i64 (if J.brk then 150 else 0)) ∧ x = w' := (usable_any h.j).mono fun e w' h => ⟨h.1, h.2.symm⟩
theorem sync15_any (h : JL w x b jb S D J) (hd : D.done < 4000000) : Calls Try.prog 30 #[.pointer (some ⟨jb, 0, none⟩)] x (JDone w x b jb S (syncJ D J)) := by
 have HU := Lib.hid h.usable
 have c0 := blk_cell h.j 0
 have c2 := blk_cell h.j 2
 have c3 := blk_cell h.j 3
 have hl := h.lt
 have H := Lib.hid h
 simp at c0 c2 c3
 cases hb : J.brk
 ·rw [hb] at HU
  by_cases ha : J.added = 0
  ·have e : syncJ D J = (0, D, J) := by unfold syncJ; rw [if_neg (by rw [hb]; decide), if_pos ha]
   rw [e]
   rw [ha] at c3
   clear e ha hb h hd
   go_enter Try.func30, Try.ntmps30
   go_wp2_with (go_at_call 56; refine HU.out.mono ?_; rintro r w' ⟨rfl, rfl⟩)
   go_ret
   exact ⟨rfl, S, JStep.refl _ _ _, H.out⟩
  ·have e : syncJ D J = ((syncD D J.file).1, (syncD D J.file).2, J.heed (syncD D J.file).1) := by unfold syncJ; rw [if_neg (by rw [hb]; decide), if_neg ha]
   rw [e]
   have hb3 : (J.added == 0) = false := by simpa using ha
   have HS := Lib.hid (h.sync J.file hd (Keeps.drew _ x))
   generalize syncD D J.file = R at *
   clear e ha hb h hd
   go_enter Try.func30, Try.ntmps30
   go_wp2_with (go_at_call 56; refine HU.out.mono ?_; rintro r w' ⟨rfl, rfl⟩)
   go_region_law
    (first
     | ((try go_simp); go_at_call 17; refine HS.out.mono ?_; rintro r y1 ⟨rfl, T1, s1, j1⟩; have HS1 := Lib.hid s1; have HJ1 := Lib.hid j1; clear s1 j1)
     | ((try go_simp); go_at_call 58; refine (HJ1.out.heed _ (Keeps.refl _ _)).mono ?_; rintro r y2 ⟨rfl, T2, s2, j2⟩; have HS2 := Lib.hid s2; have HJ2 := Lib.hid j2; clear s2 j2))
   all_goals
    go_wp2
    go_ret
    exact ⟨rfl, _, HS1.out.trans HS2.out, HJ2.out⟩
 ·rw [hb] at HU
  have e : syncJ D J = (150, D, J) := by unfold syncJ; rw [if_pos hb]
  rw [e]
  clear e hb h hd
  go_enter Try.func30, Try.ntmps30
  go_wp2_with (go_at_call 56; refine HU.out.mono ?_; rintro r w' ⟨rfl, rfl⟩)
  go_ret
  exact ⟨rfl, S, JStep.refl _ _ _, H.out⟩
end

theorem op_done (D : Dm) (n : Int) (k : Dm → Int × Dm) (hk : ∀ E : Dm, (k E).2.done ≤ E.done + 1) : (opD D n k).2.done ≤ D.done + 1 := by
 unfold opD
 split
 ·exact Nat.le_succ _
 ·split
  ·exact Nat.le_succ _
  ·exact hk _
theorem del_done (D : Dm) (n : Int) : (deleteD D n).2.done ≤ D.done + 1 := op_done D n _ fun E => by
 unfold deleteK
 split
 ·exact Nat.le_refl _
 ·exact Nat.le_succ _
theorem sync_done (D : Dm) (n : Int) : (syncD D n).2.done ≤ D.done + 1 := op_done D n _ fun E => by
 unfold syncK
 split
 ·exact Nat.le_refl _
 ·exact Nat.le_succ _
theorem app_done (D : Dm) (n : Int) (bs : List UInt8) : (appendD D n bs).2.done ≤ D.done + 1 := op_done D n _ fun E => by
 unfold appendK
 split
 ·exact Nat.le_succ _
 ·exact Nat.le_refl _
theorem delAll_cons (J : Jp) (kept n : Int) (l : List Int) (D : Dm) : delAll J kept (n :: l) D = if n = kept then delAll J kept l D else if (deleteD D n).1 = 0 then delAll J kept l (deleteD D n).2 else ((deleteD D n).1, (deleteD D n).2, J.heed (deleteD D n).1) := by rw [delAll]
section
variable {w x : World} {b jb : Nat} {S : Nat → Prop} {D : Dm} {J : Jp}
theorem deleteAll_any (h : JL w x b jb S D J) (kept : Int) (l : List Int) (a : Option Addr) (c : Nat) (hl : S4.Il x a c l) (hS : ∀ g o, a = some ⟨g, o, none⟩ → ¬ S g ∧ g ≠ jb) (hlen : l.length ≤ 1000) (hd : D.done + 1000 < 4000000) :
  Calls Try.prog 60 #[.pointer (some ⟨jb, 0, none⟩), .slice a l.length c, .int .i64 kept] x (JDone w x b jb S (delAll J kept l D)) := by
 have H := Lib.hid h
 have HL := Lib.hid hl
 have HS := Lib.hid hS
 clear h hl hS
 go_enter Try.func60, Try.ntmps60
 go_wp2
 go_loopw [12] (fun i wr => ∃ k : Nat, k ≤ l.length ∧ i = .int .i64 k ∧ ∃ S' D', JStep S jb x wr S' ∧ JL w wr b jb S' D' J ∧ delAll J kept l D = delAll J kept (l.drop k) D' ∧ D'.done ≤ D.done + k) (fun i _ => l.length - (RowKit.intOf i).toNat)
 case atStart => exact ⟨0, Nat.zero_le _, rfl, S, D, JStep.refl _ _ _, H.out, rfl, Nat.le_refl _⟩
 case round =>
  obtain ⟨k, hk, rfl, S', D', hst, hj, heq, hdn⟩ := hrel
  by_cases hlt : k < l.length
  ·obtain ⟨n, hn⟩ := get_lt hlt
   obtain ⟨g, o, rfl, hg, hc⟩ := HL.out.at hn
   obtain ⟨hg1, hg2⟩ := HS.out g o rfl
   have hcr := hst.k.cell (b := g) (o := o + k) (fun e => by rcases e with e | e; exact hg1 e; exact hg2 e) hc
   have hgr := World.block_lt_of_cell? _ _ hcr
   have hdrop : l.drop k = n :: l.drop (k + 1) := by
    obtain ⟨h1, h2⟩ := List.getElem?_eq_some_iff.1 hn
    rw [List.drop_eq_getElem_cons h1, h2]
   have c0 := blk_cell hj.j 0
   have hjl := hj.lt
   simp at c0
   have HJ := Lib.hid hj
   have HST := Lib.hid hst
   have hlt' : (k : Int) < (l.length : Int) := by omega
   have hw1 : wrap64 ((k : Int) + 1) = ((k + 1 : Nat) : Int) := by unfold wrap64; omega
   rw [hdrop] at heq
   have HEQ := Lib.hid heq
   clear hn hc hdrop hst heq
   by_cases hkp : n = kept
   ·have HEQ2 : Hid (delAll J kept l D = delAll J kept (l.drop (k + 1)) D') := by
     have := HEQ.out
     rw [delAll_cons, if_pos hkp] at this
     exact Lib.hid this
    have hb : (n == kept) = true := by simpa using hkp
    clear HEQ hkp hj
    go_wp2
    go_roundw
    case rel => exact ⟨k + 1, hlt, by go_num, S', D', HST.out, HJ.out, HEQ2.out, by omega⟩
    case measure => simp [RowKit.intOf]; omega
   ·have hb : (n == kept) = false := by simpa using hkp
    have HD := Lib.hid (hj.delete n (by omega) (Keeps.refl _ wr))
    have hdd := del_done D' n
    have HEQ2 : Hid (delAll J kept l D = if (deleteD D' n).1 = 0 then delAll J kept (l.drop (k + 1)) (deleteD D' n).2 else ((deleteD D' n).1, (deleteD D' n).2, J.heed (deleteD D' n).1)) := by
     have := HEQ.out
     rw [delAll_cons, if_neg hkp] at this
     exact Lib.hid this
    clear HEQ hkp hj
    generalize deleteD D' n = R at *
    obtain ⟨e, D2⟩ := R
    dsimp only at HD hdd HEQ2
    by_cases he : e = 0
    ·subst he
     go_wp2_with (first
      | (go_at_call 19; refine HD.out.mono ?_; rintro r y1 ⟨rfl, T1, s1, j1⟩; have HS1 := Lib.hid s1; have HJ1 := Lib.hid j1; clear s1 j1)
      | (go_at_call 58; refine (HJ1.out.heed _ (Keeps.refl _ _)).mono ?_; rintro r y2 ⟨rfl, T2, s2, j2⟩; have HS2 := Lib.hid s2; have HJ2 := Lib.hid j2; clear s2 j2))
     go_roundw
     case rel => exact ⟨k + 1, hlt, by go_num, T2, D2, HST.out.trans (HS1.out.trans HS2.out), (Jp.heed_no (J := J) (e := 0) (.inl rfl)) ▸ HJ2.out, by have := HEQ2.out; simpa using this, by omega⟩
     case measure => simp [RowKit.intOf]; omega
    ·have hbe : (e != 0) = true := by simpa using he
     have HEQ3 : Hid (delAll J kept l D = (e, D2, J.heed e)) := by
      have := HEQ2.out
      rw [if_neg he] at this
      exact Lib.hid this
     clear HEQ2 he
     go_wp2_with (first
      | (go_at_call 19; refine HD.out.mono ?_; rintro r y1 ⟨rfl, T1, s1, j1⟩; have HS1 := Lib.hid s1; have HJ1 := Lib.hid j1; clear s1 j1)
      | (go_at_call 58; refine (HJ1.out.heed _ (Keeps.refl _ _)).mono ?_; rintro r y2 ⟨rfl, T2, s2, j2⟩; have HS2 := Lib.hid s2; have HJ2 := Lib.hid j2; clear s2 j2))
     go_ret
     rw [HEQ3.out]
     exact ⟨rfl, _, HST.out.trans (HS1.out.trans HS2.out), HJ2.out⟩
  ·obtain rfl : k = l.length := by omega
   have HEQ : Hid (delAll J kept l D = (0, D', J)) := by
    rw [List.drop_length] at heq
    exact Lib.hid heq
   have HJ := Lib.hid hj
   have HST := Lib.hid hst
   clear heq hj hst
   go_wp2
   go_ret
   rw [HEQ.out]
   exact ⟨rfl, S', HST.out, HJ.out⟩
end

section
variable {w x : World} {b jb : Nat} {S : Nat → Prop} {D : Dm} {J : Jp}
theorem JL.lay {y0 y1 : World} {T : Nat → Prop} (h : JL w y0 b jb T D J) (n : Int) (hd : D.done < 4000000) {fa : Option Addr} {fc k : Nat} {l : List UInt8} {N : Nat} (hN : l.length = N) (hf : Bw y1 k (.slice fa N fc) l) (hk0 : y0.heap.size ≤ k) (hk1 : k < y1.heap.size) (hk : Keeps (fun _ => False) y0 y1) (hl : N ≤ 1000000000) :
  Calls Try.prog 14 #[.pointer (some ⟨b, 0, none⟩), .int .i64 n, .slice (some ⟨y1.heap.size, 0, none⟩) 1 1] (y1.alloc (.cells #[.slice fa N fc] 39)) fun e z => e = .returned (.int .i64 (appendD D n l).1) ∧ ∃ S', JStep T jb y0 z S' ∧ JL w z b jb S' (appendD D n l).2 J := by
 refine h.append n hd (hk.then (Keeps.alloc _ _ _)) (bl_one15 (T := fun i => i = y1.heap.size ∨ i = k) hf rfl (.inl rfl) (fun _ => .inr rfl)) (fun i hi => ⟨fun hs => ?_, ?_⟩) (by omega)
 ·have := h.liv.lt i hs
  have := hk.size
  rcases hi with rfl | rfl <;> omega
 ·rw [World.size_alloc]
  rcases hi with rfl | rfl <;> omega
theorem JL.addset (h : JL w x b jb S D J) (u : Int) : JStep S jb x (x.setCell ⟨jb, 3, none⟩ (.int .i64 u)) S ∧ JL w (x.setCell ⟨jb, 3, none⟩ (.int .i64 u)) b jb S D { J with added := u } := h.set (keeps_set _) (blk_set h.j _)
theorem JL.fileset (h : JL w x b jb S D J) (n u : Int) : JStep S jb x ((x.setCell ⟨jb, 2, none⟩ (.int .i64 n)).setCell ⟨jb, 3, none⟩ (.int .i64 u)) S ∧ JL w ((x.setCell ⟨jb, 2, none⟩ (.int .i64 n)).setCell ⟨jb, 3, none⟩ (.int .i64 u)) b jb S D { J with file := n, added := u } :=
 h.set ((keeps_set _).then (keeps_set _)) (blk_set (blk_set h.j _) _)
theorem JL.cells (h : JL w x b jb S D J) : x.cell? ⟨jb, 0, none⟩ = some (.pointer (some ⟨b, 0, none⟩)) ∧ x.cell? ⟨jb, 2, none⟩ = some (.int .i64 J.file) ∧ x.cell? ⟨jb, 3, none⟩ = some (.int .i64 J.added) ∧ x.frozen? ⟨jb, 2, none⟩ = false ∧ x.frozen? ⟨jb, 3, none⟩ = false ∧ jb < x.heap.size ∧ x.cell? ⟨jb, 1, none⟩ = some (.int .i64 J.size) := by
 have c0 := blk_cell h.j 0
 have c1 := blk_cell h.j 1
 have c2 := blk_cell h.j 2
 have c3 := blk_cell h.j 3
 simp at c0 c1 c2 c3
 exact ⟨c0, c2, c3, blk_soft h.j 2, blk_soft h.j 3, h.lt, c1⟩
theorem append15_any (h : JL w x b jb S D J) (hok : J.Ok) (hd : D.done + 2 < 4000000) {g : Nat} {pa : Option Addr} {pc : Nat} {p : List UInt8} (hv : Bw x g (.slice pa p.length pc) p) (hg : p ≠ [] → ¬ S g ∧ g ≠ jb) :
  Calls Try.prog 29 #[.pointer (some ⟨jb, 0, none⟩), .slice pa p.length pc] x (JDone w x b jb S (appendJ D J p)) := by
 have HU := Lib.hid h.usable
 obtain ⟨c0, c2, c3, f2, f3, hl, c1⟩ := h.cells
 have H := Lib.hid h
 have HV : Hid (∀ y S', JStep S jb x y S' → Bw y g (.slice pa p.length pc) p) := Lib.hid fun y S' hs => hv.keep hs.k fun hne e => by
  rcases e with e | e
  ·exact (hg hne).1 e
  ·exact (hg hne).2 e
 cases hb : J.brk
 ·rw [hb] at HU
  obtain ⟨N, hN⟩ : ∃ N, N = (fr false p).length := ⟨_, rfl⟩
  have hNl := fr_len false p
  have HN := Lib.hid hN.symm
  by_cases hs : J.size ≤ J.added
  ·have hw1 : wrap64 (J.file + 1) = J.file + 1 := by have := hok.f0; have := hok.f1; unfold wrap64; omega
   cases hf0 : decide (fitsN p.length (J.file + 1) = 0)
   ·have hf : fitsN p.length (J.file + 1) ≠ 0 := by simpa using hf0
    have e : appendJ D J p = (fitsN p.length (J.file + 1), D, J) := by unfold appendJ; rw [if_neg (by rw [hb]; decide), if_pos hs, if_pos hf]
    rw [e]
    have hfb : (fitsN p.length (J.file + 1) != 0) = true := by simpa using hf
    obtain ⟨q, hq⟩ : ∃ q, q = fitsN p.length (J.file + 1) := ⟨_, rfl⟩
    have HQ := Lib.hid hq.symm
    rw [← hq] at hfb ⊢
    clear hq
    have HFT : Hid (Calls Try.prog 57 #[.slice pa p.length pc, .int .i64 (J.file + 1)] x.drew fun r w' => r = .returned (.int .i64 q) ∧ x.drew = w') := by
     show Calls _ _ _ _ _
     refine (fits15_any x.drew pa p.length pc (J.file + 1)).mono fun r w' h => ⟨?_, h.2.symm⟩
     rw [h.1, HQ.out]
    clear e hb h hd hv hg hok hN hNl hf hf0
    go_enter Try.func29, Try.ntmps29
    go_wp2_with (go_at_call 56; refine HU.out.mono ?_; rintro r w' ⟨rfl, rfl⟩)
    go_region
    go_wp2_with (first
     | (go_at_call 57; refine HFT.out.mono ?_; rintro r w' ⟨rfl, rfl⟩))
    go_ret
    exact ⟨rfl, S, (H.out.keep (Keeps.drew _ x)).1, (H.out.keep (Keeps.drew _ x)).2⟩
   ·have hf : fitsN p.length (J.file + 1) = 0 := by simpa using hf0
    have hne : (J.file + 1 != J.file) = true := by simp; omega
    have e : appendJ D J p = if (syncD D J.file).1 ≠ 0 then ((syncD D J.file).1, (syncD D J.file).2, J.heed (syncD D J.file).1) else app2 (syncD D J.file).2 J.next p := by unfold appendJ; rw [if_neg (by rw [hb]; decide), if_pos hs, if_neg (by rw [hf]; decide)]
    rw [e]
    clear e
    have HSY := Lib.hid (h.sync J.file (by omega) ((Keeps.drew _ x).then (Keeps.drew _ _)))
    have hsd := sync_done D J.file
    generalize syncD D J.file = Q at *
    obtain ⟨e1, D1⟩ := Q
    dsimp only at HSY hsd ⊢
    have HFZ : Hid (fitsN p.length (J.file + 1) = 0) := Lib.hid hf
    have HPL : Hid (p.length ≤ 1048576) := by
     show _ ≤ _
     by_cases hh : 1048576 < p.length
     ·have := HFZ.out; unfold fitsN at this; rw [if_pos hh] at this; cases this
     ·omega
    have HNB : Hid (N ≤ 1000000000) := by have := HPL.out; show _ ≤ _; omega
    have HFT : Hid (Calls Try.prog 57 #[.slice pa p.length pc, .int .i64 (J.file + 1)] x.drew fun r w' => r = .returned (.int .i64 0) ∧ x.drew = w') := by
     show Calls _ _ _ _ _
     refine (fits15_any x.drew pa p.length pc (J.file + 1)).mono fun r w' h => ⟨?_, h.2.symm⟩
     rw [h.1, HFZ.out]
    by_cases he1 : e1 = 0
    ·subst he1
     rw [if_neg (by decide)]
     have HDN : Hid (D1.done < 4000000) := Lib.hid (by omega)
     have HAE : Hid (app2 D1 J.next p = if (appendD D1 (J.file + 1) (fr false p)).1 = 0 then (0, (appendD D1 (J.file + 1) (fr false p)).2, { J.next with added := J.next.added + (fr false p).length }) else ((appendD D1 (J.file + 1) (fr false p)).1, (appendD D1 (J.file + 1) (fr false p)).2, Jp.heed J.next (appendD D1 (J.file + 1) (fr false p)).1)) := rfl
     rw [HAE.out, HN.out]
     clear HAE
     have HLAY : Hid (∀ (y0 y1 : World) (T : Nat → Prop) (fa : Option Addr) (fc k : Nat), JL w y0 b jb T D1 J.next → Bw y1 k (.slice fa N fc) (fr false p) → y0.heap.size ≤ k → k < y1.heap.size → Keeps (fun _ => False) y0 y1 → Calls Try.prog 14 #[.pointer (some ⟨b, 0, none⟩), .int .i64 (J.file + 1), .slice (some ⟨y1.heap.size, 0, none⟩) 1 1] (y1.alloc (.cells #[.slice fa N fc] 39)) fun e z => e = .returned (.int .i64 (appendD D1 (J.file + 1) (fr false p)).1) ∧ ∃ S', JStep T jb y0 z S' ∧ JL w z b jb S' (appendD D1 (J.file + 1) (fr false p)).2 J.next) := Lib.hid fun y0 y1 T fa fc k h1 h2 h3 h4 h5 => h1.lay _ HDN.out HN.out h2 h3 h4 h5 HNB.out
     generalize appendD D1 (J.file + 1) (fr false p) = R at *
     obtain ⟨e, D2⟩ := R
     dsimp only at HLAY ⊢
     by_cases he : e = 0
     ·subst he
      have hw3 : wrap64 (J.next.added + (N : Int)) = J.next.added + (N : Int) := by have := HNB.out; have hz : J.next.added = 0 := rfl; rw [hz]; unfold wrap64; omega
      rw [if_pos rfl]
      clear h hd hv hg hok hN hNl hf hf0 hb
      go_enter Try.func29, Try.ntmps29
      go_wp2_with (go_at_call 56; refine HU.out.mono ?_; rintro r w' ⟨rfl, rfl⟩)
      go_region
      go_wp2_with (first
       | (go_at_call 58; have _t := HJ5.out; clear _t; refine (HJ5.out.heed _ (Keeps.refl _ _)).mono ?_; rintro r y6 ⟨rfl, T6, s6, j6⟩; rw [Jp.heed_no (.inl rfl)] at j6; have HS6 := Lib.hid s6; have HJ6 := Lib.hid j6; obtain ⟨g0, g2, g3, h2, h3, gl, _⟩ := j6.cells; clear s6 j6)
       | (go_at_call 14; refine (HLAY.out _ _ _ _ _ _ HJ3.out HF4.out HF5.out HF6.out HK4.out).mono ?_; rintro r y5 ⟨rfl, T5, s5, j5⟩; have HS5 := Lib.hid s5; have HJ5 := Lib.hid j5; clear s5 j5)
       | (go_at_call 59; have HV3 := Lib.hid (HV.out _ _ (HS1.out.trans (HS2.out.trans (HJ2.out.fileset (J.file + 1) 0).1))); have HJ3 : Hid (JL w _ b jb T2 D1 J.next) := Lib.hid (HJ2.out.fileset (J.file + 1) 0).2; refine (frame15 HV3.out HPL.out).mono ?_; rintro r y4 ⟨fa, fc, fk, rfl, hf4, hf5, hf6, hf7⟩; rw [HN.out] at hf4 ⊢; have HF4 := Lib.hid hf4; have HF5 := Lib.hid hf5; have HF6 := Lib.hid hf6; have HK4 := Lib.hid hf7; obtain ⟨d0, d2, d3, e2, e3, dl, _⟩ := (HJ3.out.keep HK4.out).2.cells; clear hf4 hf5 hf6 hf7)
       | (go_at_call 57; refine HFT.out.mono ?_; rintro r w' ⟨rfl, rfl⟩))
      go_region_law (first
       | ((try go_simp); go_at_call 17; refine HSY.out.mono ?_; rintro r y1 ⟨rfl, T1, s1, j1⟩; have HS1 := Lib.hid s1; have HJ1 := Lib.hid j1; clear s1 j1)
       | ((try go_simp); go_at_call 58; refine (HJ1.out.heed _ (Keeps.refl _ _)).mono ?_; rintro r y2 ⟨rfl, T2, s2, j2⟩; rw [Jp.heed_no (.inl rfl)] at j2; have HS2 := Lib.hid s2; have HJ2 := Lib.hid j2; obtain ⟨k0, k2, k3, l2, l3, kl, _⟩ := j2.cells; clear s2 j2))
      all_goals
       go_wp2_with (first
        | (go_at_call 58; have _t := HJ5.out; clear _t; refine (HJ5.out.heed _ (Keeps.refl _ _)).mono ?_; rintro r y6 ⟨rfl, T6, s6, j6⟩; rw [Jp.heed_no (.inl rfl)] at j6; have HS6 := Lib.hid s6; have HJ6 := Lib.hid j6; obtain ⟨g0, g2, g3, h2, h3, gl, _⟩ := j6.cells; clear s6 j6)
        | (go_at_call 14; refine (HLAY.out _ _ _ _ _ _ HJ3.out HF4.out HF5.out HF6.out HK4.out).mono ?_; rintro r y5 ⟨rfl, T5, s5, j5⟩; have HS5 := Lib.hid s5; have HJ5 := Lib.hid j5; clear s5 j5)
        | (go_at_call 59; have HV3 := Lib.hid (HV.out _ _ (HS1.out.trans (HS2.out.trans (HJ2.out.fileset (J.file + 1) 0).1))); have HJ3 : Hid (JL w _ b jb T2 D1 J.next) := Lib.hid (HJ2.out.fileset (J.file + 1) 0).2; refine (frame15 HV3.out HPL.out).mono ?_; rintro r y4 ⟨fa, fc, fk, rfl, hf4, hf5, hf6, hf7⟩; rw [HN.out] at hf4 ⊢; have HF4 := Lib.hid hf4; have HF5 := Lib.hid hf5; have HF6 := Lib.hid hf6; have HK4 := Lib.hid hf7; obtain ⟨d0, d2, d3, e2, e3, dl, _⟩ := (HJ3.out.keep HK4.out).2.cells; clear hf4 hf5 hf6 hf7)
        | (go_at_call 57; refine HFT.out.mono ?_; rintro r w' ⟨rfl, rfl⟩))
       go_ret
       exact ⟨rfl, _, (HS1.out.trans (HS2.out.trans (HJ2.out.fileset _ _).1)).trans (HS5.out.trans (HS6.out.trans (HJ6.out.addset _).1)), (HJ6.out.addset _).2⟩
     ·have hbe : (e != 0) = true := by simpa using he
      rw [if_neg he]
      clear h hd hv hg hok hN hNl hf hf0 hb he
      go_enter Try.func29, Try.ntmps29
      go_wp2_with (go_at_call 56; refine HU.out.mono ?_; rintro r w' ⟨rfl, rfl⟩)
      go_region
      go_wp2_with (first
       | (go_at_call 58; have _t := HJ5.out; clear _t; refine (HJ5.out.heed _ (Keeps.refl _ _)).mono ?_; rintro r y6 ⟨rfl, T6, s6, j6⟩; have HS6 := Lib.hid s6; have HJ6 := Lib.hid j6; obtain ⟨g0, g2, g3, h2, h3, gl, _⟩ := j6.cells; clear s6 j6)
       | (go_at_call 14; refine (HLAY.out _ _ _ _ _ _ HJ3.out HF4.out HF5.out HF6.out HK4.out).mono ?_; rintro r y5 ⟨rfl, T5, s5, j5⟩; have HS5 := Lib.hid s5; have HJ5 := Lib.hid j5; clear s5 j5)
       | (go_at_call 59; have HV3 := Lib.hid (HV.out _ _ (HS1.out.trans (HS2.out.trans (HJ2.out.fileset (J.file + 1) 0).1))); have HJ3 : Hid (JL w _ b jb T2 D1 J.next) := Lib.hid (HJ2.out.fileset (J.file + 1) 0).2; refine (frame15 HV3.out HPL.out).mono ?_; rintro r y4 ⟨fa, fc, fk, rfl, hf4, hf5, hf6, hf7⟩; rw [HN.out] at hf4 ⊢; have HF4 := Lib.hid hf4; have HF5 := Lib.hid hf5; have HF6 := Lib.hid hf6; have HK4 := Lib.hid hf7; obtain ⟨d0, d2, d3, e2, e3, dl, _⟩ := (HJ3.out.keep HK4.out).2.cells; clear hf4 hf5 hf6 hf7)
       | (go_at_call 57; refine HFT.out.mono ?_; rintro r w' ⟨rfl, rfl⟩))
      go_region_law (first
       | ((try go_simp); go_at_call 17; refine HSY.out.mono ?_; rintro r y1 ⟨rfl, T1, s1, j1⟩; have HS1 := Lib.hid s1; have HJ1 := Lib.hid j1; clear s1 j1)
       | ((try go_simp); go_at_call 58; refine (HJ1.out.heed _ (Keeps.refl _ _)).mono ?_; rintro r y2 ⟨rfl, T2, s2, j2⟩; rw [Jp.heed_no (.inl rfl)] at j2; have HS2 := Lib.hid s2; have HJ2 := Lib.hid j2; obtain ⟨k0, k2, k3, l2, l3, kl, _⟩ := j2.cells; clear s2 j2))
      all_goals
       go_wp2_with (first
        | (go_at_call 58; have _t := HJ5.out; clear _t; refine (HJ5.out.heed _ (Keeps.refl _ _)).mono ?_; rintro r y6 ⟨rfl, T6, s6, j6⟩; have HS6 := Lib.hid s6; have HJ6 := Lib.hid j6; obtain ⟨g0, g2, g3, h2, h3, gl, _⟩ := j6.cells; clear s6 j6)
        | (go_at_call 14; refine (HLAY.out _ _ _ _ _ _ HJ3.out HF4.out HF5.out HF6.out HK4.out).mono ?_; rintro r y5 ⟨rfl, T5, s5, j5⟩; have HS5 := Lib.hid s5; have HJ5 := Lib.hid j5; clear s5 j5)
        | (go_at_call 59; have HV3 := Lib.hid (HV.out _ _ (HS1.out.trans (HS2.out.trans (HJ2.out.fileset (J.file + 1) 0).1))); have HJ3 : Hid (JL w _ b jb T2 D1 J.next) := Lib.hid (HJ2.out.fileset (J.file + 1) 0).2; refine (frame15 HV3.out HPL.out).mono ?_; rintro r y4 ⟨fa, fc, fk, rfl, hf4, hf5, hf6, hf7⟩; rw [HN.out] at hf4 ⊢; have HF4 := Lib.hid hf4; have HF5 := Lib.hid hf5; have HF6 := Lib.hid hf6; have HK4 := Lib.hid hf7; obtain ⟨d0, d2, d3, e2, e3, dl, _⟩ := (HJ3.out.keep HK4.out).2.cells; clear hf4 hf5 hf6 hf7)
        | (go_at_call 57; refine HFT.out.mono ?_; rintro r w' ⟨rfl, rfl⟩))
       go_ret
       exact ⟨rfl, _, (HS1.out.trans (HS2.out.trans (HJ2.out.fileset _ _).1)).trans (HS5.out.trans HS6.out), HJ6.out⟩
    ·have hb1 : (e1 != 0) = true := by simpa using he1
     rw [if_pos he1]
     clear h hd hv hg hok hN hNl hf hf0 hb he1
 
     go_enter Try.func29, Try.ntmps29
     go_wp2_with (go_at_call 56; refine HU.out.mono ?_; rintro r w' ⟨rfl, rfl⟩)
     go_region
     go_wp2_with (first
      | (go_at_call 57; refine HFT.out.mono ?_; rintro r w' ⟨rfl, rfl⟩))
     go_region_law (first
      | ((try go_simp); go_at_call 17; refine HSY.out.mono ?_; rintro r y1 ⟨rfl, T1, s1, j1⟩; have HS1 := Lib.hid s1; have HJ1 := Lib.hid j1; clear s1 j1)
      | ((try go_simp); go_at_call 58; refine (HJ1.out.heed _ (Keeps.refl _ _)).mono ?_; rintro r y2 ⟨rfl, T2, s2, j2⟩; have HS2 := Lib.hid s2; have HJ2 := Lib.hid j2; obtain ⟨k0, k2, k3, l2, l3, kl, _⟩ := j2.cells; clear s2 j2))
     all_goals
      go_wp2
      go_ret
      exact ⟨rfl, _, HS1.out.trans HS2.out, HJ2.out⟩
  ·have hsn : ¬ J.size ≤ J.added := hs
   cases hf0 : decide (fitsN p.length J.file = 0)
   ·have hf : fitsN p.length J.file ≠ 0 := by simpa using hf0
    have e : appendJ D J p = (fitsN p.length J.file, D, J) := by unfold appendJ; rw [if_neg (by rw [hb]; decide), if_neg hs, if_pos hf]
    rw [e]
    have hfb : (fitsN p.length J.file != 0) = true := by simpa using hf
    obtain ⟨q, hq⟩ : ∃ q, q = fitsN p.length (J.file) := ⟨_, rfl⟩
    have HQ := Lib.hid hq.symm
    rw [← hq] at hfb ⊢
    clear hq
    have HFT : Hid (Calls Try.prog 57 #[.slice pa p.length pc, .int .i64 (J.file)] x.drew fun r w' => r = .returned (.int .i64 q) ∧ x.drew = w') := by
     show Calls _ _ _ _ _
     refine (fits15_any x.drew pa p.length pc (J.file)).mono fun r w' h => ⟨?_, h.2.symm⟩
     rw [h.1, HQ.out]
    clear e hb h hd hv hg hok hN hNl hf hf0
    go_enter Try.func29, Try.ntmps29
    go_wp2_with (go_at_call 56; refine HU.out.mono ?_; rintro r w' ⟨rfl, rfl⟩)
    go_region
    go_wp2_with (first
     | (go_at_call 57; refine HFT.out.mono ?_; rintro r w' ⟨rfl, rfl⟩))
    go_ret
    exact ⟨rfl, S, (H.out.keep (Keeps.drew _ x)).1, (H.out.keep (Keeps.drew _ x)).2⟩
   ·have hf : fitsN p.length J.file = 0 := by simpa using hf0
    have e : appendJ D J p = app2 D J p := by unfold appendJ; rw [if_neg (by rw [hb]; decide), if_neg hs, if_neg (by rw [hf]; decide)]
    rw [e]
    clear e
    have hfs : (J.file != J.file) = false := by simp
    have HFZ : Hid (fitsN p.length (J.file) = 0) := Lib.hid hf
    have HPL : Hid (p.length ≤ 1048576) := by
     show _ ≤ _
     by_cases hh : 1048576 < p.length
     ·have := HFZ.out; unfold fitsN at this; rw [if_pos hh] at this; cases this
     ·omega
    have HNB : Hid (N ≤ 1000000000) := by have := HPL.out; show _ ≤ _; omega
    have HFT : Hid (Calls Try.prog 57 #[.slice pa p.length pc, .int .i64 (J.file)] x.drew fun r w' => r = .returned (.int .i64 0) ∧ x.drew = w') := by
     show Calls _ _ _ _ _
     refine (fits15_any x.drew pa p.length pc (J.file)).mono fun r w' h => ⟨?_, h.2.symm⟩
     rw [h.1, HFZ.out]
    have HDN : Hid (D.done < 4000000) := Lib.hid (by omega)
    have HAE : Hid (app2 D J p = if (appendD D (J.file) (fr false p)).1 = 0 then (0, (appendD D (J.file) (fr false p)).2, { J with added := J.added + (fr false p).length }) else ((appendD D (J.file) (fr false p)).1, (appendD D (J.file) (fr false p)).2, Jp.heed J (appendD D (J.file) (fr false p)).1)) := rfl
    rw [HAE.out, HN.out]
    clear HAE
    have HLAY : Hid (∀ (y0 y1 : World) (T : Nat → Prop) (fa : Option Addr) (fc k : Nat), JL w y0 b jb T D J → Bw y1 k (.slice fa N fc) (fr false p) → y0.heap.size ≤ k → k < y1.heap.size → Keeps (fun _ => False) y0 y1 → Calls Try.prog 14 #[.pointer (some ⟨b, 0, none⟩), .int .i64 (J.file), .slice (some ⟨y1.heap.size, 0, none⟩) 1 1] (y1.alloc (.cells #[.slice fa N fc] 39)) fun e z => e = .returned (.int .i64 (appendD D (J.file) (fr false p)).1) ∧ ∃ S', JStep T jb y0 z S' ∧ JL w z b jb S' (appendD D (J.file) (fr false p)).2 J) := Lib.hid fun y0 y1 T fa fc k h1 h2 h3 h4 h5 => h1.lay _ HDN.out HN.out h2 h3 h4 h5 HNB.out
    generalize appendD D (J.file) (fr false p) = R at *
    obtain ⟨e, D2⟩ := R
    dsimp only at HLAY ⊢
    by_cases he : e = 0
    ·subst he
     have hw3 : wrap64 (J.added + (N : Int)) = J.added + (N : Int) := by have := HNB.out; have := hok.a0; have := hok.a1; unfold wrap64; omega
     rw [if_pos rfl]
     clear h hd hv hg hok hN hNl hf hf0 hb
     go_enter Try.func29, Try.ntmps29
     go_wp2_with (go_at_call 56; refine HU.out.mono ?_; rintro r w' ⟨rfl, rfl⟩)
     go_region
     go_wp2_with (first
      | (go_at_call 58; have _t := HJ5.out; clear _t; refine (HJ5.out.heed _ (Keeps.refl _ _)).mono ?_; rintro r y6 ⟨rfl, T6, s6, j6⟩; rw [Jp.heed_no (.inl rfl)] at j6; have HS6 := Lib.hid s6; have HJ6 := Lib.hid j6; obtain ⟨g0, g2, g3, h2, h3, gl, _⟩ := j6.cells; clear s6 j6)
      | (go_at_call 14; refine (HLAY.out _ _ _ _ _ _ HJ3.out HF4.out HF5.out HF6.out HK4.out).mono ?_; rintro r y5 ⟨rfl, T5, s5, j5⟩; have HS5 := Lib.hid s5; have HJ5 := Lib.hid j5; clear s5 j5)
      | (go_at_call 59; have HV3 := Lib.hid (HV.out _ _ (H.out.keep (Keeps.drew _ x)).1); have HJ3 := Lib.hid (H.out.keep (Keeps.drew _ x)).2; refine (frame15 HV3.out HPL.out).mono ?_; rintro r y4 ⟨fa, fc, fk, rfl, hf4, hf5, hf6, hf7⟩; rw [HN.out] at hf4 ⊢; have HF4 := Lib.hid hf4; have HF5 := Lib.hid hf5; have HF6 := Lib.hid hf6; have HK4 := Lib.hid hf7; obtain ⟨d0, d2, d3, e2, e3, dl, _⟩ := (HJ3.out.keep HK4.out).2.cells; clear hf4 hf5 hf6 hf7)
      | (go_at_call 57; refine HFT.out.mono ?_; rintro r w' ⟨rfl, rfl⟩))
     go_ret
     exact ⟨rfl, _, (H.out.keep (Keeps.drew _ x)).1.trans (HS5.out.trans (HS6.out.trans (HJ6.out.addset _).1)), (HJ6.out.addset _).2⟩
    ·have hbe : (e != 0) = true := by simpa using he
     rw [if_neg he]
     clear h hd hv hg hok hN hNl hf hf0 hb he
     go_enter Try.func29, Try.ntmps29
     go_wp2_with (go_at_call 56; refine HU.out.mono ?_; rintro r w' ⟨rfl, rfl⟩)
     go_region
     go_wp2_with (first
      | (go_at_call 58; have _t := HJ5.out; clear _t; refine (HJ5.out.heed _ (Keeps.refl _ _)).mono ?_; rintro r y6 ⟨rfl, T6, s6, j6⟩; have HS6 := Lib.hid s6; have HJ6 := Lib.hid j6; obtain ⟨g0, g2, g3, h2, h3, gl, _⟩ := j6.cells; clear s6 j6)
      | (go_at_call 14; refine (HLAY.out _ _ _ _ _ _ HJ3.out HF4.out HF5.out HF6.out HK4.out).mono ?_; rintro r y5 ⟨rfl, T5, s5, j5⟩; have HS5 := Lib.hid s5; have HJ5 := Lib.hid j5; clear s5 j5)
      | (go_at_call 59; have HV3 := Lib.hid (HV.out _ _ (H.out.keep (Keeps.drew _ x)).1); have HJ3 := Lib.hid (H.out.keep (Keeps.drew _ x)).2; refine (frame15 HV3.out HPL.out).mono ?_; rintro r y4 ⟨fa, fc, fk, rfl, hf4, hf5, hf6, hf7⟩; rw [HN.out] at hf4 ⊢; have HF4 := Lib.hid hf4; have HF5 := Lib.hid hf5; have HF6 := Lib.hid hf6; have HK4 := Lib.hid hf7; obtain ⟨d0, d2, d3, e2, e3, dl, _⟩ := (HJ3.out.keep HK4.out).2.cells; clear hf4 hf5 hf6 hf7)
      | (go_at_call 57; refine HFT.out.mono ?_; rintro r w' ⟨rfl, rfl⟩))
     go_ret
     exact ⟨rfl, _, (H.out.keep (Keeps.drew _ x)).1.trans (HS5.out.trans HS6.out), HJ6.out⟩
 ·rw [hb] at HU
  have e : appendJ D J p = (150, D, J) := by unfold appendJ; rw [if_pos hb]
  rw [e]
  clear e hb h hd hv hg
  go_enter Try.func29, Try.ntmps29
  go_wp2_with (go_at_call 56; refine HU.out.mono ?_; rintro r w' ⟨rfl, rfl⟩)
  go_ret
  exact ⟨rfl, S, JStep.refl _ _ _, H.out⟩
end

theorem delAll_zero (J : Jp) (kept : Int) (l : List Int) : ∀ D : Dm, (delAll J kept l D).1 = 0 → (delAll J kept l D).2.2 = J := by
 induction l with
 | nil => intro D _; rfl
 | cons n l ih =>
  intro D h
  rw [delAll_cons] at h ⊢
  split
  ·next hk => rw [if_pos hk] at h; exact ih D h
  ·next hk =>
   rw [if_neg hk] at h
   split
   ·next h0 => rw [if_pos h0] at h; exact ih _ h
   ·next h0 => rw [if_neg h0] at h; exact absurd h h0
theorem il_keep {x y : World} {S : Nat → Prop} {a : Option Addr} {c : Nat} {l : List Int} (h : S4.Il x a c l) (hk : Keeps S x y) (hS : ∀ g o, a = some ⟨g, o, none⟩ → ¬ S g) : S4.Il y a c l := by
 refine ⟨h.1, fun hne => ?_⟩
 obtain ⟨g, o, ha, hg, hr⟩ := h.2 hne
 exact ⟨g, o, ha, Nat.lt_of_lt_of_le hg hk.size, fun i s hi => hk.cell (hS g o ha) (hr i s hi)⟩
section
variable {w x : World} {b jb : Nat} {S : Nat → Prop} {D : Dm} {J : Jp}
theorem rewrite15_any (h : JL w x b jb S D J) (hok : J.Ok) (hd : D.done + 1010 < 4000000) {g : Nat} {pa : Option Addr} {pc : Nat} {p : List UInt8} (hv : Bw x g (.slice pa p.length pc) p) (hg : p ≠ [] → ¬ S g ∧ g ≠ jb) :
  Calls Try.prog 32 #[.pointer (some ⟨jb, 0, none⟩), .slice pa p.length pc] x (JDone w x b jb S (rewriteJ D J p)) := by
 have HU := Lib.hid h.usable
 obtain ⟨c0, c2, c3, f2, f3, hl, c1⟩ := h.cells
 have H := Lib.hid h
 have HV : Hid (∀ y S', JStep S jb x y S' → Bw y g (.slice pa p.length pc) p) := Lib.hid fun y S' hs => hv.keep hs.k fun hne e => by
  rcases e with e | e
  ·exact (hg hne).1 e
  ·exact (hg hne).2 e
 cases hb : J.brk
 ·rw [hb] at HU
  obtain ⟨N, hN⟩ : ∃ N, N = (fr true p).length := ⟨_, rfl⟩
  have HN := Lib.hid hN.symm
  have hfiles := h.liv.files
  have hlm : (D.l.map Fil.n).length = D.l.length := List.length_map _
  have hl1000 : D.l.length ≤ 1000 := h.liv.p.good.len
  have HFI : Hid (Calls Try.prog 35 #[.pointer (some ⟨b, 0, none⟩)] x fun e x1 => ∃ fa fc, e = .returned (.slice fa D.l.length fc) ∧ Keeps (fun _ => False) x x1 ∧ ∀ y4, Keeps (fun _ => False) x1 y4 → ∀ z T, JStep S jb y4 z T → S4.Il z fa fc (D.l.map Fil.n) ∧ ∀ g o, fa = some ⟨g, o, none⟩ → ¬ T g ∧ g ≠ jb) := by
   show Calls _ _ _ _ _
   refine hfiles.mono ?_
   rintro e x1 ⟨v, rfl, ho, hbl⟩
   obtain ⟨fa, fc, hvf⟩ := ho.form
   rw [hlm] at hvf
   subst hvf
   have hgk : ∀ g o, fa = some ⟨g, o, none⟩ → x.heap.size ≤ g ∧ g < x1.heap.size := fun g o e => by
    obtain ⟨q1, C, q2⟩ := ownsRow_at ho (g := g) (by rw [e]; rfl)
    exact ⟨q1, lt_of_block q2⟩
   refine ⟨fa, fc, rfl, .ofBelow hbl, fun y4 hk4 z T hs => ?_⟩
   have hT : ∀ g o, fa = some ⟨g, o, none⟩ → ¬ T g ∧ g ≠ jb ∧ ¬ S g := by
    intro g o e
    obtain ⟨q1, q2⟩ := hgk g o e
    have nS : ¬ S g := fun hs => by have := H.out.liv.lt g hs; omega
    refine ⟨fun ht => ?_, by have := H.out.lt; omega, nS⟩
    rcases hs.s g ht with e' | e'
    ·exact nS e'
    ·have := hk4.size; omega
   have h1 : S4.Il x1 fa fc (D.l.map Fil.n) := by
    rw [← hlm] at ho
    exact ho.at
   exact ⟨il_keep (il_keep h1 hk4 (fun _ _ _ h => h)) hs.k (fun g o e hh => by
    obtain ⟨q1, q2, q3⟩ := hT g o e
    rcases hh with hh | hh
    ·exact q3 hh
    ·exact q2 hh), fun g o e => ⟨(hT g o e).1, (hT g o e).2.1⟩⟩
  have hfile : (0 < J.added ∧ wrap64 (J.file + 1) = rewJ J) ∨ (¬ 0 < J.added ∧ J.file = rewJ J) := by
   unfold rewJ
   by_cases ha : 0 < J.added
   ·left
    rw [if_pos ha]
    exact ⟨ha, by have := hok.f0; have := hok.f1; unfold wrap64; omega⟩
   ·right
    rw [if_neg ha]
    exact ⟨ha, rfl⟩
  have hre : rewriteJ D J p = if fitsN p.length (rewJ J) ≠ 0 then (fitsN p.length (rewJ J), D, J) else if (appendD D (rewJ J) (fr true p)).1 ≠ 0 then ((appendD D (rewJ J) (fr true p)).1, (appendD D (rewJ J) (fr true p)).2, J.heed (appendD D (rewJ J) (fr true p)).1) else if (syncD (appendD D (rewJ J) (fr true p)).2 (rewJ J)).1 ≠ 0 then ((syncD (appendD D (rewJ J) (fr true p)).2 (rewJ J)).1, (syncD (appendD D (rewJ J) (fr true p)).2 (rewJ J)).2, J.heed (syncD (appendD D (rewJ J) (fr true p)).2 (rewJ J)).1) else if (delAll J (rewJ J) (D.l.map Fil.n) (syncD (appendD D (rewJ J) (fr true p)).2 (rewJ J)).2).1 ≠ 0 then delAll J (rewJ J) (D.l.map Fil.n) (syncD (appendD D (rewJ J) (fr true p)).2 (rewJ J)).2 else (0, (delAll J (rewJ J) (D.l.map Fil.n) (syncD (appendD D (rewJ J) (fr true p)).2 (rewJ J)).2).2.1, { J with file := rewJ J, added := (fr true p).length }) := by
   conv => lhs; unfold rewriteJ
   rw [if_neg (by rw [hb]; decide)]
  rw [hre, HN.out]
  clear hre hN
  have had := app_done D (rewJ J) (fr true p)
  have hsd := sync_done (appendD D (rewJ J) (fr true p)).2 (rewJ J)
  generalize rewJ J = F at *
  have HDN : Hid (D.done < 4000000) := Lib.hid (by omega)
  have HFT : Hid (Calls Try.prog 57 #[.slice pa p.length pc, .int .i64 F] x fun r w' => r = .returned (.int .i64 (fitsN p.length F)) ∧ x = w') := Lib.hid ((fits15_any x pa p.length pc F).mono fun r w' h => ⟨h.1, h.2.symm⟩)
  have HNF : Hid (fitsN p.length F = 0 → p.length ≤ 1048576) := by
   show _ → _
   intro e
   by_cases hh : 1048576 < p.length
   ·unfold fitsN at e; rw [if_pos hh] at e; cases e
   ·omega
  have HNL : Hid (N = 13 + p.length) := Lib.hid (by rw [← HN.out]; exact fr_len true p)
  have HLAY : Hid (N ≤ 1000000000 → ∀ (y0 y1 : World) (T : Nat → Prop) (fa : Option Addr) (fc k : Nat), JL w y0 b jb T D J → Bw y1 k (.slice fa N fc) (fr true p) → y0.heap.size ≤ k → k < y1.heap.size → Keeps (fun _ => False) y0 y1 → Calls Try.prog 14 #[.pointer (some ⟨b, 0, none⟩), .int .i64 F, .slice (some ⟨y1.heap.size, 0, none⟩) 1 1] (y1.alloc (.cells #[.slice fa N fc] 39)) fun e z => e = .returned (.int .i64 (appendD D F (fr true p)).1) ∧ ∃ S', JStep T jb y0 z S' ∧ JL w z b jb S' (appendD D F (fr true p)).2 J) := Lib.hid fun hn y0 y1 T fa fc k h1 h2 h3 h4 h5 => h1.lay _ HDN.out HN.out h2 h3 h4 h5 hn
  generalize appendD D F (fr true p) = R1 at *
  obtain ⟨e1, D1⟩ := R1
  dsimp only at HLAY had hsd ⊢
  have HSY : Hid (∀ (y : World) (T : Nat → Prop), JL w y b jb T D1 J → Calls Try.prog 17 #[.pointer (some ⟨b, 0, none⟩), .int .i64 F] y fun e z => e = .returned (.int .i64 (syncD D1 F).1) ∧ ∃ S', JStep T jb y z S' ∧ JL w z b jb S' (syncD D1 F).2 J) := Lib.hid fun y T hj => hj.sync F (by omega) (Keeps.refl _ _)
  generalize syncD D1 F = R2 at *
  obtain ⟨e2, D2⟩ := R2
  dsimp only at HSY hsd ⊢
  have HDA : Hid (∀ (y : World) (T : Nat → Prop) (fa : Option Addr) (fc : Nat), JL w y b jb T D2 J → S4.Il y fa fc (D.l.map Fil.n) → (∀ g o, fa = some ⟨g, o, none⟩ → ¬ T g ∧ g ≠ jb) → Calls Try.prog 60 #[.pointer (some ⟨jb, 0, none⟩), .slice fa D.l.length fc, .int .i64 F] y (JDone w y b jb T (delAll J F (D.l.map Fil.n) D2))) := Lib.hid fun y T fa fc hj hil hT => by
   rw [← hlm]
   exact deleteAll_any hj F _ fa fc hil hT (by rw [hlm]; exact hl1000) (by omega)
  have hz3 := delAll_zero J F (D.l.map Fil.n) D2
  generalize delAll J F (D.l.map Fil.n) D2 = R3 at *
  obtain ⟨e3, D3, J3⟩ := R3
  dsimp only at HDA hz3 ⊢
  rcases hfile with ⟨ha, hw1⟩ | ⟨ha, hF⟩
  ·cases hf0 : decide (fitsN p.length F = 0)
   ·have hf : fitsN p.length F ≠ 0 := by simpa using hf0
    have hfb : (fitsN p.length F != 0) = true := by simpa using hf
    rw [if_pos hf]
    generalize fitsN p.length F = q at *
    clear h hd hv hg hok had hsd hz3 hlm hl1000 hfiles hb hf hf0
    go_enter Try.func32, Try.ntmps32
    go_wp2_with (first
     | (go_at_call 56; refine HU.out.mono ?_; rintro r w' ⟨rfl, rfl⟩)
     | (go_at_call 57; refine HFT.out.mono ?_; rintro r w' ⟨rfl, rfl⟩))
    go_ret
    exact ⟨rfl, S, JStep.refl _ _ _, H.out⟩
   ·have hf : fitsN p.length F = 0 := by simpa using hf0
    have HPL : Hid (p.length ≤ 1048576) := Lib.hid (HNF.out hf)
    have HNB : Hid (N ≤ 1000000000) := Lib.hid (by have := HNL.out; have := HPL.out; omega)
    rw [if_neg (by rw [hf]; decide)]
    rw [hf] at HFT
    clear h hd hv hg hok had hsd hlm hl1000 hfiles hb hf hf0 HNF HNL
    by_cases he1 : e1 = 0
    ·subst he1
     rw [if_neg (by decide)]
     by_cases he2 : e2 = 0
     ·subst he2
      rw [if_neg (by decide)]
      by_cases he3 : e3 = 0
      ·subst he3
       rw [if_neg (by decide)]
       obtain rfl := hz3 rfl
       go_enter Try.func32, Try.ntmps32
       go_wp2_with (first
        | (go_at_call 56; refine HU.out.mono ?_; rintro r w' ⟨rfl, rfl⟩)
        | (go_at_call 57; refine HFT.out.mono ?_; rintro r w' ⟨rfl, rfl⟩)
        | (go_at_call 35; refine HFI.out.mono ?_; rintro r x1 ⟨fa, fc, rfl, hk1, hil⟩; have HK1 := Lib.hid hk1; have HIL := Lib.hid hil; clear hk1 hil)
        | (go_at_call 59; refine (frame15 (HV.out _ _ (H.out.keep HK1.out).1) HPL.out).mono ?_; rintro r y4 ⟨ga, gc, fk, rfl, hf4, hf5, hf6, hf7⟩; rw [HN.out] at hf4 ⊢; have HF4 := Lib.hid hf4; have HF5 := Lib.hid hf5; have HF6 := Lib.hid hf6; have HK4 := Lib.hid hf7; obtain ⟨d0, d2, d3, e2_, e3_, dl, _⟩ := (H.out.keep (HK1.out.then HK4.out)).2.cells; clear hf4 hf5 hf6 hf7)
        | (go_at_call 14; refine (HLAY.out HNB.out _ _ _ _ _ _ (H.out.keep HK1.out).2 HF4.out HF5.out HF6.out HK4.out).mono ?_; rintro r y5 ⟨rfl, T5, s5, j5⟩; have HS5 := Lib.hid s5; have HJ5 := Lib.hid j5; clear s5 j5)
        | (go_at_call 17; refine (HSY.out _ _ HJ6.out).mono ?_; rintro r y7 ⟨rfl, T7, s7, j7⟩; have HS7 := Lib.hid s7; have HJ7 := Lib.hid j7; clear s7 j7)
        | (go_at_call 60; refine (HDA.out _ _ _ _ HJ8.out (HIL.out _ (Keeps.refl _ _) _ _ (HS5.out.trans (HS6.out.trans (HS7.out.trans HS8.out)))).1 (HIL.out _ (Keeps.refl _ _) _ _ (HS5.out.trans (HS6.out.trans (HS7.out.trans HS8.out)))).2).mono ?_; rintro r y9 ⟨rfl, T9, s9, j9⟩; have HS9 := Lib.hid s9; obtain ⟨q0, q2, q3, r2, r3, ql, _⟩ := j9.cells; have HJ9 := Lib.hid j9; clear s9 j9)
        | (go_at_call 58; refine (HJ7.out.heed _ (Keeps.refl _ _)).mono ?_; rintro r y8 ⟨rfl, T8, s8, j8⟩; rw [Jp.heed_no (.inl rfl)] at j8; have HS8 := Lib.hid s8; have HJ8 := Lib.hid j8; obtain ⟨k0, k2, k3, l2, l3, kl, _⟩ := j8.cells; clear s8 j8)
        | (go_at_call 58; refine (HJ5.out.heed _ (Keeps.refl _ _)).mono ?_; rintro r y6 ⟨rfl, T6, s6, j6⟩; rw [Jp.heed_no (.inl rfl)] at j6; have HS6 := Lib.hid s6; have HJ6 := Lib.hid j6; obtain ⟨g0, g2, g3, h2, h3, gl, _⟩ := j6.cells; clear s6 j6))
       go_ret
       exact ⟨rfl, _, (H.out.keep HK1.out).1.trans (HS5.out.trans (HS6.out.trans (HS7.out.trans (HS8.out.trans (HS9.out.trans (HJ9.out.fileset _ _).1))))), (HJ9.out.fileset _ _).2⟩
      ·have hbe : (e3 != 0) = true := by simpa using he3
       rw [if_pos he3]
       clear hz3 he3
       go_enter Try.func32, Try.ntmps32
       go_wp2_with (first
        | (go_at_call 56; refine HU.out.mono ?_; rintro r w' ⟨rfl, rfl⟩)
        | (go_at_call 57; refine HFT.out.mono ?_; rintro r w' ⟨rfl, rfl⟩)
        | (go_at_call 35; refine HFI.out.mono ?_; rintro r x1 ⟨fa, fc, rfl, hk1, hil⟩; have HK1 := Lib.hid hk1; have HIL := Lib.hid hil; clear hk1 hil)
        | (go_at_call 59; refine (frame15 (HV.out _ _ (H.out.keep HK1.out).1) HPL.out).mono ?_; rintro r y4 ⟨ga, gc, fk, rfl, hf4, hf5, hf6, hf7⟩; rw [HN.out] at hf4 ⊢; have HF4 := Lib.hid hf4; have HF5 := Lib.hid hf5; have HF6 := Lib.hid hf6; have HK4 := Lib.hid hf7; obtain ⟨d0, d2, d3, e2_, e3_, dl, _⟩ := (H.out.keep (HK1.out.then HK4.out)).2.cells; clear hf4 hf5 hf6 hf7)
        | (go_at_call 14; refine (HLAY.out HNB.out _ _ _ _ _ _ (H.out.keep HK1.out).2 HF4.out HF5.out HF6.out HK4.out).mono ?_; rintro r y5 ⟨rfl, T5, s5, j5⟩; have HS5 := Lib.hid s5; have HJ5 := Lib.hid j5; clear s5 j5)
        | (go_at_call 17; refine (HSY.out _ _ HJ6.out).mono ?_; rintro r y7 ⟨rfl, T7, s7, j7⟩; have HS7 := Lib.hid s7; have HJ7 := Lib.hid j7; clear s7 j7)
        | (go_at_call 60; refine (HDA.out _ _ _ _ HJ8.out (HIL.out _ (Keeps.refl _ _) _ _ (HS5.out.trans (HS6.out.trans (HS7.out.trans HS8.out)))).1 (HIL.out _ (Keeps.refl _ _) _ _ (HS5.out.trans (HS6.out.trans (HS7.out.trans HS8.out)))).2).mono ?_; rintro r y9 ⟨rfl, T9, s9, j9⟩; have HS9 := Lib.hid s9; have HJ9 := Lib.hid j9; clear s9 j9)
        | (go_at_call 58; refine (HJ7.out.heed _ (Keeps.refl _ _)).mono ?_; rintro r y8 ⟨rfl, T8, s8, j8⟩; rw [Jp.heed_no (.inl rfl)] at j8; have HS8 := Lib.hid s8; have HJ8 := Lib.hid j8; obtain ⟨k0, k2, k3, l2, l3, kl, _⟩ := j8.cells; clear s8 j8)
        | (go_at_call 58; refine (HJ5.out.heed _ (Keeps.refl _ _)).mono ?_; rintro r y6 ⟨rfl, T6, s6, j6⟩; rw [Jp.heed_no (.inl rfl)] at j6; have HS6 := Lib.hid s6; have HJ6 := Lib.hid j6; obtain ⟨g0, g2, g3, h2, h3, gl, _⟩ := j6.cells; clear s6 j6))
       go_ret
       exact ⟨rfl, _, (H.out.keep HK1.out).1.trans (HS5.out.trans (HS6.out.trans (HS7.out.trans (HS8.out.trans HS9.out)))), HJ9.out⟩
     ·have hbe : (e2 != 0) = true := by simpa using he2
      rw [if_pos he2]
      clear hz3 he2
      go_enter Try.func32, Try.ntmps32
      go_wp2_with (first
       | (go_at_call 56; refine HU.out.mono ?_; rintro r w' ⟨rfl, rfl⟩)
       | (go_at_call 57; refine HFT.out.mono ?_; rintro r w' ⟨rfl, rfl⟩)
       | (go_at_call 35; refine HFI.out.mono ?_; rintro r x1 ⟨fa, fc, rfl, hk1, hil⟩; have HK1 := Lib.hid hk1; have HIL := Lib.hid hil; clear hk1 hil)
       | (go_at_call 59; refine (frame15 (HV.out _ _ (H.out.keep HK1.out).1) HPL.out).mono ?_; rintro r y4 ⟨ga, gc, fk, rfl, hf4, hf5, hf6, hf7⟩; rw [HN.out] at hf4 ⊢; have HF4 := Lib.hid hf4; have HF5 := Lib.hid hf5; have HF6 := Lib.hid hf6; have HK4 := Lib.hid hf7; obtain ⟨d0, d2, d3, e2_, e3_, dl, _⟩ := (H.out.keep (HK1.out.then HK4.out)).2.cells; clear hf4 hf5 hf6 hf7)
       | (go_at_call 14; refine (HLAY.out HNB.out _ _ _ _ _ _ (H.out.keep HK1.out).2 HF4.out HF5.out HF6.out HK4.out).mono ?_; rintro r y5 ⟨rfl, T5, s5, j5⟩; have HS5 := Lib.hid s5; have HJ5 := Lib.hid j5; clear s5 j5)
       | (go_at_call 17; refine (HSY.out _ _ HJ6.out).mono ?_; rintro r y7 ⟨rfl, T7, s7, j7⟩; have HS7 := Lib.hid s7; have HJ7 := Lib.hid j7; clear s7 j7)
       | (go_at_call 58; refine (HJ7.out.heed _ (Keeps.refl _ _)).mono ?_; rintro r y8 ⟨rfl, T8, s8, j8⟩; have HS8 := Lib.hid s8; have HJ8 := Lib.hid j8; obtain ⟨k0, k2, k3, l2, l3, kl, _⟩ := j8.cells; clear s8 j8)
       | (go_at_call 58; refine (HJ5.out.heed _ (Keeps.refl _ _)).mono ?_; rintro r y6 ⟨rfl, T6, s6, j6⟩; rw [Jp.heed_no (.inl rfl)] at j6; have HS6 := Lib.hid s6; have HJ6 := Lib.hid j6; obtain ⟨g0, g2, g3, h2, h3, gl, _⟩ := j6.cells; clear s6 j6))
      go_ret
      exact ⟨rfl, _, (H.out.keep HK1.out).1.trans (HS5.out.trans (HS6.out.trans (HS7.out.trans HS8.out))), HJ8.out⟩
    ·have hbe : (e1 != 0) = true := by simpa using he1
     rw [if_pos he1]
     clear hz3 he1
     go_enter Try.func32, Try.ntmps32
     go_wp2_with (first
      | (go_at_call 56; refine HU.out.mono ?_; rintro r w' ⟨rfl, rfl⟩)
      | (go_at_call 57; refine HFT.out.mono ?_; rintro r w' ⟨rfl, rfl⟩)
      | (go_at_call 35; refine HFI.out.mono ?_; rintro r x1 ⟨fa, fc, rfl, hk1, hil⟩; have HK1 := Lib.hid hk1; have HIL := Lib.hid hil; clear hk1 hil)
      | (go_at_call 59; refine (frame15 (HV.out _ _ (H.out.keep HK1.out).1) HPL.out).mono ?_; rintro r y4 ⟨ga, gc, fk, rfl, hf4, hf5, hf6, hf7⟩; rw [HN.out] at hf4 ⊢; have HF4 := Lib.hid hf4; have HF5 := Lib.hid hf5; have HF6 := Lib.hid hf6; have HK4 := Lib.hid hf7; obtain ⟨d0, d2, d3, e2_, e3_, dl, _⟩ := (H.out.keep (HK1.out.then HK4.out)).2.cells; clear hf4 hf5 hf6 hf7)
      | (go_at_call 14; refine (HLAY.out HNB.out _ _ _ _ _ _ (H.out.keep HK1.out).2 HF4.out HF5.out HF6.out HK4.out).mono ?_; rintro r y5 ⟨rfl, T5, s5, j5⟩; have HS5 := Lib.hid s5; have HJ5 := Lib.hid j5; clear s5 j5)
      | (go_at_call 58; refine (HJ5.out.heed _ (Keeps.refl _ _)).mono ?_; rintro r y6 ⟨rfl, T6, s6, j6⟩; have HS6 := Lib.hid s6; have HJ6 := Lib.hid j6; obtain ⟨g0, g2, g3, h2, h3, gl, _⟩ := j6.cells; clear s6 j6))
     go_ret
     exact ⟨rfl, _, (H.out.keep HK1.out).1.trans (HS5.out.trans HS6.out), HJ6.out⟩
  ·rw [hF] at c2
   clear hF
   cases hf0 : decide (fitsN p.length F = 0)
   ·have hf : fitsN p.length F ≠ 0 := by simpa using hf0
    have hfb : (fitsN p.length F != 0) = true := by simpa using hf
    rw [if_pos hf]
    generalize fitsN p.length F = q at *
    clear h hd hv hg hok had hsd hz3 hlm hl1000 hfiles hb hf hf0
    go_enter Try.func32, Try.ntmps32
    go_wp2_with (first
     | (go_at_call 56; refine HU.out.mono ?_; rintro r w' ⟨rfl, rfl⟩)
     | (go_at_call 57; refine HFT.out.mono ?_; rintro r w' ⟨rfl, rfl⟩))
    go_ret
    exact ⟨rfl, S, JStep.refl _ _ _, H.out⟩
   ·have hf : fitsN p.length F = 0 := by simpa using hf0
    have HPL : Hid (p.length ≤ 1048576) := Lib.hid (HNF.out hf)
    have HNB : Hid (N ≤ 1000000000) := Lib.hid (by have := HNL.out; have := HPL.out; omega)
    rw [if_neg (by rw [hf]; decide)]
    rw [hf] at HFT
    clear h hd hv hg hok had hsd hlm hl1000 hfiles hb hf hf0 HNF HNL
    by_cases he1 : e1 = 0
    ·subst he1
     rw [if_neg (by decide)]
     by_cases he2 : e2 = 0
     ·subst he2
      rw [if_neg (by decide)]
      by_cases he3 : e3 = 0
      ·subst he3
       rw [if_neg (by decide)]
       obtain rfl := hz3 rfl
       go_enter Try.func32, Try.ntmps32
       go_wp2_with (first
        | (go_at_call 56; refine HU.out.mono ?_; rintro r w' ⟨rfl, rfl⟩)
        | (go_at_call 57; refine HFT.out.mono ?_; rintro r w' ⟨rfl, rfl⟩)
        | (go_at_call 35; refine HFI.out.mono ?_; rintro r x1 ⟨fa, fc, rfl, hk1, hil⟩; have HK1 := Lib.hid hk1; have HIL := Lib.hid hil; clear hk1 hil)
        | (go_at_call 59; refine (frame15 (HV.out _ _ (H.out.keep HK1.out).1) HPL.out).mono ?_; rintro r y4 ⟨ga, gc, fk, rfl, hf4, hf5, hf6, hf7⟩; rw [HN.out] at hf4 ⊢; have HF4 := Lib.hid hf4; have HF5 := Lib.hid hf5; have HF6 := Lib.hid hf6; have HK4 := Lib.hid hf7; obtain ⟨d0, d2, d3, e2_, e3_, dl, _⟩ := (H.out.keep (HK1.out.then HK4.out)).2.cells; clear hf4 hf5 hf6 hf7)
        | (go_at_call 14; refine (HLAY.out HNB.out _ _ _ _ _ _ (H.out.keep HK1.out).2 HF4.out HF5.out HF6.out HK4.out).mono ?_; rintro r y5 ⟨rfl, T5, s5, j5⟩; have HS5 := Lib.hid s5; have HJ5 := Lib.hid j5; clear s5 j5)
        | (go_at_call 17; refine (HSY.out _ _ HJ6.out).mono ?_; rintro r y7 ⟨rfl, T7, s7, j7⟩; have HS7 := Lib.hid s7; have HJ7 := Lib.hid j7; clear s7 j7)
        | (go_at_call 60; refine (HDA.out _ _ _ _ HJ8.out (HIL.out _ (Keeps.refl _ _) _ _ (HS5.out.trans (HS6.out.trans (HS7.out.trans HS8.out)))).1 (HIL.out _ (Keeps.refl _ _) _ _ (HS5.out.trans (HS6.out.trans (HS7.out.trans HS8.out)))).2).mono ?_; rintro r y9 ⟨rfl, T9, s9, j9⟩; have HS9 := Lib.hid s9; obtain ⟨q0, q2, q3, r2, r3, ql, _⟩ := j9.cells; have HJ9 := Lib.hid j9; clear s9 j9)
        | (go_at_call 58; refine (HJ7.out.heed _ (Keeps.refl _ _)).mono ?_; rintro r y8 ⟨rfl, T8, s8, j8⟩; rw [Jp.heed_no (.inl rfl)] at j8; have HS8 := Lib.hid s8; have HJ8 := Lib.hid j8; obtain ⟨k0, k2, k3, l2, l3, kl, _⟩ := j8.cells; clear s8 j8)
        | (go_at_call 58; refine (HJ5.out.heed _ (Keeps.refl _ _)).mono ?_; rintro r y6 ⟨rfl, T6, s6, j6⟩; rw [Jp.heed_no (.inl rfl)] at j6; have HS6 := Lib.hid s6; have HJ6 := Lib.hid j6; obtain ⟨g0, g2, g3, h2, h3, gl, _⟩ := j6.cells; clear s6 j6))
       go_ret
       exact ⟨rfl, _, (H.out.keep HK1.out).1.trans (HS5.out.trans (HS6.out.trans (HS7.out.trans (HS8.out.trans (HS9.out.trans (HJ9.out.fileset _ _).1))))), (HJ9.out.fileset _ _).2⟩
      ·have hbe : (e3 != 0) = true := by simpa using he3
       rw [if_pos he3]
       clear hz3 he3
       go_enter Try.func32, Try.ntmps32
       go_wp2_with (first
        | (go_at_call 56; refine HU.out.mono ?_; rintro r w' ⟨rfl, rfl⟩)
        | (go_at_call 57; refine HFT.out.mono ?_; rintro r w' ⟨rfl, rfl⟩)
        | (go_at_call 35; refine HFI.out.mono ?_; rintro r x1 ⟨fa, fc, rfl, hk1, hil⟩; have HK1 := Lib.hid hk1; have HIL := Lib.hid hil; clear hk1 hil)
        | (go_at_call 59; refine (frame15 (HV.out _ _ (H.out.keep HK1.out).1) HPL.out).mono ?_; rintro r y4 ⟨ga, gc, fk, rfl, hf4, hf5, hf6, hf7⟩; rw [HN.out] at hf4 ⊢; have HF4 := Lib.hid hf4; have HF5 := Lib.hid hf5; have HF6 := Lib.hid hf6; have HK4 := Lib.hid hf7; obtain ⟨d0, d2, d3, e2_, e3_, dl, _⟩ := (H.out.keep (HK1.out.then HK4.out)).2.cells; clear hf4 hf5 hf6 hf7)
        | (go_at_call 14; refine (HLAY.out HNB.out _ _ _ _ _ _ (H.out.keep HK1.out).2 HF4.out HF5.out HF6.out HK4.out).mono ?_; rintro r y5 ⟨rfl, T5, s5, j5⟩; have HS5 := Lib.hid s5; have HJ5 := Lib.hid j5; clear s5 j5)
        | (go_at_call 17; refine (HSY.out _ _ HJ6.out).mono ?_; rintro r y7 ⟨rfl, T7, s7, j7⟩; have HS7 := Lib.hid s7; have HJ7 := Lib.hid j7; clear s7 j7)
        | (go_at_call 60; refine (HDA.out _ _ _ _ HJ8.out (HIL.out _ (Keeps.refl _ _) _ _ (HS5.out.trans (HS6.out.trans (HS7.out.trans HS8.out)))).1 (HIL.out _ (Keeps.refl _ _) _ _ (HS5.out.trans (HS6.out.trans (HS7.out.trans HS8.out)))).2).mono ?_; rintro r y9 ⟨rfl, T9, s9, j9⟩; have HS9 := Lib.hid s9; have HJ9 := Lib.hid j9; clear s9 j9)
        | (go_at_call 58; refine (HJ7.out.heed _ (Keeps.refl _ _)).mono ?_; rintro r y8 ⟨rfl, T8, s8, j8⟩; rw [Jp.heed_no (.inl rfl)] at j8; have HS8 := Lib.hid s8; have HJ8 := Lib.hid j8; obtain ⟨k0, k2, k3, l2, l3, kl, _⟩ := j8.cells; clear s8 j8)
        | (go_at_call 58; refine (HJ5.out.heed _ (Keeps.refl _ _)).mono ?_; rintro r y6 ⟨rfl, T6, s6, j6⟩; rw [Jp.heed_no (.inl rfl)] at j6; have HS6 := Lib.hid s6; have HJ6 := Lib.hid j6; obtain ⟨g0, g2, g3, h2, h3, gl, _⟩ := j6.cells; clear s6 j6))
       go_ret
       exact ⟨rfl, _, (H.out.keep HK1.out).1.trans (HS5.out.trans (HS6.out.trans (HS7.out.trans (HS8.out.trans HS9.out)))), HJ9.out⟩
     ·have hbe : (e2 != 0) = true := by simpa using he2
      rw [if_pos he2]
      clear hz3 he2
      go_enter Try.func32, Try.ntmps32
      go_wp2_with (first
       | (go_at_call 56; refine HU.out.mono ?_; rintro r w' ⟨rfl, rfl⟩)
       | (go_at_call 57; refine HFT.out.mono ?_; rintro r w' ⟨rfl, rfl⟩)
       | (go_at_call 35; refine HFI.out.mono ?_; rintro r x1 ⟨fa, fc, rfl, hk1, hil⟩; have HK1 := Lib.hid hk1; have HIL := Lib.hid hil; clear hk1 hil)
       | (go_at_call 59; refine (frame15 (HV.out _ _ (H.out.keep HK1.out).1) HPL.out).mono ?_; rintro r y4 ⟨ga, gc, fk, rfl, hf4, hf5, hf6, hf7⟩; rw [HN.out] at hf4 ⊢; have HF4 := Lib.hid hf4; have HF5 := Lib.hid hf5; have HF6 := Lib.hid hf6; have HK4 := Lib.hid hf7; obtain ⟨d0, d2, d3, e2_, e3_, dl, _⟩ := (H.out.keep (HK1.out.then HK4.out)).2.cells; clear hf4 hf5 hf6 hf7)
       | (go_at_call 14; refine (HLAY.out HNB.out _ _ _ _ _ _ (H.out.keep HK1.out).2 HF4.out HF5.out HF6.out HK4.out).mono ?_; rintro r y5 ⟨rfl, T5, s5, j5⟩; have HS5 := Lib.hid s5; have HJ5 := Lib.hid j5; clear s5 j5)
       | (go_at_call 17; refine (HSY.out _ _ HJ6.out).mono ?_; rintro r y7 ⟨rfl, T7, s7, j7⟩; have HS7 := Lib.hid s7; have HJ7 := Lib.hid j7; clear s7 j7)
       | (go_at_call 58; refine (HJ7.out.heed _ (Keeps.refl _ _)).mono ?_; rintro r y8 ⟨rfl, T8, s8, j8⟩; have HS8 := Lib.hid s8; have HJ8 := Lib.hid j8; obtain ⟨k0, k2, k3, l2, l3, kl, _⟩ := j8.cells; clear s8 j8)
       | (go_at_call 58; refine (HJ5.out.heed _ (Keeps.refl _ _)).mono ?_; rintro r y6 ⟨rfl, T6, s6, j6⟩; rw [Jp.heed_no (.inl rfl)] at j6; have HS6 := Lib.hid s6; have HJ6 := Lib.hid j6; obtain ⟨g0, g2, g3, h2, h3, gl, _⟩ := j6.cells; clear s6 j6))
      go_ret
      exact ⟨rfl, _, (H.out.keep HK1.out).1.trans (HS5.out.trans (HS6.out.trans (HS7.out.trans HS8.out))), HJ8.out⟩
    ·have hbe : (e1 != 0) = true := by simpa using he1
     rw [if_pos he1]
     clear hz3 he1
     go_enter Try.func32, Try.ntmps32
     go_wp2_with (first
      | (go_at_call 56; refine HU.out.mono ?_; rintro r w' ⟨rfl, rfl⟩)
      | (go_at_call 57; refine HFT.out.mono ?_; rintro r w' ⟨rfl, rfl⟩)
      | (go_at_call 35; refine HFI.out.mono ?_; rintro r x1 ⟨fa, fc, rfl, hk1, hil⟩; have HK1 := Lib.hid hk1; have HIL := Lib.hid hil; clear hk1 hil)
      | (go_at_call 59; refine (frame15 (HV.out _ _ (H.out.keep HK1.out).1) HPL.out).mono ?_; rintro r y4 ⟨ga, gc, fk, rfl, hf4, hf5, hf6, hf7⟩; rw [HN.out] at hf4 ⊢; have HF4 := Lib.hid hf4; have HF5 := Lib.hid hf5; have HF6 := Lib.hid hf6; have HK4 := Lib.hid hf7; obtain ⟨d0, d2, d3, e2_, e3_, dl, _⟩ := (H.out.keep (HK1.out.then HK4.out)).2.cells; clear hf4 hf5 hf6 hf7)
      | (go_at_call 14; refine (HLAY.out HNB.out _ _ _ _ _ _ (H.out.keep HK1.out).2 HF4.out HF5.out HF6.out HK4.out).mono ?_; rintro r y5 ⟨rfl, T5, s5, j5⟩; have HS5 := Lib.hid s5; have HJ5 := Lib.hid j5; clear s5 j5)
      | (go_at_call 58; refine (HJ5.out.heed _ (Keeps.refl _ _)).mono ?_; rintro r y6 ⟨rfl, T6, s6, j6⟩; have HS6 := Lib.hid s6; have HJ6 := Lib.hid j6; obtain ⟨g0, g2, g3, h2, h3, gl, _⟩ := j6.cells; clear s6 j6))
     go_ret
     exact ⟨rfl, _, (H.out.keep HK1.out).1.trans (HS5.out.trans HS6.out), HJ6.out⟩
 ·rw [hb] at HU
  have e : rewriteJ D J p = (150, D, J) := by unfold rewriteJ; rw [if_pos hb]
  rw [e]
  clear e hb h hd hv hg
  go_enter Try.func32, Try.ntmps32
  go_wp2_with (go_at_call 56; refine HU.out.mono ?_; rintro r w' ⟨rfl, rfl⟩)
  go_ret
  exact ⟨rfl, S, JStep.refl _ _ _, H.out⟩
end

theorem num15_any (e : Int) (w : World) : Calls Try.prog 27 #[.int .i64 e] w fun r w' => r = .returned (.int .i64 e) ∧ w = w' := by
 go_enter Try.func27, Try.ntmps27
 go_wp2
 go_ret
 exact ⟨rfl, rfl⟩
theorem take_eq15 {L M : List (List UInt8)} {k : Nat} {l m : List UInt8} (h : L.take k = M.take k) (hl : L[k]? = some l) (hm : M[k]? = some m) : L.take (k + 1) = M.take (k + 1) ↔ l = m := by
 rw [List.take_add_one, List.take_add_one, h, hl, hm]
 simp
theorem at_ne15 {L M : List (List UInt8)} {k : Nat} {l m : List UInt8} (hl : L[k]? = some l) (hm : M[k]? = some m) (h : l ≠ m) : L ≠ M := by
 rintro rfl
 rw [hl] at hm
 exact h (Option.some.inj hm)
theorem lists15_any (w : World) (T T' : Nat → Prop) (v v' : Value) (L M : List (List UInt8)) (h : Bl w T v L) (h' : Bl w T' v' M) (hlen : L.length ≤ 10000000) : Calls Try.prog 33 #[v, v'] w fun r w' => r = .returned (.bool (decide (L = M))) ∧ Below w.heap.size w w' := by
 obtain ⟨a, c, rfl⟩ := h.form
 obtain ⟨a', c', rfl⟩ := h'.form
 by_cases hl : L.length = M.length
 ·have HB := Lib.hid h
  have HB' := Lib.hid h'
  have HL := Lib.hid hl
  rw [← hl]
  obtain ⟨q, hq⟩ : ∃ q, q = decide (L = M) := ⟨_, rfl⟩
  rw [← hq]
  have HQ := Lib.hid hq
  clear hq
  clear h h' hl
  go_enter Try.func33, Try.ntmps33
  go_wp2
  go_loopw [5] (fun i wr => ∃ k : Nat, k ≤ L.length ∧ i = .int .i64 k ∧ L.take k = M.take k ∧ Keeps (fun _ => False) w wr) (fun i _ => L.length - (RowKit.intOf i).toNat)
  case atStart => exact ⟨0, Nat.zero_le _, rfl, rfl, Keeps.refl _ _⟩
  case round =>
   obtain ⟨k, hk, rfl, htk, hkp⟩ := hrel
   have HTK := Lib.hid htk
   have HKP := Lib.hid hkp
   clear htk
   by_cases hlt : k < L.length
   ·obtain ⟨l, hl⟩ := get_lt hlt
    obtain ⟨m, hm⟩ := get_lt (l := M) (j := k) (by have := HL.out; omega)
    have HB1 := HB.out.keep hkp (fun _ _ h => h)
    have HB2 := HB'.out.keep hkp (fun _ _ h => h)
    rw [← HL.out] at HB2
    obtain ⟨g, o, xa, xc, gx, rfl, _, hg, hc, hx, _⟩ := HB1.at hl
    obtain ⟨g', o', xa', xc', gx', rfl, _, hg', hc', hx', _⟩ := HB2.at hm
    have hlt' : (k : Int) < (L.length : Int) := by omega
    have hw1 : wrap64 ((k : Int) + 1) = ((k + 1 : Nat) : Int) := by unfold wrap64; omega
    have s1 := bw_str15 (hx.keep (Keeps.drew (fun _ => False) wr) (fun _ h => h))
    have s2 := bw_str15 (hx'.keep (Keeps.drew (fun _ => False) wr) (fun _ h => h))
    have HTE := Lib.hid (take_eq15 HTK.out hl hm)
    have HNE := Lib.hid (at_ne15 hl hm)
    clear HB1 HB2 hx hx' hl hm hkp HB HB'
    by_cases he : l = m
    ·have hbe : (l == m) = true := by simpa using he
     have hbn : (l != m) = false := by simpa using he
     have HT2 := Lib.hid (HTE.out.2 he)
     clear HTE HNE he
     go_wp2
     go_region
     go_wp2
     go_roundw
     case rel => exact ⟨k + 1, hlt, by go_num, HT2.out, HKP.out.then (Keeps.drew _ _)⟩
     case measure => simp [RowKit.intOf]; omega
    ·have hbe : (l == m) = false := by simpa using he
     have hbn : (l != m) = true := by simpa using he
     have hd : Hid (q = false) := Lib.hid (by rw [HQ.out]; simpa using HNE.out he)
     clear HTE HNE he
     go_wp2
     go_region
     go_wp2
     go_ret
     exact ⟨by rw [hd.out]; rfl, (HKP.out.then (Keeps.drew _ _)).below (Nat.le_refl _) (fun _ _ h => h)⟩
   ·obtain rfl : k = L.length := by omega
    have hd : Hid (q = true) := by
     have := HTK.out
     rw [List.take_length, HL.out, List.take_length] at this
     exact Lib.hid (by rw [HQ.out]; simpa using this)
    clear hkp
    go_wp2
    go_ret
    exact ⟨by rw [hd.out]; rfl, HKP.out.below (Nat.le_refl _) (fun _ _ h => h)⟩
 ·have hd : decide (L = M) = false := by
   have : L ≠ M := by rintro rfl; exact hl rfl
   simpa using this
  rw [hd]
  have hne : ((L.length : Int) == (M.length : Int)) = false := by
   have : ¬ (L.length : Int) = (M.length : Int) := by omega
   simpa using this
  have hne2 : decide (L.length = M.length) = false := by simpa using hl
  clear h h' hd
  go_enter Try.func33, Try.ntmps33
  go_wp2
  go_ret
  exact ⟨rfl, Below.refl _ _⟩
theorem PayAt.bw {n0 : Nat} {W : World} {v : Value} {l : List UInt8} (h : PayAt n0 W v l) : ∃ g, Bw W g v l ∧ (l ≠ [] → n0 ≤ g) := by
 obtain ⟨a, c, g, _, hb, ht⟩ := h
 exact ⟨g, hb, fun hne => (ht hne).1⟩
theorem RecsP.bl {n0 : Nat} {W : World} {v : Value} {L : List (List UInt8)} (h : RecsP n0 W v L) : Bl W (fun g => n0 ≤ g) v L := by
 obtain ⟨vs, ⟨hl, ⟨hv, hn⟩ | ⟨g, cap, cur, hv, hg, hh, hc, hm, hs, ht⟩⟩, h2⟩ := h
 ·have : L = [] := List.eq_nil_of_length_eq_zero hn
  subst this
  exact ⟨none, 0, hv, fun h => absurd rfl h⟩
 ·refine ⟨_, cap, hv, fun hne => ⟨g, 0, rfl, hg, lt_of_block hh, fun i l hl' => ?_⟩⟩
  obtain ⟨u, hu, a, c, gx, rfl, hb, htt⟩ := h2 i l hl'
  refine ⟨a, c, gx, ?_, hb, fun hne => (htt hne).1⟩
  rw [blk_cellp hh, Nat.zero_add]
  rw [← ht] at hu
  rw [List.getElem?_take] at hu
  split at hu
  ·simpa using hu
  ·cases hu
section
variable {w x : World} {b jb : Nat} {S : Nat → Prop} {D : Dm} {J : Jp}
theorem JL.put (h : JL w x b jb S D J) (hok : J.Ok) (hd : D.done + 2 < 4000000) {y : World} (hy : Keeps (fun _ => False) x y) {g : Nat} {pa : Option Addr} {pc : Nat} {p : List UInt8} {n : Nat} (hn : p.length = n) (hv : Bw y g (.slice pa n pc) p) (hg : p ≠ [] → ¬ S g ∧ g ≠ jb) :
  Calls Try.prog 29 #[.pointer (some ⟨jb, 0, none⟩), .slice pa n pc] y fun e z => e = .returned (.int .i64 (appendJ D J p).1) ∧ ∃ S', JStep S jb x z S' ∧ JL w z b jb S' (appendJ D J p).2.1 (appendJ D J p).2.2 := by
 subst hn
 obtain ⟨s0, j0⟩ := h.keep hy
 refine (append15_any j0 hok hd hv hg).mono ?_
 rintro e z ⟨rfl, S', s1, j1⟩
 exact ⟨rfl, S', s0.trans s1, j1⟩
theorem JL.base (h : JL w x b jb S D J) (hok : J.Ok) (hd : D.done + 1010 < 4000000) {y : World} (hy : Keeps (fun _ => False) x y) {g : Nat} {pa : Option Addr} {pc : Nat} {p : List UInt8} {n : Nat} (hn : p.length = n) (hv : Bw y g (.slice pa n pc) p) (hg : p ≠ [] → ¬ S g ∧ g ≠ jb) :
  Calls Try.prog 32 #[.pointer (some ⟨jb, 0, none⟩), .slice pa n pc] y fun e z => e = .returned (.int .i64 (rewriteJ D J p).1) ∧ ∃ S', JStep S jb x z S' ∧ JL w z b jb S' (rewriteJ D J p).2.1 (rewriteJ D J p).2.2 := by
 subst hn
 obtain ⟨s0, j0⟩ := h.keep hy
 refine (rewrite15_any j0 hok hd hv hg).mono ?_
 rintro e z ⟨rfl, S', s1, j1⟩
 exact ⟨rfl, S', s0.trans s1, j1⟩
theorem JL.fresh (h : JL w x b jb S D J) {g : Nat} (hg : x.heap.size ≤ g) : ¬ S g ∧ g ≠ jb := ⟨fun hs => by have := h.liv.lt g hs; omega, by have := h.lt; omega⟩
end
theorem tl_nil15 (x : World) (T : Nat → Prop) : TlAt x T (.slice none 0 0) [] := ⟨(fun t h => by cases h), none, 0, rfl, fun h => absurd rfl h⟩

def jL0 : Jp := ⟨100, 1, 0, false⟩
def rL1 : Int × Dm × Jp := appendJ (newD 1000) jL0 [97]
def rL2 : Int × Dm × Jp := syncJ rL1.2.1 rL1.2.2
def rL3 : Int × Dm × Jp := appendJ rL2.2.1 rL2.2.2 [98]
def dL4_15 : Dm := crashD rL3.2.1 []
def jL4 : Jp := ⟨100, 2, 0, false⟩
def rL5 : Int × Dm × Jp := rewriteJ dL4_15 jL4 [120]
theorem rL_1 : rL1.1 = 0 := by decide +kernel
theorem rL_2 : rL2.1 = 0 := by decide +kernel
theorem rL_3 : rL3.1 = 0 := by decide +kernel
theorem rL_4 : nextN dL4_15 = 2 := by decide +kernel
theorem rL_5 : rL5.1 = 0 := by decide +kernel
theorem rL_6 : tellD dL4_15.l = ([], [[97]]) := by decide +kernel
theorem rL_7 : tellD rL5.2.1.l = ([120], []) := by decide +kernel
theorem rL_8 : rL5.2.1.l.length = 1 := by decide +kernel
theorem rL_9 : nextN rL5.2.1 = 3 := by decide +kernel
theorem rL_d : rL1.2.1.done = 1 ∧ rL2.2.1.done = 2 ∧ rL3.2.1.done = 3 ∧ dL4_15.done = 3 ∧ rL5.2.1.done = 6 := by decide +kernel
theorem rL_o : rL3.2.1.off = false ∧ dL4_15.off = false ∧ rL5.2.1.off = false := by decide +kernel
theorem rL_j : rL2.2.2 = ⟨100, 1, 14, false⟩ := by decide +kernel
theorem bytes_one15 (w : World) (x : UInt8) (p : Nat × Nat) : Bs (w.alloc (.cells #[.int .u8 x.toNat] 5 p)) w.heap.size (.slice (some ⟨w.heap.size, 0, none⟩) 1 1) [x] := bs_const w [x] _ rfl p _ rfl 1 rfl (by simp [maxLen]) _ rfl
theorem live15_any (w : World) : Calls Try.prog 26 #[] w fun e w' => e = .returned (.bool true) ∧ Below w.heap.size w w' := by
 have kc := fun (w : World) (C : Array Value) (n c : Nat) => Lib.run_convert_bytes_const (P := Try.prog) w 39 5 C n c Try.underlying39 Try.underlying5
 go_enter Try.func26, Try.ntmps26
 go_wp2_with (first
  | (go_at_call 27; refine (num15_any _ _).mono ?_; rintro e w' ⟨rfl, rfl⟩)
  | (go_at_call 10; refine (new_good 1000 (by decide) (by decide) _).mono ?_; intro e w1 hn; obtain ⟨b, rfl, hb0, hk1, hp1⟩ := Liv.new (Below.refl w.heap.size w) hn; have HL := Lib.hid hp1; clear hb0 hk1 hp1 hn)
  | fail)
 refine (open_ok HL.out rfl 100 (by decide) (by decide) (by decide)).mono ?_
 rintro e w2 ⟨jb, vb, vr, rfl, _, _, _, _, hj⟩
 obtain ⟨S2, hj2⟩ : ∃ S2, JL w w2 b jb S2 (newD 1000) jL0 := ⟨_, hj⟩
 have HJ := Lib.hid hj2
 clear hj hj2 HL
 go_wp2_with (first | (go_at_call 27; refine (num15_any _ _).mono ?_; rintro e w' ⟨rfl, rfl⟩) | fail)
 have hp := HJ.out.put (D := newD 1000) (J := jL0) ⟨by decide, by decide, by decide, by decide⟩ (by decide) (Keeps.alloc _ _ _) (n := 1) rfl (bytes_one15 w2 97 (1, 2)).bw (fun _ => HJ.out.fresh (Nat.le_refl _))
 rw [show appendJ (newD 1000) jL0 [97] = rL1 from rfl, rL_1] at hp
 refine hp.mono ?_
 rintro e w3 ⟨rfl, S3, _, hj3⟩
 replace HJ := Lib.hid hj3
 clear hp hj3
 go_wp2_with (first | (go_at_call 27; refine (num15_any _ _).mono ?_; rintro e w' ⟨rfl, rfl⟩) | fail)
 have hp := sync15_any HJ.out (by rw [rL_d.1]; decide)
 rw [show syncJ rL1.2.1 rL1.2.2 = rL2 from rfl] at hp
 refine hp.mono ?_
 rintro e w4 ⟨he, S4_, _, hj4⟩
 rw [rL_2] at he
 subst he
 replace HJ := Lib.hid hj4
 clear hp hj4
 go_wp2_with (first | (go_at_call 27; refine (num15_any _ _).mono ?_; rintro e w' ⟨rfl, rfl⟩) | fail)
 have hp := HJ.out.put (by rw [rL_j]; exact ⟨by decide, by decide, by decide, by decide⟩) (by rw [rL_d.2.1]; decide) (Keeps.alloc _ _ _) (n := 1) rfl (bytes_one15 w4 98 (1, 2)).bw (fun _ => HJ.out.fresh (Nat.le_refl _))
 rw [show appendJ rL2.2.1 rL2.2.2 [98] = rL3 from rfl, rL_3] at hp
 refine hp.mono ?_
 rintro e w5 ⟨rfl, S5_, _, hj5⟩
 replace HJ := Lib.hid hj5
 clear hp hj5
 go_wp2_with (first | (go_at_call 27; refine (num15_any _ _).mono ?_; rintro e w' ⟨rfl, rfl⟩) | fail)
 refine (HJ.out.liv.crashes (tl_nil15 _ (fun _ => False)) (fun k h => h.elim) (by decide)).mono ?_
 rintro e w6 ⟨rfl, _, hl6⟩
 rw [show crashD rL3.2.1 [] = dL4_15 from rfl] at hl6
 have HL := Lib.hid hl6
 clear hl6 HJ
 go_wp2_with fail
 refine (open_ok HL.out rL_o.2.1 100 (by decide) (by decide) (by rw [rL_4]; decide)).mono ?_
 rintro e w7 ⟨jb2, vb2, vr2, rfl, hb, hr, _, _, hj⟩
 rw [rL_6] at hb hr
 rw [rL_4] at hj
 obtain ⟨S7, hj7⟩ : ∃ S7, JL w w7 b jb2 S7 dL4_15 jL4 := ⟨_, hj⟩
 have HJ := Lib.hid hj7
 obtain ⟨ba, bc, bg, rfl, _⟩ := hb
 have hbl := hr.bl
 obtain ⟨ra, rc, rfl⟩ := hbl.form
 have HBL := Lib.hid hbl
 clear hj hj7 HL hr hbl
 go_wp2_with (first | (go_at_call 27; refine (num15_any _ _).mono ?_; rintro e w' ⟨rfl, rfl⟩) | fail)
 obtain ⟨hk7, hb7⟩ := lists_one w7 [97] #[.int .u8 97] rfl (by simp [maxLen]) (1, 2) _ rfl
 have hq := lists15_any _ _ _ _ _ _ _ (HBL.out.keep hk7 (fun _ _ h => h)) hb7 (by decide)
 rw [show decide ((([], [[97]]) : List UInt8 × List (List UInt8)).2 = [[97]]) = true from by decide] at hq
 refine hq.mono ?_
 rintro e w8 ⟨rfl, hb8⟩
 have HJ8 := Lib.hid (HJ.out.keep (hk7.then (.ofBelow hb8))).2
 clear hq hk7 hb7 hb8 HBL HJ
 go_wp2_with (first | (go_at_call 34; refine (file_any HJ8.out.j).mono ?_; rw [show jL4.file = 2 from rfl]; rintro r w' ⟨rfl, rfl⟩) | fail)
 have hp := HJ8.out.base (J := jL4) ⟨by decide, by decide, by decide, by decide⟩ (by rw [rL_d.2.2.2.1]; decide) (Keeps.alloc _ _ _) (n := 1) rfl (bytes_one15 _ 120 (1, 2)).bw (fun _ => HJ8.out.fresh (Nat.le_refl _))
 rw [show rewriteJ dL4_15 jL4 [120] = rL5 from rfl, rL_5] at hp
 refine hp.mono ?_
 rintro e w9 ⟨rfl, S9, _, hj9⟩
 have HJ := Lib.hid hj9
 clear hp hj9 HJ8
 go_wp2_with (first | (go_at_call 27; refine (num15_any _ _).mono ?_; rintro e w' ⟨rfl, rfl⟩) | fail)
 refine (open_ok HJ.out.liv rL_o.2.2 100 (by decide) (by decide) (by rw [rL_9]; decide)).mono ?_
 rintro e w10 ⟨jb3, vb3, vr3, rfl, hb, hr, _, _, hj⟩
 rw [rL_7] at hb hr
 have HJ := Lib.hid hj
 obtain ⟨bg, hbw, _⟩ := hb.bw
 obtain ⟨ca, cc, rfl⟩ := bw_form15 hbw
 have hstr : (convert 39 9 (.slice ca 1 cc)).run Try.prog w10 = .ok (.string { data := #[120] }) w10 := bw_str15 hbw
 obtain ⟨da, dc, rfl⟩ := hr.form
 have HFI := Lib.hid HJ.out.liv.files
 have hlen : (rL5.2.1.l.map Fil.n).length = 1 := by rw [List.length_map, rL_8]
 have HLEN := Lib.hid hlen
 clear hb hr hj hbw hlen
 go_wp2_with (first
  | (go_at_call 27; refine (num15_any _ _).mono ?_; rintro e w' ⟨rfl, rfl⟩)
  | (go_at_call 28; refine (open_arg b 0 (.inl (by decide)) _).mono ?_; rintro e w' ⟨rfl, rfl⟩)
  | (go_at_call 35; refine HFI.out.mono ?_; rintro e w11 ⟨v, rfl, ho, hbe⟩; obtain ⟨ea, ec, rfl⟩ := ho.form; rw [HLEN.out]; have HBE := Lib.hid hbe; clear ho hbe))
 go_ret
 exact ⟨rfl, HJ.out.liv.bel.trans (HBE.out.mono HJ.out.liv.bel.size)⟩

theorem getF_gt {l : List Fil} {n : Int} (h : ∀ f ∈ l, f.n < n) : getF l n = none := getF_none.2 fun f hf => by have := h f hf; omega
theorem getF_last {l : List Fil} {c : Fil} (h : ∀ f ∈ l, f.n < c.n) : getF (l ++ [c]) c.n = some c := by
 induction l with
 | nil => simp [getF]
 | cons x l ih =>
  rw [List.cons_append, getF_cons, if_neg (by have := h x List.mem_cons_self; omega)]
  exact ih fun f hf => h f (List.mem_cons_of_mem _ hf)
theorem putF_gt {l : List Fil} {c : Fil} (h : ∀ f ∈ l, f.n < c.n) : putF l c = l ++ [c] := by
 induction l with
 | nil => rfl
 | cons x l ih =>
  have hx := h x List.mem_cons_self
  unfold putF
  rw [if_neg (by omega), if_neg (by omega), ih fun f hf => h f (List.mem_cons_of_mem _ hf)]
  rfl
theorem putF_last {l : List Fil} {c d : Fil} (h : ∀ f ∈ l, f.n < c.n) (e : d.n = c.n) : putF (l ++ [c]) d = l ++ [d] := by
 induction l with
 | nil => simp [putF, e]
 | cons x l ih =>
  have hx := h x List.mem_cons_self
  rw [List.cons_append]
  unfold putF
  rw [if_neg (by omega), if_neg (by omega), ih fun f hf => h f (List.mem_cons_of_mem _ hf)]
  rfl
theorem sumF_app (a b : List Fil) : sumF (a ++ b) = sumF a + sumF b := by
 induction a with
 | nil => simp [sumF]
 | cons x a ih => simp only [List.cons_append, sumF, ih]; omega
def tellA (acc : List UInt8 × List (List UInt8)) (l : List Fil) : List UInt8 × List (List UInt8) := l.foldl (fun a f => tellF a (frs f.b)) acc
theorem tellA_app (acc : List UInt8 × List (List UInt8)) (a b : List Fil) : tellA acc (a ++ b) = tellA (tellA acc a) b := List.foldl_append
theorem tellD_app (a b : List Fil) : tellD (a ++ b) = tellA (tellD a) b := tellA_app _ a b
theorem tellA_one (acc : List UInt8 × List (List UInt8)) (f : Fil) : tellA acc [f] = tellF acc (frs f.b) := rfl
def oL (o : Option (List UInt8)) : List (Bool × List UInt8) := match o with | some x => [(true, x)] | none => []
def addR (acc : List UInt8 × List (List UInt8)) (o : Option (List UInt8)) (rs : List (List UInt8)) : List UInt8 × List (List UInt8) := match o with | some x => (x, rs) | none => (acc.1, acc.2 ++ rs)
theorem tell_add (acc : List UInt8 × List (List UInt8)) (o : Option (List UInt8)) (rs : List (List UInt8)) : tellF acc (oL o ++ rs.map fun p => (false, p)) = addR acc o rs := by
 rw [tellF_app, tellF_recs]
 cases o with
 | none => rfl
 | some x => simp [oL, tellF, addR]
def FitsO (o : Option (List UInt8)) : Prop := ∀ x, o = some x → x.length ≤ 1048576
theorem frs_add {o : Option (List UInt8)} {rs : List (List UInt8)} {t : List UInt8} (ho : FitsO o) (hf : Fits rs) (ht : nextF t = none) (acc : List UInt8 × List (List UInt8)) : tellF acc (frs (fileB o rs ++ t)) = addR acc o rs := by
 rw [frs_file ho hf ht, ← tell_add]
 cases o <;> rfl
theorem frs_add0 {o : Option (List UInt8)} {rs : List (List UInt8)} (ho : FitsO o) (hf : Fits rs) (acc : List UInt8 × List (List UInt8)) : tellF acc (frs (fileB o rs)) = addR acc o rs := by
 have := frs_add ho hf next_nil acc
 rwa [List.append_nil] at this
theorem fileB_more (o : Option (List UInt8)) (rs : List (List UInt8)) (p : List UInt8) : fileB o (rs ++ [p]) = fileB o rs ++ fr false p := by
 unfold fileB
 rw [List.flatMap_append, List.append_assoc]
 simp
theorem fileB_le (o : Option (List UInt8)) (rs : List (List UInt8)) (j : Nat) : (fileB o (rs.take j)).length ≤ (fileB o rs).length := by
 unfold fileB
 rw [List.length_append, List.length_append]
 have : rs.flatMap (fr false) = (rs.take j).flatMap (fr false) ++ (rs.drop j).flatMap (fr false) := by rw [← List.flatMap_append, List.take_append_drop]
 rw [this, List.length_append]
 omega
theorem file_cut {o : Option (List UInt8)} {rs : List (List UInt8)} (ho : FitsO o) (hf : Fits rs) {j m : Nat} (hj : j ≤ rs.length) (hm : (fileB o (rs.take j)).length ≤ m) : ∃ k, j ≤ k ∧ k ≤ rs.length ∧ ∀ acc, tellF acc (frs ((fileB o rs).take m)) = addR acc o (rs.take k) := by
 have e : ∀ rs', fileB o rs' = fileB o [] ++ rs'.flatMap (fr false) := fun rs' => by unfold fileB; simp
 rw [e, List.length_append] at hm
 obtain ⟨k, t, h1, h2, h3, h4⟩ := recs_cut hf (m - (fileB o []).length)
 refine ⟨k, h4 j hj (by omega), h1, fun acc => ?_⟩
 have e2 : (fileB o rs).take m = fileB o (rs.take k) ++ t := by
  rw [e rs, List.take_append, List.take_of_length_le (by omega), h2, e (rs.take k), List.append_assoc]
 rw [e2]
 exact frs_add ho (fun r hr => hf r (List.mem_of_mem_take hr)) h3 acc
theorem turnB_zero (l : List UInt8) : turnB l 0 = l := by
 unfold turnB
 cases h : l.getLast? with
 | none => exact (List.getLast?_eq_none_iff.1 h).symm
 | some x =>
  have hne : l ≠ [] := by rintro rfl; simp at h
  rw [List.getLast?_eq_some_getLast hne] at h
  have : x = l.getLast hne := (Option.some.inj h).symm
  subst this
  simp [List.dropLast_concat_getLast]
theorem cutF_zero (f : Fil) (t : Tl) (ht : t.turn = 0) : cutF f t = ⟨f.n, f.b.take (f.s + keepF f t), f.s + keepF f t⟩ := by
 unfold cutF
 split
 ·rw [ht, turnB_zero]
 ·next h =>
  have : keepF f t = 0 := by omega
  rw [this]; rfl
theorem cutF_closed (f : Fil) (t : Tl) (hs : f.s = f.b.length) (ht : t.turn = 0) : cutF f t = f := by
 have hk : keepF f t = 0 := by unfold keepF; omega
 rw [cutF_zero f t ht, hk, Nat.add_zero, hs, List.take_length, ← hs]
def Flat0 (T : List Tl) : Prop := ∀ t ∈ T, t.turn = 0
theorem tailF_zero {T : List Tl} (h : Flat0 T) (n : Int) : (tailF T n).turn = 0 := by
 unfold tailF
 cases e : T.find? (fun t => t.file == n) with
 | none => rfl
 | some t => exact h t (List.mem_of_find?_eq_some e)
def cutL (T : List Tl) (l : List Fil) : List Fil := l.map fun f => cutF f (tailF T f.n)
theorem crashD_l (D : Dm) (T : List Tl) : (crashD D T).l = cutL T D.l := rfl
theorem cutL_app (T : List Tl) (a b : List Fil) : cutL T (a ++ b) = cutL T a ++ cutL T b := List.map_append
theorem cutL_closed {T : List Tl} (h : Flat0 T) {l : List Fil} (hl : ∀ f ∈ l, f.s = f.b.length) : cutL T l = l := by
 unfold cutL
 conv => rhs; rw [← List.map_id l]
 exact List.map_congr_left fun f hf => cutF_closed f _ (hl f hf) (tailF_zero h _)
theorem crash_closed (D : Dm) (T : List Tl) (hs : ∀ f ∈ D.l, f.s ≤ f.b.length) : ∀ f ∈ (crashD D T).l, f.s = f.b.length := by
 intro f hf
 rw [crashD_l] at hf
 obtain ⟨g, hg, rfl⟩ := List.mem_map.1 hf
 rw [cutF_len _ _ (hs g hg)]
 rfl
theorem crash_sum (D : Dm) (T : List Tl) (hs : ∀ f ∈ D.l, f.s ≤ f.b.length) : sumF (crashD D T).l ≤ sumF D.l := by
 rw [crashD_l]
 generalize D.l = l at *
 induction l with
 | nil => exact Nat.le_refl _
 | cons x l ih =>
  show (cutF x _).b.length + sumF (cutL T l) ≤ _
  have h1 := keepF_le x (tailF T x.n) (hs x List.mem_cons_self)
  rw [cutF_len _ _ (hs x List.mem_cons_self)]
  have h2 := ih fun f hf => hs f (List.mem_cons_of_mem _ hf)
  simp only [sumF]
  omega
def CrashOK (l : List Fil) (base : List UInt8) (all : List (List UInt8)) (safe : Nat) (alt : Option (List UInt8)) : Prop :=
 ∀ T, Flat0 T → (∃ k, safe ≤ k ∧ k ≤ all.length ∧ tellD (cutL T l) = (base, all.take k)) ∨ ∃ x, alt = some x ∧ tellD (cutL T l) = (x, [])
structure Idle (D : Dm) (J : Jp) (base : List UInt8) (all : List (List UInt8)) (safe : Nat) : Prop where
 off : D.off = false
 brk : J.brk = false
 add : J.added = 0
 cl : ∀ f ∈ D.l, f.s = f.b.length ∧ f.n < J.file
 tell : tellD D.l = (base, all)
 safe : safe ≤ all.length
structure Busy (D : Dm) (J : Jp) (base : List UInt8) (all : List (List UInt8)) (safe : Nat) (cl : List Fil) (o : Option (List UInt8)) (rs : List (List UInt8)) (j : Nat) : Prop where
 off : D.off = false
 brk : J.brk = false
 pos : 0 < J.added
 add : J.added = (fileB o rs).length
 ll : D.l = cl ++ [⟨J.file, fileB o rs, (fileB o (rs.take j)).length⟩]
 ccl : ∀ f ∈ cl, f.s = f.b.length ∧ f.n < J.file
 fo : FitsO o
 fr : Fits rs
 jr : j ≤ rs.length
 tell : addR (tellD cl) o rs = (base, all)
 safe : safe + (rs.length - j) ≤ all.length
def Hl (D : Dm) (J : Jp) (base : List UInt8) (all : List (List UInt8)) (safe : Nat) : Prop := Idle D J base all safe ∨ ∃ cl o rs j, Busy D J base all safe cl o rs j
theorem Idle.crash {D : Dm} {J : Jp} {base : List UInt8} {all : List (List UInt8)} {safe : Nat} (h : Idle D J base all safe) (alt : Option (List UInt8)) : CrashOK D.l base all safe alt := by
 intro T hT
 refine .inl ⟨all.length, h.safe, Nat.le_refl _, ?_⟩
 rw [cutL_closed hT fun f hf => (h.cl f hf).1, h.tell, List.take_length]
theorem Busy.crashes {D : Dm} {J : Jp} {base : List UInt8} {all : List (List UInt8)} {safe : Nat} {cl : List Fil} {o : Option (List UInt8)} {rs : List (List UInt8)} {j : Nat} (h : Busy D J base all safe cl o rs j) {T : List Tl} (hT : Flat0 T) :
  ∃ k, safe ≤ k ∧ k ≤ all.length ∧ tellD (cutL T D.l) = (base, all.take k) := by
 have hs := fileB_le o rs j
 rw [h.ll, cutL_app, cutL_closed hT fun f hf => (h.ccl f hf).1, tellD_app]
 obtain ⟨k, k1, k2, k3⟩ := file_cut h.fo h.fr h.jr (m := (fileB o (rs.take j)).length + keepF ⟨J.file, fileB o rs, (fileB o (rs.take j)).length⟩ (tailF T J.file)) (by omega)
 have e : cutL T [⟨J.file, fileB o rs, (fileB o (rs.take j)).length⟩] = [⟨J.file, (fileB o rs).take ((fileB o (rs.take j)).length + keepF ⟨J.file, fileB o rs, (fileB o (rs.take j)).length⟩ (tailF T J.file)), (fileB o (rs.take j)).length + keepF ⟨J.file, fileB o rs, (fileB o (rs.take j)).length⟩ (tailF T J.file)⟩] := by
  show [cutF _ _] = _
  rw [cutF_zero _ _ (tailF_zero hT _)]
 rw [e, tellA_one, k3]
 have ht := h.tell
 have hsf := h.safe
 cases o with
 | some x =>
  simp only [addR, Prod.mk.injEq] at ht ⊢
  obtain ⟨rfl, rfl⟩ := ht
  exact ⟨k, by omega, k2, rfl, rfl⟩
 | none =>
  simp only [addR, Prod.mk.injEq] at ht ⊢
  obtain ⟨rfl, rfl⟩ := ht
  rw [List.length_append] at hsf
  refine ⟨(tellD cl).2.length + k, by omega, by rw [List.length_append]; omega, rfl, ?_⟩
  rw [List.take_append, List.take_of_length_le (l := (tellD cl).2) (by omega), Nat.add_sub_cancel_left]
theorem Hl.crash {D : Dm} {J : Jp} {base : List UInt8} {all : List (List UInt8)} {safe : Nat} (h : Hl D J base all safe) (alt : Option (List UInt8)) : CrashOK D.l base all safe alt := by
 rcases h with h | ⟨cl, o, rs, j, h⟩
 ·exact h.crash alt
 ·exact fun T hT => .inl (h.crashes hT)
structure Same (D E : Dm) : Prop where
 room : E.room = D.room
 off : E.off = false
 left : D.left < 0 → E.left < 0
theorem left_next {D : Dm} (h : D.left ≠ 0) : D.left < 0 → (if 0 < D.left then D.left - 1 else D.left) < 0 := fun hl => by rw [if_neg (by omega)]; exact hl
theorem append_out {D : Dm} {n : Int} {bs : List UInt8} (hn : 1 ≤ n ∧ n ≤ 1000) (ho : D.off = false) (hr : (sumF D.l : Int) + bs.length ≤ D.room) :
  (0 ≤ D.left ∧ appendD D n bs = (140, { D with off := true })) ∨ ∃ E, appendD D n bs = (0, E) ∧ E.l = putF D.l (addF D.l n bs) ∧ Same D E := by
 have hg : goodN n = true := by unfold goodN; simp; omega
 unfold appendD opD
 rw [if_neg (by rw [hg]; decide)]
 by_cases hl : D.left = 0
 ·left
  rw [if_pos (.inr hl)]
  exact ⟨by omega, rfl⟩
 ·right
  rw [if_neg (by rw [ho]; simp [hl])]
  unfold appendK
  rw [if_neg (by show ¬ (D.room - (sumF D.l : Int) < _); omega)]
  exact ⟨_, rfl, rfl, rfl, ho, left_next hl⟩
theorem sync_out {D : Dm} {n : Int} {f : Fil} (hn : 1 ≤ n ∧ n ≤ 1000) (ho : D.off = false) (hf : getF D.l n = some f) :
  (0 ≤ D.left ∧ syncD D n = (140, { D with off := true })) ∨ ∃ E, syncD D n = (0, E) ∧ E.l = putF D.l ⟨n, f.b, f.b.length⟩ ∧ Same D E := by
 have hg : goodN n = true := by unfold goodN; simp; omega
 unfold syncD opD
 rw [if_neg (by rw [hg]; decide)]
 by_cases hl : D.left = 0
 ·left
  rw [if_pos (.inr hl)]
  exact ⟨by omega, rfl⟩
 ·right
  rw [if_neg (by rw [ho]; simp [hl])]
  unfold syncK
  have e : getF { D with left := if 0 < D.left then D.left - 1 else D.left }.l n = some f := hf
  rw [e]
  exact ⟨_, rfl, rfl, rfl, ho, left_next hl⟩
theorem delete_out {D : Dm} {n : Int} {f : Fil} (hn : 1 ≤ n ∧ n ≤ 1000) (ho : D.off = false) (hf : getF D.l n = some f) :
  (0 ≤ D.left ∧ deleteD D n = (140, { D with off := true })) ∨ ∃ E, deleteD D n = (0, E) ∧ E.l = delF D.l n ∧ Same D E := by
 have hg : goodN n = true := by unfold goodN; simp; omega
 unfold deleteD opD
 rw [if_neg (by rw [hg]; decide)]
 by_cases hl : D.left = 0
 ·left
  rw [if_pos (.inr hl)]
  exact ⟨by omega, rfl⟩
 ·right
  rw [if_neg (by rw [ho]; simp [hl])]
  unfold deleteK
  have e : getF { D with left := if 0 < D.left then D.left - 1 else D.left }.l n = some f := hf
  rw [e]
  exact ⟨_, rfl, rfl, rfl, ho, left_next hl⟩
structure Dead (D : Dm) (J : Jp) (base : List UInt8) (all : List (List UInt8)) (safe : Nat) (alt : Option (List UInt8)) : Prop where
 off : D.off = true
 brk : J.brk = true
 ok : CrashOK D.l base all safe alt
structure Lim (D : Dm) (J : Jp) (m : Nat) (k : Int) : Prop where
 room : D.room = 4194304
 sum : sumF D.l ≤ m
 num : ∀ f ∈ D.l, f.n ≤ k
 f1 : 1 ≤ J.file
 f2 : J.file ≤ k
theorem fits_ok {n : Nat} {f : Int} (hn : n ≤ 1048576) (hf : f ≤ 1000) : fitsN n f = 0 := by unfold fitsN; rw [if_neg (by omega), if_neg (by omega)]
section
variable {D : Dm} {J : Jp} {base : List UInt8} {all : List (List UInt8)} {safe : Nat} {m : Nat} {k : Int}
theorem heed_brk (J : Jp) : (J.heed 140).brk = true := by unfold Jp.heed; simp
theorem app2_new (hof : D.off = false) (hb : J.brk = false) (ha : J.added = 0) (hcl : ∀ f ∈ D.l, f.s = f.b.length ∧ f.n < J.file) (ht : tellD D.l = (base, all)) (hs : safe ≤ all.length) (hl : Lim D J m k) (hk : k ≤ 1000) {p : List UInt8} (hp : p.length ≤ 1048576) (hm : m + 13 + p.length ≤ 4194304) :
  ((app2 D J p).1 = 0 ∧ Hl (app2 D J p).2.1 (app2 D J p).2.2 base (all ++ [p]) safe ∧ (D.left < 0 → (app2 D J p).2.1.left < 0) ∨ 0 ≤ D.left ∧ (app2 D J p).1 = 140 ∧ Dead (app2 D J p).2.1 (app2 D J p).2.2 base all safe none) ∧
  Lim (app2 D J p).2.1 (app2 D J p).2.2 (m + 13 + p.length) k ∧ (app2 D J p).2.2.size = J.size ∧ (app2 D J p).2.2.file = J.file ∧ 0 ≤ (app2 D J p).2.2.added ∧ (app2 D J p).2.2.added ≤ J.added + 13 + p.length := by
 have hfl := fr_len false p
 have hsum := hl.sum
 have h1 := hl.f1
 have h2 := hl.f2
 rcases append_out (n := J.file) (bs := fr false p) ⟨hl.f1, by omega⟩ hof (by rw [hl.room, hfl]; omega) with ⟨hl0, e⟩ | ⟨E, e, eE, hsm⟩
 ·unfold app2
  rw [e, if_neg (by simp)]
  refine ⟨.inr ⟨hl0, rfl, rfl, heed_brk J, ?_⟩, ⟨hl.room, Nat.le_trans hsum (by omega), hl.num, hl.f1, hl.f2⟩, rfl, rfl, by show 0 ≤ J.added; omega, by show J.added ≤ _; omega⟩
  exact (show Idle D J base all safe from ⟨hof, hb, ha, hcl, ht, hs⟩).crash none
 ·unfold app2
  rw [e, if_pos rfl]
  have hE : E.l = D.l ++ [⟨J.file, fr false p, 0⟩] := by
   rw [eE]
   unfold addF
   rw [getF_gt fun f hf => (hcl f hf).2]
   exact putF_gt fun f hf => (hcl f hf).2
  refine ⟨.inl ⟨rfl, .inr ⟨D.l, none, [p], 0, hsm.off, hb, ?_, ?_, ?_, hcl, (fun x h => by cases h), (fun r hr => by simp at hr; subst hr; exact hp), Nat.zero_le _, ?_, ?_⟩, hsm.left⟩, ⟨hsm.room.trans hl.room, ?_, ?_, hl.f1, hl.f2⟩, rfl, rfl, ?_, ?_⟩
  ·show 0 < J.added + _; rw [hfl]; omega
  ·show J.added + _ = _; rw [ha]; simp [fileB]
  ·show E.l = _; rw [hE]; simp [fileB]
  ·rw [ht]; rfl
  ·simp; omega
  ·show sumF E.l ≤ _; rw [hE, sumF_app]; simp [sumF, hfl]; omega
  ·show ∀ f ∈ E.l, _; rw [hE]; intro f hf; rcases List.mem_append.1 hf with hf | hf; exact hl.num f hf; simp at hf; subst hf; exact hl.f2
  ·show 0 ≤ J.added + _; omega
  ·show J.added + _ ≤ _; rw [hfl]; omega
theorem app2_more {cl : List Fil} {o : Option (List UInt8)} {rs : List (List UInt8)} {j : Nat} (h : Busy D J base all safe cl o rs j) (hl : Lim D J m k) (hk : k ≤ 1000) {p : List UInt8} (hp : p.length ≤ 1048576) (hm : m + 13 + p.length ≤ 4194304) :
  ((app2 D J p).1 = 0 ∧ Hl (app2 D J p).2.1 (app2 D J p).2.2 base (all ++ [p]) safe ∧ (D.left < 0 → (app2 D J p).2.1.left < 0) ∨ 0 ≤ D.left ∧ (app2 D J p).1 = 140 ∧ Dead (app2 D J p).2.1 (app2 D J p).2.2 base all safe none) ∧
  Lim (app2 D J p).2.1 (app2 D J p).2.2 (m + 13 + p.length) k ∧ (app2 D J p).2.2.size = J.size ∧ (app2 D J p).2.2.file = J.file ∧ 0 ≤ (app2 D J p).2.2.added ∧ (app2 D J p).2.2.added ≤ J.added + 13 + p.length := by
 have hfl := fr_len false p
 have hsum := hl.sum
 have h1 := hl.f1
 have h2 := hl.f2
 have hpos := h.pos
 have hll := h.ll
 rcases append_out (n := J.file) (bs := fr false p) ⟨hl.f1, by omega⟩ h.off (by rw [hl.room, hfl]; omega) with ⟨hl0, e⟩ | ⟨E, e, eE, hsm⟩
 ·unfold app2
  rw [e, if_neg (by simp)]
  refine ⟨.inr ⟨hl0, rfl, rfl, heed_brk J, ?_⟩, ⟨hl.room, Nat.le_trans hsum (by omega), hl.num, hl.f1, hl.f2⟩, rfl, rfl, by show 0 ≤ J.added; omega, by show J.added ≤ _; omega⟩
  exact fun T hT => .inl (h.crashes hT)
 ·unfold app2
  rw [e, if_pos rfl]
  have hE : E.l = cl ++ [⟨J.file, fileB o (rs ++ [p]), (fileB o (rs.take j)).length⟩] := by
   rw [eE]
   unfold addF
   rw [hll, getF_last (c := ⟨J.file, fileB o rs, (fileB o (rs.take j)).length⟩) fun f hf => (h.ccl f hf).2]
   dsimp only
   rw [putF_last (c := ⟨J.file, fileB o rs, (fileB o (rs.take j)).length⟩) (d := ⟨J.file, fileB o rs ++ fr false p, (fileB o (rs.take j)).length⟩) (fun f hf => (h.ccl f hf).2) rfl, fileB_more]
  have htk : (rs ++ [p]).take j = rs.take j := by rw [List.take_append_of_le_length h.jr]
  refine ⟨.inl ⟨rfl, .inr ⟨cl, o, rs ++ [p], j, hsm.off, h.brk, ?_, ?_, ?_, h.ccl, h.fo, ?_, ?_, ?_, ?_⟩, hsm.left⟩, ⟨hsm.room.trans hl.room, ?_, ?_, hl.f1, hl.f2⟩, rfl, rfl, ?_, ?_⟩
  ·show 0 < J.added + _; omega
  ·show J.added + _ = _; rw [h.add, fileB_more, List.length_append]; simp
  ·show E.l = _; rw [hE, htk]
  ·intro r hr
   rcases List.mem_append.1 hr with hr | hr
   ·exact h.fr r hr
   ·simp at hr; subst hr; exact hp
  ·have := h.jr; simp; omega
  ·have ht := h.tell
   cases o with
   | some x =>
    simp only [addR, Prod.mk.injEq] at ht ⊢
    exact ⟨ht.1, by rw [ht.2]⟩
   | none =>
    simp only [addR, Prod.mk.injEq] at ht ⊢
    exact ⟨ht.1, by rw [← ht.2, List.append_assoc]⟩
  ·have := h.safe; have := h.jr; simp; omega
  ·show sumF E.l ≤ _
   have e1 : sumF D.l = sumF cl + (fileB o rs).length := by rw [hll, sumF_app]; simp [sumF]
   rw [hE, sumF_app]
   simp only [sumF, fileB_more, List.length_append, hfl]
   omega
  ·show ∀ f ∈ E.l, _
   rw [hE]
   intro f hf
   rcases List.mem_append.1 hf with hf | hf
   ·exact hl.num f (by rw [hll]; exact List.mem_append_left _ hf)
   ·simp at hf; subst hf; exact hl.f2
  ·show 0 ≤ J.added + _; omega
  ·show J.added + _ ≤ _; rw [hfl]; omega
end

section
variable {D : Dm} {J : Jp} {base : List UInt8} {all : List (List UInt8)} {safe : Nat} {m : Nat} {k : Int}
structure Out (D : Dm) (J : Jp) (r : Int × Dm × Jp) (m n : Nat) (k : Int) : Prop where
  lim : Lim r.2.1 r.2.2 (m + n) k
  size : r.2.2.size = J.size
  a0 : 0 ≤ r.2.2.added
  a1 : r.2.2.added ≤ J.added + n
def Good0 (D : Dm) (r : Int × Dm × Jp) (base : List UInt8) (all : List (List UInt8)) (safe : Nat) : Prop := r.1 = 0 ∧ Hl r.2.1 r.2.2 base all safe ∧ (D.left < 0 → r.2.1.left < 0)
def Bad0 (D : Dm) (r : Int × Dm × Jp) (base : List UInt8) (all : List (List UInt8)) (safe : Nat) (alt : Option (List UInt8)) : Prop := 0 ≤ D.left ∧ r.1 = 140 ∧ Dead r.2.1 r.2.2 base all safe alt
theorem Hl.brk (h : Hl D J base all safe) : J.brk = false := by
  rcases h with h | ⟨cl, o, rs, j, h⟩
  · exact h.brk
  · exact h.brk
theorem Hl.off (h : Hl D J base all safe) : D.off = false := by
  rcases h with h | ⟨cl, o, rs, j, h⟩
  · exact h.off
  · exact h.off
theorem Hl.a0 (h : Hl D J base all safe) : 0 ≤ J.added := by
  rcases h with h | ⟨cl, o, rs, j, h⟩
  · rw [h.add]; exact Int.le_refl _
  · have := h.pos; omega
theorem Lim.mono (h : Lim D J m k) {m' : Nat} {k' : Int} (hm : m ≤ m') (hk : k ≤ k') : Lim D J m' k' := ⟨h.room, Nat.le_trans h.sum hm, fun f hf => Int.le_trans (h.num f hf) hk, h.f1, Int.le_trans h.f2 hk⟩
theorem append_hl (h : Hl D J base all safe) (hl : Lim D J m k) (hk : k ≤ 999) (hsz : 1 ≤ J.size) {p : List UInt8} (hp : p.length ≤ 1048576) (hm : m + 13 + p.length ≤ 4194304) :
    (Good0 D (appendJ D J p) base (all ++ [p]) safe ∨ Bad0 D (appendJ D J p) base all safe none) ∧ Out D J (appendJ D J p) m (13 + p.length) (k + 1) := by
  have hb := h.brk
  have h1 := hl.f1
  have h2 := hl.f2
  rcases h with h | ⟨cl, o, rs, j, h⟩
  · have e : appendJ D J p = app2 D J p := by
      unfold appendJ
      rw [if_neg (by rw [hb]; decide), if_neg (by have := h.add; omega), if_neg (by rw [fits_ok hp (by omega)]; decide)]
    rw [e]
    obtain ⟨q1, q2, q3, q4, q5, q6⟩ := app2_new h.off hb h.add h.cl h.tell h.safe hl (by omega) hp hm
    exact ⟨q1, q2.mono (by omega) (by omega), q3, q5, by omega⟩
  · by_cases hs : J.size ≤ J.added
    · have e : appendJ D J p = if (syncD D J.file).1 ≠ 0 then ((syncD D J.file).1, (syncD D J.file).2, J.heed (syncD D J.file).1) else app2 (syncD D J.file).2 J.next p := by
        unfold appendJ
        rw [if_neg (by rw [hb]; decide), if_pos hs, if_neg (by rw [fits_ok hp (by omega)]; decide)]
      rw [e]
      have hg : getF D.l J.file = some ⟨J.file, fileB o rs, (fileB o (rs.take j)).length⟩ := by
        rw [h.ll]
        exact getF_last (c := ⟨J.file, fileB o rs, (fileB o (rs.take j)).length⟩) fun f hf => (h.ccl f hf).2
      rcases sync_out ⟨hl.f1, by omega⟩ h.off hg with ⟨hl0, es⟩ | ⟨E, es, eE, hsm⟩
      · rw [es, if_pos (by simp)]
        exact ⟨.inr ⟨hl0, rfl, rfl, heed_brk J, fun T hT => .inl (h.crashes hT)⟩, ⟨hl.room, Nat.le_trans hl.sum (by omega), fun f hf => by have := hl.num f hf; omega, hl.f1, by show J.file ≤ _; omega⟩, rfl, by have := h.pos; show 0 ≤ J.added; omega, by show J.added ≤ _; omega⟩
      · rw [es, if_neg (by simp)]
        dsimp only
        have hE : E.l = cl ++ [⟨J.file, fileB o rs, (fileB o rs).length⟩] := by
          rw [eE, h.ll]
          exact putF_last (c := ⟨J.file, fileB o rs, (fileB o (rs.take j)).length⟩) (d := ⟨J.file, fileB o rs, (fileB o rs).length⟩) (fun f hf => (h.ccl f hf).2) rfl
        have hsum : sumF E.l = sumF D.l := by rw [hE, h.ll, sumF_app, sumF_app]; simp [sumF]
        have hcl : ∀ f ∈ E.l, f.s = f.b.length ∧ f.n < J.next.file := by
          rw [hE]
          intro f hf
          rcases List.mem_append.1 hf with hf | hf
          · have := h.ccl f hf; exact ⟨this.1, by show f.n < J.file + 1; omega⟩
          · simp at hf; subst hf; exact ⟨rfl, by show J.file < J.file + 1; omega⟩
        have htl : tellD E.l = (base, all) := by
          rw [hE, tellD_app, tellA_one, frs_add0 h.fo h.fr]
          exact h.tell
        have hlim : Lim E J.next m (k + 1) := ⟨hsm.room.trans hl.room, by rw [hsum]; exact hl.sum, fun f hf => by have := (hcl f hf).2; have e3 : J.next.file = J.file + 1 := rfl; omega, by show 1 ≤ J.file + 1; omega, by show J.file + 1 ≤ _; omega⟩
        obtain ⟨q1, q2, q3, q4, q5, q6⟩ := app2_new (D := E) (J := J.next) (safe := safe) hsm.off hb rfl hcl htl (by have := h.safe; omega) hlim (by omega) hp hm
        refine ⟨?_, q2.mono (by omega) (Int.le_refl _), q3, q5, ?_⟩
        · rcases q1 with ⟨r1, r2, r3⟩ | ⟨r1, r2, r3⟩
          · exact .inl ⟨r1, r2, fun hh => r3 (hsm.left hh)⟩
          · exact .inr ⟨by by_cases hh : D.left < 0; · have := hsm.left hh; omega
                           · omega, r2, r3⟩
        · have e3 : J.next.added = 0 := rfl
          have := h.pos
          omega
    · have e : appendJ D J p = app2 D J p := by
        unfold appendJ
        rw [if_neg (by rw [hb]; decide), if_neg hs, if_neg (by rw [fits_ok hp (by omega)]; decide)]
      rw [e]
      obtain ⟨q1, q2, q3, q4, q5, q6⟩ := app2_more h hl (by omega) hp hm
      exact ⟨q1, q2.mono (by omega) (by omega), q3, q5, by omega⟩
theorem sync_hl (h : Hl D J base all safe) (hl : Lim D J m k) (hk : k ≤ 999) : (Good0 D (syncJ D J) base all all.length ∨ Bad0 D (syncJ D J) base all safe none) ∧ Out D J (syncJ D J) m 0 k := by
  have hb := h.brk
  have h1 := hl.f1
  have h2 := hl.f2
  rcases h with h | ⟨cl, o, rs, j, h⟩
  · have e : syncJ D J = (0, D, J) := by unfold syncJ; rw [if_neg (by rw [hb]; decide), if_pos h.add]
    rw [e]
    exact ⟨.inl ⟨rfl, .inl ⟨h.off, hb, h.add, h.cl, h.tell, Nat.le_refl _⟩, fun h => h⟩, hl, rfl, by show 0 ≤ J.added; rw [h.add]; exact Int.le_refl _, by show J.added ≤ J.added + ((0 : Nat) : Int); omega⟩
  · have hp := h.pos
    have e : syncJ D J = ((syncD D J.file).1, (syncD D J.file).2, J.heed (syncD D J.file).1) := by unfold syncJ; rw [if_neg (by rw [hb]; decide), if_neg (by omega)]
    rw [e]
    have hg : getF D.l J.file = some ⟨J.file, fileB o rs, (fileB o (rs.take j)).length⟩ := by
      rw [h.ll]
      exact getF_last (c := ⟨J.file, fileB o rs, (fileB o (rs.take j)).length⟩) fun f hf => (h.ccl f hf).2
    rcases sync_out ⟨hl.f1, by omega⟩ h.off hg with ⟨hl0, es⟩ | ⟨E, es, eE, hsm⟩
    · rw [es]
      exact ⟨.inr ⟨hl0, rfl, rfl, heed_brk J, fun T hT => .inl (h.crashes hT)⟩, ⟨hl.room, hl.sum, hl.num, hl.f1, hl.f2⟩, rfl, by show 0 ≤ J.added; omega, by show J.added ≤ J.added + ((0 : Nat) : Int); omega⟩
    · rw [es]
      have hE : E.l = cl ++ [⟨J.file, fileB o rs, (fileB o rs).length⟩] := by
        rw [eE, h.ll]
        exact putF_last (c := ⟨J.file, fileB o rs, (fileB o (rs.take j)).length⟩) (d := ⟨J.file, fileB o rs, (fileB o rs).length⟩) (fun f hf => (h.ccl f hf).2) rfl
      have hsum : sumF E.l = sumF D.l := by rw [hE, h.ll, sumF_app, sumF_app]; simp [sumF]
      have hh : J.heed 0 = J := Jp.heed_no (.inl rfl)
      rw [hh]
      refine ⟨.inl ⟨rfl, .inr ⟨cl, o, rs, rs.length, hsm.off, hb, hp, h.add, ?_, h.ccl, h.fo, h.fr, Nat.le_refl _, h.tell, by omega⟩, hsm.left⟩, ⟨hsm.room.trans hl.room, by show sumF E.l ≤ _; rw [hsum]; exact hl.sum, fun f hf => ?_, hl.f1, hl.f2⟩, rfl, by show 0 ≤ J.added; omega, by show J.added ≤ J.added + ((0 : Nat) : Int); omega⟩
      · show E.l = _
        rw [hE, List.take_length]
      · have hf' : f ∈ E.l := hf
        rw [hE] at hf'
        rcases List.mem_append.1 hf' with hf' | hf'
        · exact hl.num f (by rw [h.ll]; exact List.mem_append_left _ hf')
        · simp at hf'; subst hf'; exact hl.f2
theorem new_cut {p : List UInt8} (hp : p.length ≤ 1048576) (i : Nat) (acc : List UInt8 × List (List UInt8)) : tellF acc (frs ((fr true p).take i)) = (p, []) ∨ tellF acc (frs ((fr true p).take i)) = acc := by
  by_cases hi : (fr true p).length ≤ i
  · left
    rw [List.take_of_length_le hi]
    have := frs_add0 (o := some p) (rs := []) (fun x h => by cases h; exact hp) (fun r h => by cases h) acc
    have e : fileB (some p) [] = fr true p := by simp [fileB]
    rw [e] at this
    exact this
  · right
    have : frs ((fr true p).take i) = [] := frsF_none (next_cut hp (List.take_prefix _ _) (by rw [List.length_take]; omega))
    rw [this]
    rfl
theorem new_whole {p : List UInt8} (hp : p.length ≤ 1048576) (acc : List UInt8 × List (List UInt8)) : tellF acc (frs (fr true p)) = (p, []) := by
  rcases new_cut hp (fr true p).length acc with h | h
  · rwa [List.take_length] at h
  · have := frs_add0 (o := some p) (rs := []) (fun x h => by cases h; exact hp) (fun r h => by cases h) acc
    have e : fileB (some p) [] = fr true p := by simp [fileB]
    rw [e] at this
    exact this
theorem delAll_hl (J : Jp) (c : Fil) (l : List Fil) : ∀ E : Dm, E.l = l ++ [c] → RisF E.l → (∀ f ∈ E.l, 1 ≤ f.n ∧ f.n ≤ 1000) → E.off = false →
    (∃ E', delAll J c.n (l.map Fil.n) E = (0, E', J) ∧ E'.l = [c] ∧ Same E E') ∨ (0 ≤ E.left ∧ ∃ E' l', delAll J c.n (l.map Fil.n) E = (140, E', J.heed 140) ∧ E'.off = true ∧ E'.room = E.room ∧ E'.l = l' ++ [c] ∧ (∀ f ∈ l', f ∈ l) ∧ sumF l' ≤ sumF l) := by
  induction l with
  | nil => intro E hE _ _ ho; exact .inl ⟨E, rfl, by simpa using hE, rfl, ho, fun h => h⟩
  | cons x l ih =>
    intro E hE hr hn ho
    have hx : x ∈ E.l := by rw [hE]; exact List.mem_append_left _ List.mem_cons_self
    have hc : c ∈ E.l := by rw [hE]; exact List.mem_append_right _ (List.mem_singleton.2 rfl)
    have hxc : x.n ≠ c.n := by
      have h2 := hr
      rw [hE] at h2
      have := h2.head c (List.mem_append_right _ (List.mem_singleton.2 rfl))
      omega
    rw [List.map_cons, delAll_cons, if_neg hxc]
    rcases delete_out (hn x hx) ho (hr.get hx) with ⟨hl0, e⟩ | ⟨E1, e, e1, hsm⟩
    · right
      refine ⟨hl0, { E with off := true }, x :: l, ?_, rfl, rfl, hE, fun f hf => hf, Nat.le_refl _⟩
      rw [e, if_neg (by simp)]
    · have h1 : E1.l = l ++ [c] := by
        rw [e1, hE]
        have h2 := hr
        rw [hE] at h2
        show List.filter _ (x :: (l ++ [c])) = _
        rw [List.filter_cons, if_neg (by simp)]
        exact List.filter_eq_self.2 fun f hf => by have := h2.head f hf; simp; omega
      have hr1 : RisF E1.l := by rw [e1]; exact hr.del _
      have hn1 : ∀ f ∈ E1.l, 1 ≤ f.n ∧ f.n ≤ 1000 := fun f hf => hn f (by rw [e1] at hf; exact (delF_mem.1 hf).1)
      rw [e, if_pos rfl]
      rcases ih E1 h1 hr1 hn1 hsm.off with ⟨E', q1, q2, q3⟩ | ⟨q0, E', l', q1, q2, q3, q4, q5, q6⟩
      · exact .inl ⟨E', q1, q2, q3.room.trans hsm.room, q3.off, fun h => q3.left (hsm.left h)⟩
      · exact .inr ⟨by by_cases hh : E.left < 0; · have := hsm.left hh; omega
                       · omega, E', l', q1, q2, q3.trans hsm.room, q4, fun f hf => List.mem_cons_of_mem _ (q5 f hf), by simp only [sumF]; omega⟩
theorem rewrite_hl (h : Hl D J base all safe) (hl : Lim D J m k) (hk : k ≤ 999) (hr : RisF D.l) (hn : ∀ f ∈ D.l, 1 ≤ f.n) {p : List UInt8} (hp : p.length ≤ 1048576) (hm : m + 13 + p.length ≤ 4194304) :
    (Good0 D (rewriteJ D J p) p [] 0 ∧ (rewriteJ D J p).2.1.l.length = 1 ∨ Bad0 D (rewriteJ D J p) base all safe (some p)) ∧ Out D J (rewriteJ D J p) m (13 + p.length) (k + 1) := by
  have hb := h.brk
  have h1 := hl.f1
  have h2 := hl.f2
  have hoff := h.off
  have ha0 := h.a0
  have hfl := fr_len true p
  have hF : J.file ≤ rewJ J ∧ rewJ J ≤ J.file + 1 ∧ ∀ f ∈ D.l, f.n < rewJ J := by
    rcases h with h | ⟨cl, o, rs, j, h⟩
    · have e : rewJ J = J.file := by unfold rewJ; rw [if_neg (by have := h.add; omega)]
      rw [e]
      exact ⟨by omega, by omega, fun f hf => (h.cl f hf).2⟩
    · have e : rewJ J = J.file + 1 := by unfold rewJ; rw [if_pos h.pos]
      rw [e]
      refine ⟨by omega, by omega, fun f hf => ?_⟩
      rw [h.ll] at hf
      rcases List.mem_append.1 hf with hf | hf
      · have := (h.ccl f hf).2; omega
      · simp at hf; subst hf; show J.file < _; omega
  obtain ⟨hF1, hF2, hF3⟩ := hF
  have hcr := h.crash (some p)
  have hcr0 : ∀ alt, CrashOK D.l base all safe alt := fun alt => h.crash alt
  unfold rewriteJ
  rw [if_neg (by rw [hb]; decide), if_neg (by rw [fits_ok hp (by omega)]; decide)]
  generalize hFe : rewJ J = F at *
  have hlimJ : ∀ E : Dm, E.room = 4194304 → sumF E.l ≤ m + 13 + p.length → (∀ f ∈ E.l, f.n ≤ k + 1) → ∀ e : Int, Lim E (J.heed e) (m + (13 + p.length)) (k + 1) := fun E q1 q2 q3 e => ⟨q1, by omega, q3, h1, by show J.file ≤ _; omega⟩
  have outJ : ∀ (E : Dm) (e c : Int), E.room = 4194304 → sumF E.l ≤ m + 13 + p.length → (∀ f ∈ E.l, f.n ≤ k + 1) → Out D J (c, E, J.heed e) m (13 + p.length) (k + 1) := fun E e c q1 q2 q3 => ⟨hlimJ E q1 q2 q3 e, rfl, ha0, by show J.added ≤ _; omega⟩
  rcases append_out (n := F) (bs := fr true p) ⟨by omega, by omega⟩ hoff (by have := hl.sum; rw [hl.room, hfl]; omega) with ⟨hl0, e1⟩ | ⟨E1, e1, eE1, hs1⟩
  · rw [e1, if_pos (by simp)]
    exact ⟨.inr ⟨hl0, rfl, rfl, heed_brk J, hcr⟩, outJ _ _ _ hl.room (by have := hl.sum; show sumF D.l ≤ _; omega) (fun f hf => by have := hl.num f hf; omega)⟩
  · rw [e1, if_neg (by simp)]
    have hE1 : E1.l = D.l ++ [⟨F, fr true p, 0⟩] := by
      rw [eE1]
      unfold addF
      rw [getF_gt hF3]
      exact putF_gt hF3
    have hsum1 : sumF E1.l = sumF D.l + (13 + p.length) := by rw [hE1, sumF_app]; simp [sumF, hfl]
    have hnum1 : ∀ f ∈ E1.l, f.n ≤ k + 1 := by
      rw [hE1]
      intro f hf
      rcases List.mem_append.1 hf with hf | hf
      · have := hl.num f hf; omega
      · simp at hf; subst hf; show F ≤ _; omega
    have hg1 : getF E1.l F = some ⟨F, fr true p, 0⟩ := by
      rw [hE1]
      exact getF_last (c := ⟨F, fr true p, 0⟩) hF3
    rcases sync_out ⟨by omega, by omega⟩ hs1.off hg1 with ⟨hl1, e2⟩ | ⟨E2, e2, eE2, hs2⟩
    · rw [e2, if_pos (by simp)]
      refine ⟨.inr ⟨by by_cases hh : D.left < 0; · have := hs1.left hh; omega
                       · omega, rfl, rfl, heed_brk J, fun T hT => ?_⟩, outJ _ _ _ (hs1.room.trans hl.room) (by have := hl.sum; show sumF E1.l ≤ _; omega) hnum1⟩
      show (∃ k, _ ∧ _ ∧ tellD (cutL T E1.l) = _) ∨ ∃ x, _ ∧ tellD (cutL T E1.l) = _
      rw [hE1, cutL_app, tellD_app]
      have e3 : cutL T [(⟨F, fr true p, 0⟩ : Fil)] = [⟨F, (fr true p).take (0 + keepF ⟨F, fr true p, 0⟩ (tailF T F)), 0 + keepF ⟨F, fr true p, 0⟩ (tailF T F)⟩] := by
        show [cutF _ _] = _
        rw [cutF_zero _ _ (tailF_zero hT _)]
      rw [e3, tellA_one]
      rcases new_cut hp (0 + keepF ⟨F, fr true p, 0⟩ (tailF T F)) (tellD (cutL T D.l)) with q | q
      · exact .inr ⟨p, rfl, q⟩
      · rw [q]
        rcases hcr0 none T hT with q | ⟨x, hx, _⟩
        · exact .inl q
        · cases hx
    · rw [e2, if_neg (by simp)]
      have hE2 : E2.l = D.l ++ [⟨F, fr true p, (fr true p).length⟩] := by
        rw [eE2, hE1]
        exact putF_last (c := ⟨F, fr true p, 0⟩) (d := ⟨F, fr true p, (fr true p).length⟩) hF3 rfl
      have hr2 : RisF E2.l := by
        rw [hE2]
        unfold RisF
        rw [List.pairwise_append]
        exact ⟨hr, List.pairwise_singleton _ _, fun f hf g hg => by simp at hg; subst hg; exact hF3 f hf⟩
      have hn2 : ∀ f ∈ E2.l, 1 ≤ f.n ∧ f.n ≤ 1000 := by
        rw [hE2]
        intro f hf
        rcases List.mem_append.1 hf with hf | hf
        · have := hl.num f hf; exact ⟨hn f hf, by omega⟩
        · simp at hf; subst hf; exact ⟨by show 1 ≤ F; omega, by show F ≤ _; omega⟩
      have hleft : D.left < 0 → E2.left < 0 := fun hh => hs2.left (hs1.left hh)
      rcases delAll_hl J ⟨F, fr true p, (fr true p).length⟩ D.l E2 hE2 hr2 hn2 hs2.off with ⟨E3, q1, q2, q3⟩ | ⟨q0, E3, l', q1, q2, q3, q4, q5, q6⟩
      · dsimp only at q1
        rw [q1, if_neg (by simp)]
        have hroom : E3.room = 4194304 := q3.room.trans (hs2.room.trans (hs1.room.trans hl.room))
        refine ⟨.inl ⟨⟨rfl, .inr ⟨[], some p, [], 0, q3.off, hb, ?_, ?_, ?_, (fun f hf => by cases hf), (fun x hx => by cases hx; exact hp), (fun r hr => by cases hr), Nat.le_refl _, rfl, Nat.le_refl _⟩, fun hh => q3.left (hleft hh)⟩, by show E3.l.length = 1; rw [q2]; rfl⟩, ⟨hroom, ?_, ?_, ?_, ?_⟩, rfl, ?_, ?_⟩
        · show 0 < ((fr true p).length : Int); rw [hfl]; omega
        · show ((fr true p).length : Int) = _; simp [fileB]
        · show E3.l = _; rw [q2]; simp [fileB]
        · show sumF E3.l ≤ _; rw [q2]; simp [sumF, hfl]
        · show ∀ f ∈ E3.l, _; rw [q2]; intro f hf; simp at hf; subst hf; show F ≤ _; omega
        · show 1 ≤ F; omega
        · show F ≤ _; omega
        · show 0 ≤ ((fr true p).length : Int); omega
        · show ((fr true p).length : Int) ≤ _; rw [hfl]; omega
      · dsimp only at q1
        rw [q1, if_pos (by simp)]
        refine ⟨.inr ⟨by by_cases hh : D.left < 0; · have := hleft hh; omega
                         · omega, rfl, q2, heed_brk J, fun T hT => .inr ⟨p, rfl, ?_⟩⟩, outJ _ _ _ (q3.trans (hs2.room.trans (hs1.room.trans hl.room))) (by have := hl.sum; rw [q4, sumF_app]; simp [sumF, hfl]; omega) ?_⟩
        · show tellD (cutL T E3.l) = _
          rw [q4, cutL_app, tellD_app, cutL_closed (l := [⟨F, fr true p, (fr true p).length⟩]) hT (fun f hf => by simp at hf; subst hf; rfl), tellA_one]
          exact new_whole hp _
        · rw [q4]
          intro f hf
          rcases List.mem_append.1 hf with hf | hf
          · have := hl.num f (q5 f hf); omega
          · simp at hf; subst hf; show F ≤ _; omega
theorem open_hl {T : List Tl} {size : Int} (hr : RisF D.l) (hs : ∀ f ∈ D.l, f.s ≤ f.b.length) (hn : ∀ f ∈ D.l, 1 ≤ f.n ∧ f.n ≤ k) (hk0 : 0 ≤ k) (hroom : D.room = 4194304) (hm : sumF D.l ≤ m) :
    Hl (crashD D T) ⟨size, nextN (crashD D T), 0, false⟩ (tellD (crashD D T).l).1 (tellD (crashD D T).l).2 (tellD (crashD D T).l).2.length ∧ Lim (crashD D T) ⟨size, nextN (crashD D T), 0, false⟩ m (k + 1) := by
  have hr2 : RisF (crashD D T).l := by
    unfold RisF
    rw [crashD_l]
    unfold cutL
    rw [List.pairwise_map]
    exact hr
  have hn2 : ∀ f ∈ (crashD D T).l, 1 ≤ f.n ∧ f.n ≤ k := by
    intro f hf
    rw [crashD_l] at hf
    obtain ⟨g, hg, rfl⟩ := List.mem_map.1 hf
    exact hn g hg
  have hnx : 1 ≤ nextN (crashD D T) ∧ nextN (crashD D T) ≤ k + 1 ∧ ∀ f ∈ (crashD D T).l, f.n < nextN (crashD D T) := by
    unfold nextN
    cases e : (crashD D T).l.getLast? with
    | none => exact ⟨Int.le_refl _, by show (1 : Int) ≤ _; omega, fun f hf => by rw [List.getLast?_eq_none_iff.1 e] at hf; cases hf⟩
    | some c =>
      obtain ⟨ys, hys⟩ := List.getLast?_eq_some_iff.1 e
      have hc := hn2 c (List.mem_of_getLast? e)
      refine ⟨by show 1 ≤ c.n + 1; omega, by show c.n + 1 ≤ _; omega, fun f hf => ?_⟩
      show f.n < c.n + 1
      rw [hys] at hf
      rcases List.mem_append.1 hf with hf | hf
      · have h3 := hr2
        rw [hys] at h3
        have := (List.pairwise_append.1 h3).2.2 f hf c (List.mem_singleton.2 rfl)
        omega
      · simp at hf; subst hf; omega
  exact ⟨.inl ⟨rfl, rfl, rfl, fun f hf => ⟨crash_closed D T hs f hf, hnx.2.2 f hf⟩, rfl, Nat.le_refl _⟩, ⟨hroom, Nat.le_trans (crash_sum D T hs) hm, fun f hf => by have := (hn2 f hf).2; omega, hnx.1, hnx.2.1⟩⟩
end
end SJ
end Go.Proofs.Ytddbmibfebhmjaa

namespace Go.Proofs.Ytddbmibfebhmjaa
open S2 SZ
namespace SJ
open Go.ChangeShapes Go.WideShapes Go.ChangeAt Go.RowKit
theorem app2_done (D : Dm) (J : Jp) (p : List UInt8) : (app2 D J p).2.1.done ≤ D.done + 1 := by
 unfold app2
 split <;> exact app_done _ _ _
theorem appendJ_done (D : Dm) (J : Jp) (p : List UInt8) : (appendJ D J p).2.1.done ≤ D.done + 2 := by
 unfold appendJ
 split
 ·exact Nat.le_add_right _ _
 ·split
  ·split
   ·exact Nat.le_add_right _ _
   ·split
    ·have := sync_done D J.file; show (syncD D J.file).2.done ≤ _; omega
    ·have := sync_done D J.file; have := app2_done (syncD D J.file).2 J.next p; omega
  ·split
   ·exact Nat.le_add_right _ _
   ·have := app2_done D J p; omega
theorem syncJ_done (D : Dm) (J : Jp) : (syncJ D J).2.1.done ≤ D.done + 1 := by
 unfold syncJ
 split
 ·exact Nat.le_add_right _ _
 ·split
  ·exact Nat.le_add_right _ _
  ·exact sync_done _ _
theorem delAll_done (J : Jp) (kept : Int) (l : List Int) : ∀ D : Dm, (delAll J kept l D).2.1.done ≤ D.done + l.length := by
 induction l with
 | nil => intro D; exact Nat.le_refl _
 | cons n l ih =>
  intro D
  rw [delAll_cons]
  have h1 := del_done D n
  split
  ·have := ih D; simp; omega
  ·split
   ·have := ih (deleteD D n).2; simp; omega
   ·simp; show (deleteD D n).2.done ≤ _; omega
theorem rewriteJ_done (D : Dm) (J : Jp) (p : List UInt8) : (rewriteJ D J p).2.1.done ≤ D.done + 2 + D.l.length := by
 unfold rewriteJ
 have h1 := app_done D (rewJ J) (fr true p)
 have h2 := sync_done (appendD D (rewJ J) (fr true p)).2 (rewJ J)
 have h3 := delAll_done J (rewJ J) (D.l.map Fil.n) (syncD (appendD D (rewJ J) (fr true p)).2 (rewJ J)).2
 rw [List.length_map] at h3
 split
 ·show D.done ≤ _; omega
 ·split
  ·show D.done ≤ _; omega
  ·split
   ·show (appendD D (rewJ J) (fr true p)).2.done ≤ _; omega
   ·split
    ·show (syncD (appendD D (rewJ J) (fr true p)).2 (rewJ J)).2.done ≤ _; omega
    ·split
     ·omega
     ·show (delAll J (rewJ J) (D.l.map Fil.n) (syncD (appendD D (rewJ J) (fr true p)).2 (rewJ J)).2).2.1.done ≤ _; omega
theorem hl_new (size : Int) : Hl (newD 4194304) ⟨size, 1, 0, false⟩ [] [] 0 ∧ Lim (newD 4194304) ⟨size, 1, 0, false⟩ 0 1 :=
 ⟨.inl ⟨rfl, rfl, rfl, (fun f h => by cases h), rfl, Nat.le_refl _⟩, ⟨rfl, Nat.le_refl _, (fun f h => by cases h), Int.le_refl _, Int.le_refl _⟩⟩
theorem JL.away15 {w x : World} {b jb : Nat} {S : Nat → Prop} {D : Dm} {J : Jp} (h : JL w x b jb S D J) {g : Nat} (hg : g < w.heap.size) : ¬ S g ∧ g ≠ jb := ⟨fun hs => by have := h.liv.own g hs; omega, by have := h.wj; omega⟩
end SJ
end Go.Proofs.Ytddbmibfebhmjaa

namespace Go.Proofs.Ytddbmibfebhmjaa
open S2 SZ
namespace SJ
open Go.RowKit
section
variable {D : Dm} {J : Jp} {base : List UInt8} {all : List (List UInt8)} {safe : Nat} {m : Nat} {k : Int}
theorem Hl.busy (h : Hl D J base all safe) (hp : 0 < J.added) : ∃ cl o rs j, Busy D J base all safe cl o rs j := by
 rcases h with h | h
 ·have := h.add; omega
 ·exact h
end
end SJ
end Go.Proofs.Ytddbmibfebhmjaa

namespace Go.Proofs.Ytddbmibfebhmjaa
open S2 SZ
namespace SJ
open Go.ChangeShapes Go.WideShapes Go.ChangeAt Go.RowKit Go.Joins Go.Deep
theorem cellsAct15 : Try.prog.cellsOf 57 = 4 := by kernel_rfl
theorem cellsTl15 : Try.prog.cellsOf 61 = 3 := by kernel_rfl
theorem cellsTls15 : Try.prog.cellsOf 33 = 1 := by kernel_rfl
theorem cellsI15 : Try.prog.cellsOf 3 = 1 := by kernel_rfl
theorem cellsU15 : Try.prog.cellsOf 5 = 1 := by kernel_rfl
theorem bytesTl15 : 0 < Try.prog.bytesOf 61 := of_decide_eq_true (by kernel_rfl)
structure AcJ where
 kind : Int
 b : List UInt8
 n : Int
 t : List Tl
 xa : Option Addr
 xc : Nat
 ta : Option Addr
 tc : Nat
def AcJ.cells (q : AcJ) : List Value := [.int .i64 q.kind, .slice q.xa q.b.length q.xc, .int .i64 q.n, .slice q.ta q.t.length q.tc]
structure AcOk (w : World) (q : AcJ) : Prop where
 bw : ∃ gx, Bw w gx (.slice q.xa q.b.length q.xc) q.b ∧ (q.b ≠ [] → gx < w.heap.size)
 tl : TlAt w (fun k => k < w.heap.size) (.slice q.ta q.t.length q.tc) q.t
 nw : (Lit.int .i64 q.n).wf = true
def AcAt (w : World) (a : Option Addr) (L : List AcJ) : Prop := L ≠ [] → ∃ g o, a = some ⟨g, o, none⟩ ∧ g < w.heap.size ∧ ∀ (i : Nat) q, L[i]? = some q → w.rangeAt g (o + i * 4) q.cells ∧ AcOk w q
section
variable {H : Type} {enc : TypeId × Value → H}
def WJ (t : TypeId) (d : DataW H) (n : Nat) : Prop := n = 0 ∨ ∃ m ∈ d.weights Try.prog t, n ≤ m
theorem WJ.up {t s : TypeId} {d e : DataW H} {n : Nat} (h : WJ t d n) (hm : ∀ m ∈ d.weights Try.prog t, m ∈ e.weights Try.prog s) : WJ s e n := by
 rcases h with h | ⟨m, h1, h2⟩
 ·exact .inl h
 ·exact .inr ⟨m, hm m h1, h2⟩
theorem field_w15 {t ti : TypeId} {fs : Array Field} (hu : Try.prog.underlying t = some (.struct fs)) {ds : List (DataW H)} {d : DataW H} (i : Nat) (ht : (fs.toList.map (·.type))[i]? = some ti) (hd : ds[i]? = some d) : ∀ m ∈ d.weights Try.prog ti, m ∈ (DataW.agg ds : DataW H).weights Try.prog t := by
 intro m hm
 simp only [DataW.weights, hu]
 exact weightsEach_mem14 ht hd hm
theorem tails_cells15 {w : World} {cs : List Value} {fuel : Nat} {x : DataW H × List MemPlace} (hf' : DataW.trod enc Try.prog w 0 (fun _ => true) true fuel 33 cs = some x) :
  ∃ (a : Option Addr) (L : List Tl) (cap : Nat), cs = [.slice a L.length cap] ∧ TlAt w (fun k => k < w.heap.size) (.slice a L.length cap) L ∧ WJ 33 x.1 L.length := by
 rcases open_slice Try.underlying33 hf' with ⟨hcs, _⟩ | ⟨a, len, cap, m, n, D, Pl, hcs, _, hl, hm, hmm, hx, hi⟩
 ·exact ⟨none, [], 0, hcs, tl_nil15 _ _, .inl rfl⟩
 ·subst hcs
  simp only [if_true] at hmm
  subst hmm
  have hone : ∀ i, i < len → ∃ t : Tl, ((Lit.int .i64 t.file).wf = true ∧ (Lit.int .i64 t.keep).wf = true) ∧ w.cell? (a.add (i * 3)) = some (.int .i64 t.file) ∧ w.cell? ((a.add (i * 3)).add 1) = some (.int .i64 t.keep) ∧ w.cell? ((a.add (i * 3)).add 2) = some (bv t.turn) := by
   intro i hlt
   obtain ⟨cs', hc, ht⟩ := hi i (by omega)
   rw [cellsTl15] at hc
   obtain ⟨_, hlen, hat⟩ := World.cells?_some hc
   match cs', hlen with
   | [c0, c1, c2], _ =>
    obtain ⟨y0, y1, y2, k, _, _, h0, h1, h2⟩ := trod_struct3 Try.underlying61 ht
    have e0 : DataW.trod enc Try.prog w 0 (fun _ => true) true k 3 [c0] = some y0 := by simpa [cellsI15] using h0
    have e1 : DataW.trod enc Try.prog w 0 (fun _ => true) true k 3 [c1] = some y1 := by simpa [cellsI15] using h1
    have e2 : DataW.trod enc Try.prog w 0 (fun _ => true) true k 5 [c2] = some y2 := by simpa [cellsU15] using h2
    obtain ⟨n0, g0, _, w0⟩ := DataW.trod_int Try.underlying3 e0
    obtain ⟨n1, g1, _, w1⟩ := DataW.trod_int Try.underlying3 e1
    obtain ⟨n2, g2, _, w2⟩ := DataW.trod_int Try.underlying5 e2
    obtain ⟨x2, rfl⟩ := byte_wf w2
    simp only [List.cons.injEq, and_true] at g0 g1 g2
    subst g0 g1 g2
    refine ⟨⟨n0, n1, x2⟩, ⟨w0, w1⟩, ?_, ?_, ?_⟩
    ·have := hat 0 (by omega)
     have e : (a.add (i * 3)).add 0 = a.add (i * 3) := by unfold Addr.add; split <;> simp_all
     rw [e] at this
     exact this
    ·exact hat 1 (by omega)
    ·exact hat 2 (by omega)
  obtain ⟨f, hf2⟩ : ∃ f : Nat → Tl, ∀ i, i < len → ((Lit.int .i64 (f i).file).wf = true ∧ (Lit.int .i64 (f i).keep).wf = true) ∧ w.cell? (a.add (i * 3)) = some (.int .i64 (f i).file) ∧ w.cell? ((a.add (i * 3)).add 1) = some (.int .i64 (f i).keep) ∧ w.cell? ((a.add (i * 3)).add 2) = some (bv (f i).turn) :=
   ⟨fun i => if h : i < len then Classical.choose (hone i h) else ⟨0, 0, 0⟩, fun i hlt => by simp only [hlt, dif_pos]; exact Classical.choose_spec (hone i hlt)⟩
  have hlen : ((List.range len).map f).length = len := by simp
  have hat : ∀ (j : Nat) (s : Tl), ((List.range len).map f)[j]? = some s → j < len ∧ s = f j := by
   intro j s hj
   have hjl : j < len := by
    have := (List.getElem?_eq_some_iff.1 hj).1
    simpa using this
   exact ⟨hjl, by simpa [List.getElem?_map, List.getElem?_range, hjl, eq_comm] using hj⟩
  refine ⟨some a, (List.range len).map f, _, by rw [hlen], ⟨fun t ht => ?_, _, _, rfl, fun hne => ?_⟩, ?_⟩
  ·obtain ⟨i, hi2, rfl⟩ := List.mem_map.1 ht
   exact (hf2 i (List.mem_range.1 hi2)).1
  ·have h0 : 0 < len := by
    rcases Nat.eq_zero_or_pos len with h | h
    ·subst h
     exact absurd rfl hne
    ·exact h
   obtain ⟨_, h00, _⟩ := hf2 0 h0
   have e : a.add (0 * 3) = a := by rw [Nat.zero_mul]; unfold Addr.add; split <;> simp_all
   rw [e] at h00
   obtain ⟨b, off, spot⟩ := a
   have hspot : spot = none := World.cell?_spot h00
   subst hspot
   refine ⟨b, off, rfl, World.block_lt_of_cell? _ _ h00, World.block_lt_of_cell? _ _ h00, fun i s hi' => ?_⟩
   obtain ⟨hil, rfl⟩ := hat i s hi'
   obtain ⟨_, g0, g1, g2⟩ := hf2 i hil
   rw [Go.WideShapes.add_plain] at g0 g1 g2
   rw [Go.WideShapes.add_plain] at g1 g2
   exact ⟨g0, g1, g2⟩
  ·refine .inr ⟨(len + (m - len)) * Try.prog.bytesOf 61, ?_, ?_⟩
   ·rw [hx]
    simp only [DataW.weights, Try.underlying33, List.length_map, List.length_range]
    exact List.mem_cons_self
   ·rw [hlen]
    have h3 : len * 1 ≤ (len + (m - len)) * Try.prog.bytesOf 61 := Nat.mul_le_mul (by omega) bytesTl15
    omega
theorem act_cells15 {w : World} {c0 c1 c2 c3 : Value} {fuel : Nat} {x : DataW H × List MemPlace} (hf : DataW.trod enc Try.prog w 0 (fun _ => true) true fuel 57 [c0, c1, c2, c3] = some x) :
  ∃ q : AcJ, [c0, c1, c2, c3] = q.cells ∧ AcOk w q ∧ WJ 57 x.1 q.b.length ∧ WJ 57 x.1 q.t.length := by
 obtain ⟨y0, y1, y2, y3, k, hx, _, h0, h1, h2, h3⟩ := trod_struct4 Try.underlying57 hf
 have e0 : DataW.trod enc Try.prog w 0 (fun _ => true) true k 3 [c0] = some y0 := by simpa [cellsI15] using h0
 have e1 : DataW.trod enc Try.prog w 0 (fun _ => true) true k 39 [c1] = some y1 := by simpa [cells_bl14] using h1
 have e2 : DataW.trod enc Try.prog w 0 (fun _ => true) true k 3 [c2] = some y2 := by simpa [cellsI15] using h2
 have e3 : DataW.trod enc Try.prog w 0 (fun _ => true) true k 33 [c3] = some y3 := by simpa [cellsTls15] using h3
 obtain ⟨kd, g0, _, _⟩ := DataW.trod_int Try.underlying3 e0
 obtain ⟨n, g2, _, wn⟩ := DataW.trod_int Try.underlying3 e2
 obtain ⟨xa, l, xc, gx, g1, hb, hgx, hw⟩ := bytes_cells14 e1
 obtain ⟨ta, T, tc, g3, ht, hwt⟩ := tails_cells15 e3
 simp only [List.cons.injEq, and_true] at g0 g1 g2 g3
 subst g0 g1 g2 g3
 have hx1 : x.1 = .agg [y0.1, y1.1, y2.1, y3.1] := congrArg Prod.fst hx
 have U := Try.underlying57
 refine ⟨⟨kd, l, n, T, xa, xc, ta, tc⟩, rfl, ⟨⟨gx, hb, hgx⟩, ht, wn⟩, ?_, ?_⟩
 ·rw [hx1]
  exact WJ.up (t := 39) (d := y1.1) hw (field_w15 U 1 rfl rfl)
 ·rw [hx1]
  exact hwt.up (field_w15 U 3 rfl rfl)
theorem open_acts15 {r : Reach} {b0 : Nat} {w : World} {v : Value} {d : DataW H} {p : List MemPlace} (hv : Value.okWide Try.prog w r b0 51 v) (h : DataW.Trod enc Try.prog w 0 (fun _ => true) true 51 v d p) :
  ∃ (a : Option Addr) (L : List AcJ) (cap : Nat), v = .slice a L.length cap ∧ AcAt w a L ∧ L.length ≤ maxLen ∧
   ∀ (ts : List TypeId) (ds : List (DataW H)) (i : Nat), (DataW.weightsEach Try.prog ts ds).all (· ≤ reachBytes) = true → ts[i]? = some 51 → ds[i]? = some d → ∀ q ∈ L, q.b.length ≤ 140737488355328 ∧ q.t.length ≤ 140737488355328 := by
 obtain ⟨a0, len0, cap0, rfl⟩ := okWide_slice Try.underlying51 hv
 obtain ⟨fuel, hf⟩ := h
 have hf' : DataW.trod enc Try.prog w 0 (fun _ => true) true fuel 51 [.slice a0 len0 cap0] = some (d, p) := by simpa [Value.cells] using hf
 rcases open_slice Try.underlying51 hf' with ⟨hcs, _⟩ | ⟨a, len, cap, m, n, D, Pl, hcs, _, hl, hm, hmm, hx, hi⟩
 ·simp only [List.cons.injEq, Value.slice.injEq, and_true] at hcs
  obtain ⟨rfl, rfl, rfl⟩ := hcs
  exact ⟨none, [], 0, rfl, fun h => absurd rfl h, Nat.zero_le _, fun _ _ _ _ _ _ q hq => by cases hq⟩
 ·simp only [List.cons.injEq, Value.slice.injEq, and_true] at hcs
  obtain ⟨rfl, rfl, rfl⟩ := hcs
  simp only [if_true] at hmm
  subst hmm
  have hx1 := congrArg Prod.fst hx
  simp only at hx1
  have hone : ∀ i, i < len0 → ∃ q : AcJ, (∀ (j : Nat) u, q.cells[j]? = some u → w.cell? ((a.add (i * 4)).add j) = some u) ∧ AcOk w q ∧ WJ 57 (D i) q.b.length ∧ WJ 57 (D i) q.t.length := by
   intro i hlt
   obtain ⟨cs', hc, ht⟩ := hi i (by omega)
   rw [cellsAct15] at hc
   obtain ⟨_, hlen, hat⟩ := World.cells?_some hc
   match cs', hlen with
   | [c0, c1, c2, c3], _ =>
    obtain ⟨q, he, h1, h2, h3⟩ := act_cells15 ht
    refine ⟨q, fun j u hu => ?_, h1, h2, h3⟩
    rw [← he] at hu
    have hj : j < 4 := (List.getElem?_eq_some_iff.1 hu).1
    exact (hat j hj).trans hu
  obtain ⟨f, hf2⟩ : ∃ f : Nat → AcJ, ∀ i, i < len0 → (∀ (j : Nat) u, (f i).cells[j]? = some u → w.cell? ((a.add (i * 4)).add j) = some u) ∧ AcOk w (f i) ∧ WJ 57 (D i) (f i).b.length ∧ WJ 57 (D i) (f i).t.length :=
   ⟨fun i => if h : i < len0 then Classical.choose (hone i h) else ⟨0, [], 0, [], none, 0, none, 0⟩, fun i hlt => by simp only [hlt, dif_pos]; exact Classical.choose_spec (hone i hlt)⟩
  have hlen : ((List.range len0).map f).length = len0 := by simp
  have hat : ∀ (j : Nat) (s : AcJ), ((List.range len0).map f)[j]? = some s → j < len0 ∧ s = f j := by
   intro j s hj
   have hjl : j < len0 := by
    have := (List.getElem?_eq_some_iff.1 hj).1
    simpa using this
   exact ⟨hjl, by simpa [List.getElem?_map, List.getElem?_range, hjl, eq_comm] using hj⟩
  refine ⟨some a, (List.range len0).map f, _, by rw [hlen], fun hne => ?_, by rw [hlen]; omega, fun ts ds i hsz ht hd q hq => ?_⟩
  ·have h0 : 0 < len0 := by
    rcases Nat.eq_zero_or_pos len0 with h | h
    ·subst h
     exact absurd rfl hne
    ·exact h
   obtain ⟨h00, _⟩ := hf2 0 h0
   have h00 := h00 0 _ rfl
   have e : (a.add (0 * 4)).add 0 = a := by rw [Nat.zero_mul]; unfold Addr.add; split <;> simp_all
   rw [e] at h00
   obtain ⟨b, off, spot⟩ := a
   have hspot : spot = none := World.cell?_spot h00
   subst hspot
   refine ⟨b, off, rfl, World.block_lt_of_cell? _ _ h00, fun i s hi' => ?_⟩
   obtain ⟨hil, rfl⟩ := hat i s hi'
   obtain ⟨g0, g1, _⟩ := hf2 i hil
   refine ⟨fun j u hu => ?_, g1⟩
   have := g0 j u hu
   rwa [Go.WideShapes.add_plain, Go.WideShapes.add_plain] at this
  ·obtain ⟨j, hj, rfl⟩ := List.mem_map.1 hq
   obtain ⟨_, _, k1, k2⟩ := hf2 j (List.mem_range.1 hj)
   have hup : ∀ m ∈ (D j).weights Try.prog 57, m ∈ d.weights Try.prog 51 := fun m hm => by
    rw [hx1]
    exact weights_elem14 Try.underlying51 (List.mem_map.2 ⟨j, hj, rfl⟩) hm
   have hle : ∀ n, WJ 57 (D j) n → n ≤ 140737488355328 := fun n h => by
    rcases h with h | ⟨m, h1, h2⟩
    ·omega
    ·have h4 := List.all_eq_true.1 hsz m (weightsEach_mem14 ht hd (hup m h1))
     have h5 := reachBytes_lt
     simp only [decide_eq_true_eq] at h4
     omega
   exact ⟨hle _ k1, hle _ k2⟩
end
end SJ
end Go.Proofs.Ytddbmibfebhmjaa

namespace Go.Proofs.Ytddbmibfebhmjaa
open S2 SZ
namespace SJ
open Go.ChangeShapes Go.WideShapes Go.ChangeAt Go.RowKit
def totA (L : List AcJ) : Nat := (L.map fun q => q.b.length + q.t.length).sum
theorem totA_take {L : List AcJ} {k : Nat} {q : AcJ} (h : L[k]? = some q) : totA (L.take (k + 1)) = totA (L.take k) + (q.b.length + q.t.length) := by
 unfold totA
 rw [List.take_add_one, h]
 simp
theorem totA_bound {L : List AcJ} (hr : ∀ q ∈ L, q.b.length ≤ 140737488355328 ∧ q.t.length ≤ 140737488355328) (k : Nat) (hk : k ≤ L.length) : totA (L.take k) ≤ k * 281474976710656 := by
 induction k with
 | zero => simp [totA]
 | succ k ih =>
  have hlt : k < L.length := by omega
  obtain ⟨q, hq⟩ : ∃ q, L[k]? = some q := ⟨_, List.getElem?_eq_getElem hlt⟩
  have h1 := ih (by omega)
  have h2 := hr q (List.mem_of_getElem? hq)
  rw [totA_take hq]
  omega
theorem AcAt.at {w : World} {a : Option Addr} {L : List AcJ} (h : AcAt w a L) {k : Nat} {q : AcJ} (hq : L[k]? = some q) : ∃ g o, a = some ⟨g, o, none⟩ ∧ g < w.heap.size ∧ w.rangeAt g (o + k * 4) q.cells ∧ AcOk w q := by
 obtain ⟨g, o, ha, hg, hr⟩ := h (by rintro rfl; simp at hq)
 exact ⟨g, o, ha, hg, hr k q hq⟩
theorem AcJ.four {w : World} {g o : Nat} {q : AcJ} (h : w.rangeAt g o q.cells) : w.cell? ⟨g, o, none⟩ = some (.int .i64 q.kind) ∧ w.cell? ⟨g, o + 1, none⟩ = some (.slice q.xa q.b.length q.xc) ∧ w.cell? ⟨g, o + 2, none⟩ = some (.int .i64 q.n) ∧ w.cell? ⟨g, o + 3, none⟩ = some (.slice q.ta q.t.length q.tc) :=
 ⟨h 0 _ rfl, h 1 _ rfl, h 2 _ rfl, h 3 _ rfl⟩
theorem small15_any (w : World) (a : Option Addr) (L : List AcJ) (cap : Nat) (h : AcAt w a L) (hr : ∀ q ∈ L, q.b.length ≤ 140737488355328 ∧ q.t.length ≤ 140737488355328) :
  Calls Try.prog 25 #[.slice a L.length cap] w fun e w' => e = .returned (.bool (decide (L.length ≤ 50 ∧ totA L ≤ 8000))) ∧ Keeps (fun _ => False) w w' := by
 have HA := Lib.hid h
 have HR := Lib.hid hr
 clear h hr
 go_enter Try.func25, Try.ntmps25
 go_wp2
 go_loopw [3, 4] (fun s i wr => ∃ k : Nat, k ≤ L.length ∧ k ≤ 51 ∧ i = .int .i64 k ∧ s = .int .i64 (totA (L.take k)) ∧ Keeps (fun _ => False) w wr) (fun _ i _ => L.length - (RowKit.intOf i).toNat)
 case atStart => exact ⟨0, Nat.zero_le _, by decide, rfl, rfl, Keeps.refl _ _⟩
 case round =>
  obtain ⟨k, hk, hk61, rfl, rfl, hkp⟩ := hrel
  have hbk := totA_bound HR.out k hk
  by_cases hlt : k < L.length
  ·by_cases h60 : k ≤ 50
   ·obtain ⟨q, hq⟩ : ∃ q, L[k]? = some q := ⟨_, List.getElem?_eq_getElem hlt⟩
    obtain ⟨g, o, rfl, hgq, hrg, _⟩ := HA.out.at hq
    obtain ⟨c0, c1, c2, c3⟩ := AcJ.four hrg
    have d1 := hkp.cell (fun h => h) c1
    have d3 := hkp.cell (fun h => h) c3
    have htk := totA_take hq
    have hbd := totA_bound HR.out (k + 1) hlt
    have hw1 : wrap64 ((totA (L.take k) : Int) + (q.b.length : Int)) = ((totA (L.take k) + q.b.length : Nat) : Int) := by unfold wrap64; omega
    have hw2 : wrap64 ((totA (L.take k) : Int) + (q.b.length : Int) + (q.t.length : Int)) = (totA (L.take (k + 1)) : Int) := by unfold wrap64; omega
    have e1 : decide ((k : Int) < (L.length : Int)) = true := decide_eq_true (by omega)
    have e2 : (k : Int) ≤ 50 := by omega
    have e3 : (k : Int) < (L.length : Int) := by omega
    have HW2 := Lib.hid hw2
    have HKP := Lib.hid hkp
    clear hq hrg hbk htk hbd c0 c1 c2 c3 hgq hkp
    go_wp2_with fail
    go_region
    go_wp2
    go_roundw
    case rel => exact ⟨k + 1, hlt, by omega, by go_num, by rw [HW2.out], HKP.out.then (Keeps.drew _ _)⟩
    case measure => simp [RowKit.intOf]; omega
   ·have d1 : decide ((k : Int) < (L.length : Int)) = true := decide_eq_true (by omega)
    have d2 : ¬ (k : Int) ≤ 50 := by omega
    have d3 : ¬ (L.length : Int) ≤ 50 := by omega
    clear hbk
    go_wp2
    go_ret
    first | exact ⟨rfl, hkp⟩ | exact ⟨by rw [decide_eq_false (by omega)]; rfl, hkp⟩
  ·obtain rfl : k = L.length := by omega
   have d1 : decide ((L.length : Int) < (L.length : Int)) = false := decide_eq_false (by omega)
   rw [List.take_length] at hbk ⊢
   by_cases h50 : L.length ≤ 50
   ·have d3 : (L.length : Int) ≤ 50 := by omega
    by_cases h8 : totA L ≤ 8000
    ·have d4 : (totA L : Int) ≤ 8000 := by omega
     clear hbk
     go_wp2
     go_ret
     first | exact ⟨rfl, hkp⟩ | exact ⟨by rw [decide_eq_true ⟨h50, h8⟩]; rfl, hkp⟩
    ·have d4 : ¬ (totA L : Int) ≤ 8000 := by omega
     clear hbk
     go_wp2
     go_ret
     first | exact ⟨rfl, hkp⟩ | exact ⟨by rw [decide_eq_false (by omega)]; rfl, hkp⟩
   ·have d3 : ¬ (L.length : Int) ≤ 50 := by omega
    clear hbk
    go_wp2
    go_ret
    first | exact ⟨rfl, hkp⟩ | exact ⟨by rw [decide_eq_false (by omega)]; rfl, hkp⟩
end SJ
end Go.Proofs.Ytddbmibfebhmjaa

namespace Go.Proofs.Ytddbmibfebhmjaa
open S2 SZ
namespace SJ
open Go.RowKit
structure StJ (size : Int) (D : Dm) (J : Jp) (base : List UInt8) (all : List (List UInt8)) (safe : Nat) (mb : Bool) (next : List UInt8) (m : Nat) (k : Int) : Prop where
 st : (Hl D J base all safe ∧ mb = false) ∨ Dead D J base all safe (if mb = true then some next else none)
 lim : Lim D J m k
 size : J.size = size
 a0 : 0 ≤ J.added
 a1 : J.added ≤ m
section
variable {size : Int} {D : Dm} {J : Jp} {base : List UInt8} {all : List (List UInt8)} {safe : Nat} {mb : Bool} {next : List UInt8} {m : Nat} {k : Int}
theorem StJ.mono (h : StJ size D J base all safe mb next m k) {m' : Nat} {k' : Int} (hm : m ≤ m') (hk : k ≤ k') : StJ size D J base all safe mb next m' k' := ⟨h.st, h.lim.mono hm hk, h.size, h.a0, by have := h.a1; omega⟩
theorem StJ.ok (h : StJ size D J base all safe mb next m k) (hk : k ≤ 1001) (hm : m ≤ 1000000000000) : J.Ok := by
 have h1 := h.lim.f1
 have h2 := h.lim.f2
 have h3 := h.a0
 have h4 := h.a1
 exact ⟨by omega, by omega, h3, by omega⟩
theorem StJ.append (h : StJ size D J base all safe mb next m k) (hk : k ≤ 999) (hs : 1 ≤ size) {p : List UInt8} (hp : p.length ≤ 1048576) (hm : m + 13 + p.length ≤ 4194304) :
  ((appendJ D J p).1 = 0 ∧ StJ size (appendJ D J p).2.1 (appendJ D J p).2.2 base (all ++ [p]) safe mb next (m + (13 + p.length)) (k + 1)) ∨
  (((appendJ D J p).1 = 140 ∨ (appendJ D J p).1 = 150) ∧ StJ size (appendJ D J p).2.1 (appendJ D J p).2.2 base all safe mb next (m + (13 + p.length)) (k + 1)) := by
 rcases h.st with ⟨hh, hb⟩ | hd
 ·obtain ⟨hg, ho⟩ := append_hl hh h.lim hk (by rw [h.size]; exact hs) hp hm
  have ha := ho.a1
  have h4 := h.a1
  have hA : (appendJ D J p).2.2.added ≤ ((m + (13 + p.length) : Nat) : Int) := by omega
  rcases hg with ⟨q1, q2, _⟩ | ⟨_, q1, q2⟩
  ·exact .inl ⟨q1, .inl ⟨q2, hb⟩, ho.lim, ho.size.trans h.size, ho.a0, hA⟩
  ·exact .inr ⟨.inl q1, .inr (by rw [hb]; exact q2), ho.lim, ho.size.trans h.size, ho.a0, hA⟩
 ·have e : appendJ D J p = (150, D, J) := by unfold appendJ; rw [if_pos hd.brk]
  rw [e]
  exact .inr ⟨.inr rfl, h.mono (by omega) (by omega)⟩
theorem StJ.sync (h : StJ size D J base all safe mb next m k) (hk : k ≤ 999) :
  ((syncJ D J).1 = 0 ∧ StJ size (syncJ D J).2.1 (syncJ D J).2.2 base all all.length mb next m k) ∨
  ((syncJ D J).1 ≠ 0 ∧ StJ size (syncJ D J).2.1 (syncJ D J).2.2 base all safe mb next m k) := by
 rcases h.st with ⟨hh, hb⟩ | hd
 ·obtain ⟨hg, ho⟩ := sync_hl hh h.lim hk
  have ha := ho.a1
  have h4 := h.a1
  have hA : (syncJ D J).2.2.added ≤ (m : Int) := by omega
  rcases hg with ⟨q1, q2, _⟩ | ⟨_, q1, q2⟩
  ·exact .inl ⟨q1, .inl ⟨q2, hb⟩, ho.lim, ho.size.trans h.size, ho.a0, hA⟩
  ·exact .inr ⟨by rw [q1]; decide, .inr (by rw [hb]; exact q2), ho.lim, ho.size.trans h.size, ho.a0, hA⟩
 ·have e : syncJ D J = (150, D, J) := by unfold syncJ; rw [if_pos hd.brk]
  rw [e]
  exact .inr ⟨by show (150 : Int) ≠ 0; decide, h⟩
theorem StJ.rewrite (h : StJ size D J base all safe mb next m k) (hk : k ≤ 999) (hr : RisF D.l) (hn : ∀ f ∈ D.l, 1 ≤ f.n) {p : List UInt8} (hp : p.length ≤ 1048576) (hm : m + 13 + p.length ≤ 4194304) :
  ((rewriteJ D J p).1 = 0 ∧ StJ size (rewriteJ D J p).2.1 (rewriteJ D J p).2.2 p [] 0 mb next (m + (13 + p.length)) (k + 1)) ∨
  ((rewriteJ D J p).1 = 140 ∧ J.brk = false ∧ StJ size (rewriteJ D J p).2.1 (rewriteJ D J p).2.2 base all safe true p (m + (13 + p.length)) (k + 1)) ∨
  ((rewriteJ D J p).1 = 150 ∧ StJ size (rewriteJ D J p).2.1 (rewriteJ D J p).2.2 base all safe mb next (m + (13 + p.length)) (k + 1)) := by
 rcases h.st with ⟨hh, hb⟩ | hd
 ·obtain ⟨hg, ho⟩ := rewrite_hl hh h.lim hk hr hn hp hm
  have ha := ho.a1
  have h4 := h.a1
  have hA : (rewriteJ D J p).2.2.added ≤ ((m + (13 + p.length) : Nat) : Int) := by omega
  rcases hg with ⟨⟨q1, q2, _⟩, _⟩ | ⟨_, q1, q2⟩
  ·exact .inl ⟨q1, .inl ⟨q2, hb⟩, ho.lim, ho.size.trans h.size, ho.a0, hA⟩
  ·exact .inr (.inl ⟨q1, hh.brk, .inr (by rw [if_pos rfl]; exact q2), ho.lim, ho.size.trans h.size, ho.a0, hA⟩)
 ·have e : rewriteJ D J p = (150, D, J) := by unfold rewriteJ; rw [if_pos hd.brk]
  rw [e]
  exact .inr (.inr ⟨rfl, h.mono (by omega) (by omega)⟩)
theorem StJ.arm (h : StJ size D J base all safe mb next m k) (n : Int) : StJ size (armD D n) J base all safe mb next m k := by
 refine ⟨?_, ⟨h.lim.room, h.lim.sum, h.lim.num, h.lim.f1, h.lim.f2⟩, h.size, h.a0, h.a1⟩
 rcases h.st with ⟨hh, hb⟩ | hd
 ·refine .inl ⟨?_, hb⟩
  rcases hh with q | ⟨cl, o, rs, j, q⟩
  ·exact .inl ⟨q.off, q.brk, q.add, q.cl, q.tell, q.safe⟩
  ·exact .inr ⟨cl, o, rs, j, ⟨q.off, q.brk, q.pos, q.add, q.ll, q.ccl, q.fo, q.fr, q.jr, q.tell, q.safe⟩⟩
 ·exact .inr ⟨hd.off, hd.brk, hd.ok⟩
def Told (base : List UInt8) (all : List (List UInt8)) (safe : Nat) (mb : Bool) (next : List UInt8) (t : List UInt8 × List (List UInt8)) : Prop :=
 (t.1 = base ∧ safe ≤ t.2.length ∧ t.2.length ≤ all.length ∧ t.2 = all.take t.2.length) ∨ (mb = true ∧ t.1 = next ∧ t.2 = [])
theorem StJ.crash (h : StJ size D J base all safe mb next m k) (hk : k ≤ 999) (hr : RisF D.l) (hs : ∀ f ∈ D.l, f.s ≤ f.b.length) (hn : ∀ f ∈ D.l, 1 ≤ f.n) {T : List Tl} (hT : Flat0 T) :
  Told base all safe mb next (tellD (crashD D T).l) ∧ (∀ next', StJ size (crashD D T) ⟨size, nextN (crashD D T), 0, false⟩ (tellD (crashD D T).l).1 (tellD (crashD D T).l).2 (tellD (crashD D T).l).2.length false next' m (k + 1)) ∧ nextN (crashD D T) ≤ k + 1 := by
 have hk0 : 0 ≤ k := by have := h.lim.f1; have := h.lim.f2; omega
 obtain ⟨h1, h2⟩ := open_hl (D := D) (T := T) (size := size) (k := k) (m := m) hr hs (fun f hf => ⟨hn f hf, h.lim.num f hf⟩) hk0 h.lim.room h.lim.sum
 refine ⟨?_, fun next' => ⟨.inl ⟨h1, rfl⟩, h2, rfl, Int.le_refl _, by show (0 : Int) ≤ m; omega⟩, h2.f2⟩
 have key : (∃ j, safe ≤ j ∧ j ≤ all.length ∧ tellD (crashD D T).l = (base, all.take j)) ∨ (mb = true ∧ tellD (crashD D T).l = (next, [])) := by
  rw [crashD_l]
  rcases h.st with ⟨hh, hb⟩ | hd
  ·rcases hh.crash none T hT with q | ⟨x, hx, _⟩
   ·exact .inl q
   ·cases hx
  ·rcases hd.ok T hT with q | ⟨x, hx, q⟩
   ·exact .inl q
   ·split at hx
    ·next hm =>
     cases hx
     exact .inr ⟨hm, q⟩
    ·cases hx
 rcases key with ⟨j, q1, q2, q3⟩ | ⟨q1, q2⟩
 ·rw [q3]
  have e : (all.take j).length = j := by rw [List.length_take]; omega
  exact .inl ⟨rfl, by show safe ≤ (all.take j).length; omega, by show (all.take j).length ≤ _; omega, by show all.take j = all.take (all.take j).length; rw [e]⟩
 ·rw [q2]
  exact .inr ⟨q1, rfl, rfl⟩
theorem stJ_new (size : Int) : StJ size (newD 4194304) ⟨size, 1, 0, false⟩ [] [] 0 false [] 0 1 := ⟨.inl ⟨(hl_new size).1, rfl⟩, (hl_new size).2, rfl, Int.le_refl _, Int.le_refl _⟩
end

def PayS (n0 : Nat) (x : World) (S : Nat → Prop) (jb : Nat) (v : Value) (l : List UInt8) : Prop := ∃ g, Bw x g v l ∧ (l ≠ [] → g < x.heap.size ∧ ¬ S g ∧ g ≠ jb ∧ (g < n0 ∨ ∃ C p, x.heap[g]? = some (.cells C 5 p)))
def AllS (n0 : Nat) (x : World) (S : Nat → Prop) (jb : Nat) (v : Value) (L : List (List UInt8)) : Prop :=
 ∃ vs : List Value, x.ownsRow n0 39 1 v L.length vs ∧ (∀ g, v.ownBlock = some g → ¬ S g ∧ g ≠ jb) ∧ ∀ (i : Nat) l, L[i]? = some l → ∃ u, vs[i]? = some u ∧ PayS n0 x S jb u l
section
variable {n0 : Nat} {w x y : World} {b jb : Nat} {S S' : Nat → Prop} {D : Dm} {J : Jp}
theorem JStep.quiet (h : Keeps (fun _ => False) x y) : JStep S jb x y S := ⟨h.mono fun _ _ h => h.elim, fun _ h => .inl h⟩
theorem PayS.step {v : Value} {l : List UInt8} (h : PayS n0 x S jb v l) (hs : JStep S jb x y S') : PayS n0 y S' jb v l := by
 obtain ⟨g, hb, hg⟩ := h
 refine ⟨g, hb.keep hs.k fun hne e => ?_, fun hne => ?_⟩
 ·obtain ⟨_, h2, h3, _⟩ := hg hne
  rcases e with e | e
  ·exact h2 e
  ·exact h3 e
 ·obtain ⟨h1, h2, h3, h4⟩ := hg hne
  exact ⟨Nat.lt_of_lt_of_le h1 hs.k.size, (fun hs' => (hs.s g hs').elim h2 fun h => by omega), h3, h4.imp id fun ⟨C, p, hc⟩ => ⟨C, p, (hs.k.block g h1 fun e => e.elim h2 h3).trans hc⟩⟩
theorem AllS.step {v : Value} {L : List (List UInt8)} (h : AllS n0 x S jb v L) (hs : JStep S jb x y S') : AllS n0 y S' jb v L := by
 obtain ⟨vs, h1, h2, h3⟩ := h
 refine ⟨vs, ownsRow_of h1 fun g hg => ?_, fun g hg => ?_, fun i l hl => ?_⟩
 ·obtain ⟨_, C, hc⟩ := ownsRow_at h1 hg
  obtain ⟨q1, q2⟩ := h2 g hg
  exact hs.k.block g (Array.getElem?_eq_some_iff.1 hc).1 fun e => e.elim q1 q2
 ·obtain ⟨_, C, hc⟩ := ownsRow_at h1 hg
  have hlt := (Array.getElem?_eq_some_iff.1 hc).1
  obtain ⟨q1, q2⟩ := h2 g hg
  exact ⟨fun hs' => (hs.s g hs').elim q1 fun h => by omega, q2⟩
 ·obtain ⟨u, hu, hp⟩ := h3 i l hl
  exact ⟨u, hu, hp.step hs⟩
theorem PayS.nil (x : World) (S : Nat → Prop) (jb : Nat) : PayS n0 x S jb (.slice none 0 0) [] := ⟨0, ⟨none, 0, rfl, fun _ => ⟨rfl, rfl⟩, Nat.zero_le _, fun h => absurd rfl h⟩, fun h => absurd rfl h⟩
theorem AllS.nil (x : World) (S : Nat → Prop) (jb : Nat) : AllS n0 x S jb (.slice none 0 0) [] := ⟨[], World.ownsRow_nil _ _ _ _, (fun g h => by cases h), fun i l h => by simp at h⟩
theorem PayS.form {v : Value} {l : List UInt8} (h : PayS n0 x S jb v l) : ∃ a c, v = .slice a l.length c := by
 obtain ⟨g, hb, _⟩ := h
 exact bw_form15 hb
theorem AllS.form {v : Value} {L : List (List UInt8)} (h : AllS n0 x S jb v L) : ∃ a c, v = .slice a L.length c ∧ L.length ≤ c := by
 obtain ⟨vs, ⟨_, ⟨hv, hn⟩ | ⟨g, cap, cur, hv, hg, hh, hc, hm, hs, ht⟩⟩, _⟩ := h
 ·exact ⟨none, 0, by rw [hv, hn], by omega⟩
 ·exact ⟨_, _, hv, by omega⟩
theorem PayS.given (h : JL w x b jb S D J) {v : Value} {l : List UInt8} {g : Nat} (hb : Bw w g v l) (hg : l ≠ [] → g < w.heap.size) : PayS w.heap.size x S jb v l :=
 ⟨g, bw_of_block hb (fun hne => h.liv.bel.block g (hg hne)), fun hne => ⟨Nat.lt_of_lt_of_le (hg hne) h.liv.bel.size, (h.away15 (hg hne)).1, (h.away15 (hg hne)).2, .inl (hg hne)⟩⟩
theorem PayAt.pays {n1 : Nat} (h : JL w x b jb S D J) (hS : ∀ k, S k → k < n1) {v : Value} {l : List UInt8} (hp : PayAt n1 x v l) : PayS n0 x S jb v l := by
 obtain ⟨a, c, g, _, hb, ht⟩ := hp
 refine ⟨g, hb, fun hne => ?_⟩
 obtain ⟨h1, C, p, hc⟩ := ht hne
 refine ⟨lt_of_block hc, (fun hs => by have := hS g hs; omega), (fun e => ?_), .inr ⟨C, p, hc⟩⟩
 have hj := h.j
 unfold JAt at hj
 rw [e, hj] at hc
 cases hc
theorem RecsP.alls {n1 : Nat} (h : JL w x b jb S D J) (hn : n0 ≤ n1) (hS : ∀ k, S k → k < n1) {v : Value} {L : List (List UInt8)} (hp : RecsP n1 x v L) : AllS n0 x S jb v L := by
 obtain ⟨vs, h1, h2⟩ := hp
 refine ⟨vs, ⟨h1.1, ?_⟩, fun g hg => ?_, fun i l hl => ?_⟩
 ·rcases h1.2 with q | ⟨g, cap, cur, q1, q2, q3⟩
  ·exact .inl q
  ·exact .inr ⟨g, cap, cur, q1, Nat.le_trans hn q2, q3⟩
 ·obtain ⟨q1, C, hc⟩ := ownsRow_at h1 hg
  refine ⟨(fun hs => by have := hS g hs; omega), fun e => ?_⟩
  have hj := h.j
  unfold JAt at hj
  rw [e, hj] at hc
  cases hc
 ·obtain ⟨u, hu, hq⟩ := h2 i l hl
  exact ⟨u, hu, hq.pays h hS⟩
theorem AllS.bl {v : Value} {L : List (List UInt8)} (h : AllS n0 x S jb v L) : Bl x (fun _ => True) v L := by
 obtain ⟨vs, ⟨hl, ⟨hv, hn⟩ | ⟨g, cap, cur, hv, hg, hh, hc, hm, hs, ht⟩⟩, _, h2⟩ := h
 ·have : L = [] := List.eq_nil_of_length_eq_zero hn
  subst this
  exact ⟨none, 0, hv, fun h => absurd rfl h⟩
 ·refine ⟨_, cap, hv, fun hne => ⟨g, 0, rfl, trivial, lt_of_block hh, fun i l hl' => ?_⟩⟩
  obtain ⟨u, hu, gx, hb, htt⟩ := h2 i l hl'
  obtain ⟨a, c, rfl⟩ := bw_form15 hb
  refine ⟨a, c, gx, ?_, hb, fun _ => trivial⟩
  rw [blk_cellp hh, Nat.zero_add]
  rw [← ht] at hu
  rw [List.getElem?_take] at hu
  split at hu
  ·simpa using hu
  ·cases hu
theorem bl_take15 {T : Nat → Prop} {a : Option Addr} {n c k : Nat} {L : List (List UInt8)} (h : Bl x T (.slice a n c) L) (hk : k ≤ L.length) : Bl x T (.slice a k c) (L.take k) := by
 obtain ⟨a', c', hv, hr⟩ := h
 simp only [Value.slice.injEq] at hv
 obtain ⟨rfl, rfl, rfl⟩ := hv
 refine ⟨a, c, by rw [List.length_take, Nat.min_eq_left hk], fun hne => ?_⟩
 obtain ⟨g, o, ha, hT, hg, hq⟩ := hr (fun e => hne (by rw [e]; simp))
 refine ⟨g, o, ha, hT, hg, fun i l hl => hq i l ?_⟩
 rw [List.getElem?_take] at hl
 split at hl
 ·exact hl
 ·cases hl
theorem JL.other (h : JL w x b jb S D J) {T : Nat → Prop} (hk : Keeps T x y) (hT : ∀ k, T k → ¬ S k ∧ k ≠ jb ∧ w.heap.size ≤ k) : JL w y b jb S D J :=
 ⟨h.liv.away hk (fun k hs e => (hT k e).1 hs) (fun k e => (hT k e).2.2), h.j.keep hk (fun e => (hT jb e).2.1 rfl), h.nS, h.wj⟩
theorem JL.armed (h : JL w x b jb S D J) {D' : Dm} (hk : Keeps S x y) (hl : Liv w y b S D') : JStep S jb x y S ∧ JL w y b jb S D' J :=
 ⟨⟨hk.mono fun _ _ h => .inl h, fun _ h => .inl h⟩, hl, h.j.keep hk h.nS, h.nS, h.wj⟩
theorem PayS.reopen {jb' : Nat} {v : Value} {l : List UInt8} (h : PayS n0 x S jb v l) (hk : Keeps (fun _ => False) x y) (hj : x.heap.size ≤ jb') : PayS n0 y S jb' v l := by
 obtain ⟨g, hb, hg⟩ := h
 refine ⟨g, hb.keep hk (fun _ h => h), fun hne => ?_⟩
 obtain ⟨q1, q2, q3, q4⟩ := hg hne
 exact ⟨Nat.lt_of_lt_of_le q1 hk.size, q2, by omega, q4.imp id fun ⟨C, p, hc⟩ => ⟨C, p, (hk.block g q1 (fun h => h)).trans hc⟩⟩
theorem alls_app {v u : Value} {L : List (List UInt8)} {l : List UInt8} (h : AllS n0 x S jb v L) (hu : PayS n0 x S jb u l) (hn : n0 ≤ x.heap.size) (hS : ∀ k, S k → k < x.heap.size) (hjb : jb < x.heap.size) (hlen : L.length ≤ 10000000) (ty : TypeId) :
  ∃ v' w1, (Builtin.append_ #[32, 32] ty #[v, .slice (some ⟨x.heap.size, 0, none⟩) 1 1]).run Try.prog (x.alloc (.cells #[u] 39)) = .ok v' w1 ∧ AllS n0 w1 S jb v' (L ++ [l]) ∧ Keeps (fun k => v.ownBlock = some k) x w1 ∧ (∀ k, v.ownBlock = some k → ¬ S k ∧ k ≠ jb ∧ n0 ≤ k) ∧ ∀ u l, PayS n0 x S jb u l → PayS n0 w1 S jb u l := by
 obtain ⟨vs, h1, h2, h3⟩ := h
 obtain ⟨i0, hi, hz0, hz1, hz2⟩ := info_parts info_bytes15
 have hk : Keeps (fun _ => False) x (x.alloc (.cells #[u] 39)) := Keeps.alloc _ _ _
 have hown : (x.alloc (.cells #[u] 39)).ownsRow n0 39 1 v L.length vs := ownsRow_of h1 fun g hg => by
  obtain ⟨_, C, hc⟩ := ownsRow_at h1 hg
  exact hk.block g (Array.getElem?_eq_some_iff.1 hc).1 (fun h => h)
 obtain ⟨a, c, hv⟩ := hu.form
 obtain ⟨v', w1, hrun, r1, r2, r3, r4⟩ := run_append_own_at (P := Try.prog) (x.alloc (.cells #[u] 39)) n0 32 ty 39 i0 (.slice none 0 0) 1 24 Try.underlying32 hi hz0 hz1 hz2 rfl (by decide) v L.length vs hown ⟨x.heap.size, 0, none⟩ 1 1 [u] rfl
  (fun j x hx => by
   match j, hx with
   | 0, hx =>
    simp at hx
    subst hx
    rw [add_plain]
    exact cell_of_one (heap_alloc_new _ _)) (fun x hx => by simp at hx; subst hx; rw [hv]; rfl) (by unfold maxLen; omega) (by omega) (by rw [World.size_alloc]; omega)
 rw [World.size_alloc] at r4
 have hkk : Keeps (fun k => v.ownBlock = some k) x w1 := (hk.mono fun _ _ h => h.elim).then (S2.Keeps.grown r2 (fun x _ e => e))
 have hpay : ∀ u l, PayS n0 x S jb u l → PayS n0 w1 S jb u l := by
  rintro u l ⟨g, hb, hg⟩
  have hne2 : l ≠ [] → ¬ v.ownBlock = some g := fun hne e => by
   obtain ⟨_, _, _, q⟩ := hg hne
   obtain ⟨q1, C, hc⟩ := ownsRow_at h1 e
   rcases q with q | ⟨C', p, hc'⟩
   ·omega
   ·rw [hc] at hc'
    cases hc'
  refine ⟨g, hb.keep hkk hne2, fun hne => ?_⟩
  obtain ⟨q1, q2, q3, q4⟩ := hg hne
  exact ⟨Nat.lt_of_lt_of_le q1 hkk.size, q2, q3, q4.imp id fun ⟨C, p, hc⟩ => ⟨C, p, (hkk.block g q1 (hne2 hne)).trans hc⟩⟩
 refine ⟨v', w1, hrun, ⟨vs ++ [u], by rw [List.length_append]; exact r1, fun g hg => ?_, fun i q hx => ?_⟩, hkk, (fun g hg => ⟨(h2 g hg).1, (h2 g hg).2, (ownsRow_at h1 hg).1⟩), hpay⟩
 ·rcases r4 with e | e
  ·exact h2 g (e ▸ hg)
  ·rw [e] at hg
   cases hg
   exact ⟨fun hs => by have := hS _ hs; omega, by omega⟩
 ·have hvl : vs.length = L.length := by have := h1.1; omega
  by_cases hi : i < L.length
  ·rw [List.getElem?_append_left hi] at hx
   obtain ⟨y, hy, hp⟩ := h3 i q hx
   exact ⟨y, by rw [List.getElem?_append_left (by omega)]; exact hy, hpay _ _ hp⟩
  ·have hi2 : i = L.length := by
    have := (List.getElem?_eq_some_iff.1 hx).1
    simp at this
    omega
   subst hi2
   simp at hx
   subst hx
   exact ⟨u, by rw [← hvl]; simp, hpay _ _ hu⟩
end
end SJ
end Go.Proofs.Ytddbmibfebhmjaa

namespace Go.Proofs.Ytddbmibfebhmjaa
open S2 SZ
namespace SJ
open Go.ChangeShapes Go.WideShapes Go.ChangeAt Go.RowKit
theorem wpList_run15 {P : Program} {w w' : World} {ops : Array Oper} {rest : List Oper} {o : Oper} {a : Act} {Q : Exit → Act → World → Prop} (hg : o.guard = none) (s x : Operand) (t : TypeId)
  (hop : o.op = Op.call { callee := Callee.builtin Builtin.append, args := #[s, x], argTypes := #[t, t] }) {v xv v' : Value} (hs : a.eval s = v) (hx : a.eval x = xv) (hrun : (Builtin.append_ #[t, t] o.type #[v, xv]).run P w = .ok v' w')
  (hK : wpList P ops Q rest (a.put o.dst v') w') : wpList P ops Q (o :: rest) a w := by
 refine wpList_plain hg fun K hK' => ?_
 unfold Oper.wp
 simp [execOp, hop, resolve, invoke, builtin, hs, hx, hrun, Result.andThen]
 exact hK' _ _ hK
theorem below15 {x y : World} (h : Keeps (fun _ => False) x y) : Below x.heap.size x y := h.below (Nat.le_refl _) (fun _ _ h => h)
theorem PayS.str {n0 : Nat} {x : World} {S : Nat → Prop} {jb : Nat} {v : Value} {l : List UInt8} (h : PayS n0 x S jb v l) : (convert 39 9 v).run Try.prog x = .ok (.string ⟨l.toArray⟩) x := by
 obtain ⟨g, hb, _⟩ := h
 obtain ⟨a, c, rfl⟩ := bw_form15 hb
 exact bw_str15 hb
theorem totA_mem {L : List AcJ} {k : Nat} {q : AcJ} (h : L[k]? = some q) : totA (L.take k) + (q.b.length + q.t.length) ≤ totA L := by
 rw [← totA_take h]
 unfold totA
 conv => rhs; rw [← List.take_append_drop (k + 1) L]
 rw [List.map_append, List.sum_append]
 omega
theorem journalSafe_walk (size : Int) (a : Option Addr) (L : List AcJ) (cap : Nat) (w : World) (hA : AcAt w a L) (hr : ∀ q ∈ L, q.b.length ≤ 140737488355328 ∧ q.t.length ≤ 140737488355328) :
  Calls Try.prog 4 #[.int .i64 size, .slice a L.length cap] w fun e w' => e = .returned (.bool true) ∧ Below w.heap.size w w' := by
 have hlive := fun W => live15_any W
 have HLIVE := Lib.hid hlive
 have hsm := small15_any w a L cap hA hr
 have HA := Lib.hid hA
 clear hA hr hlive
 by_cases hs1 : L.length ≤ 50 ∧ totA L ≤ 8000
 rotate_left
 ·rw [decide_eq_false hs1] at hsm
  have HSM := Lib.hid hsm
  clear hsm hs1
  go_enter Try.func4, Try.ntmps4
  go_wp2_with (first
   | (go_at_call 25; refine HSM.out.mono ?_; rintro e w0 ⟨rfl, hk0⟩; have HK0 := Lib.hid hk0; clear hk0)
   | (go_at_call 26; refine (HLIVE.out _).mono ?_; rintro e wl ⟨rfl, hb⟩; have HBB := Lib.hid hb; clear hb)
   | fail)
  go_ret
  exact ⟨rfl, (below15 HK0.out).trans (HBB.out.mono HK0.out.size)⟩
 rw [decide_eq_true hs1] at hsm
 have HSM := Lib.hid hsm
 clear hsm
 obtain ⟨h50, h8⟩ := hs1
 by_cases h3 : size < 1
 ·go_enter Try.func4, Try.ntmps4
  go_wp2_with (first
   | (go_at_call 25; refine HSM.out.mono ?_; rintro e w0 ⟨rfl, hk0⟩; have HK0 := Lib.hid hk0; clear hk0)
   | (go_at_call 26; refine (HLIVE.out _).mono ?_; rintro e wl ⟨rfl, hb⟩; have HBB := Lib.hid hb; clear hb)
   | fail)
  go_ret
  exact ⟨rfl, (below15 HK0.out).trans (HBB.out.mono HK0.out.size)⟩
 have d5 : decide (size < 1) = false := decide_eq_false h3
 by_cases h4 : 10000 < size
 ·go_enter Try.func4, Try.ntmps4
  go_wp2_with (first
   | (go_at_call 25; refine HSM.out.mono ?_; rintro e w0 ⟨rfl, hk0⟩; have HK0 := Lib.hid hk0; clear hk0)
   | (go_at_call 26; refine (HLIVE.out _).mono ?_; rintro e wl ⟨rfl, hb⟩; have HBB := Lib.hid hb; clear hb)
   | fail)
  go_ret
  exact ⟨rfl, (below15 HK0.out).trans (HBB.out.mono HK0.out.size)⟩
 have d6 : decide (10000 < size) = false := decide_eq_false h4
 go_enter Try.func4, Try.ntmps4
 go_wp2_with (first
  | (go_at_call 25; refine HSM.out.mono ?_; rintro e w0 ⟨rfl, hk0⟩; have HK0 := Lib.hid hk0; clear hk0)
  | (go_at_call 27; refine (num15_any _ _).mono ?_; rintro e w' ⟨rfl, rfl⟩)
  | (go_at_call 10; refine (new_good 4194304 (by decide) (by decide) _).mono ?_; intro e w1 hn; obtain ⟨b, rfl, hb0, hk1, hp1⟩ := Liv.new (below15 HK0.out) hn; have HL := Lib.hid hp1; clear hb0 hk1 hp1 hn)
  | fail)
 refine (open_ok HL.out rfl size (by omega) (by omega) (by decide)).mono ?_
 rintro e w2 ⟨jb, vb, vr, rfl, _, _, _, _, hj⟩
 obtain ⟨S2, hj2⟩ : ∃ S2, JL w w2 b jb S2 (newD 4194304) ⟨size, 1, 0, false⟩ := ⟨_, hj⟩
 have HJ := Lib.hid hj2
 clear hj hj2 HL
 go_wp2_with (first
  | (go_at_call 27; refine (num15_any _ _).mono ?_; rintro e w' ⟨rfl, rfl⟩)
  | fail)
 go_loopw [7, 11, 12, 13, 14, 15, 16] (fun vj vb vn va vs vm vi wr => ∃ k : Nat, k ≤ L.length ∧ vi = .int .i64 k ∧ ∃ jb S D J base all safe mb next, vj = .pointer (some ⟨jb, 0, none⟩) ∧ vs = .int .i64 (safe : Nat) ∧ vm = .bool mb ∧ JL w wr b jb S D J ∧ PayS w.heap.size wr S jb vb base ∧ PayS w.heap.size wr S jb vn next ∧ AllS w.heap.size wr S jb va all ∧ StJ size D J base all safe mb next (13 * k + totA (L.take k)) (1 + k) ∧ D.done ≤ 1100 * k ∧ all.length ≤ k) (fun _ _ _ _ _ _ i _ => L.length - (RowKit.intOf i).toNat)
 case atStart => exact ⟨0, Nat.zero_le _, rfl, jb, S2, _, _, [], [], 0, false, [], rfl, rfl, rfl, HJ.out, PayS.nil _ _ _, PayS.nil _ _ _, AllS.nil _ _ _, stJ_new size, Nat.le_refl _, Nat.le_refl _⟩
 case round =>
  clear HJ
  obtain ⟨k, hk, rfl, jb, S, D, J, base, all, safe, mb, next, rfl, rfl, rfl, hj, hpb, hpn, hpa, hst, hdn, hln⟩ := hrel
  by_cases hlt : k < L.length
  ·obtain ⟨q, hq⟩ : ∃ q, L[k]? = some q := ⟨_, List.getElem?_eq_getElem hlt⟩
   obtain ⟨g, o, rfl, hgq, hrg, hok⟩ := HA.out.at hq
   have hrg2 : wr.rangeAt g (o + k * 4) q.cells := fun j v hv => S3.cell_in hj.liv.bel hgq (hrg j v hv)
   obtain ⟨c0, c1, c2, c3⟩ := AcJ.four hrg2
   have htm := totA_mem hq
   have htk := totA_take hq
   have hlt' : (k : Int) < (L.length : Int) := by omega
   have hk49 : k ≤ 49 := by omega
   obtain ⟨gx, hbx0, hgx⟩ := hok.bw
   have hal : Keeps (fun _ => False) wr (wr.alloc (.cells #[.int .i64 q.kind, .slice q.xa q.b.length q.xc, .int .i64 q.n, .slice q.ta q.t.length q.tc] 57)) := Keeps.alloc _ _ _
   obtain ⟨hs0, hj0⟩ := hj.keep hal
   have hpb0 := hpb.step hs0
   have hpn0 := hpn.step hs0
   have hpa0 := hpa.step hs0
   have hnb : wr.heap.size < (wr.alloc (.cells #[.int .i64 q.kind, .slice q.xa q.b.length q.xc, .int .i64 q.n, .slice q.ta q.t.length q.tc] 57)).heap.size := by rw [World.size_alloc]; omega
   have hfr := hj.fresh (g := wr.heap.size) (Nat.le_refl _)
   have HV : Hid (∀ y S', JStep S jb (wr.alloc (.cells #[.int .i64 q.kind, .slice q.xa q.b.length q.xc, .int .i64 q.n, .slice q.ta q.t.length q.tc] 57)) y S' → y.cell? ⟨wr.heap.size, 1, none⟩ = some (.slice q.xa q.b.length q.xc) ∧ y.cell? ⟨wr.heap.size, 3, none⟩ = some (.slice q.ta q.t.length q.tc)) := Lib.hid fun y S' h => by
    have hb := (h.k.block wr.heap.size hnb fun e => e.elim hfr.1 hfr.2).trans (heap_alloc_new wr _)
    exact ⟨blk_cell hb 1, blk_cell hb 3⟩
   have HGV : Hid (∀ {y S D J}, JL w y b jb S D J → PayS w.heap.size y S jb (.slice q.xa q.b.length q.xc) q.b) := Lib.hid fun h => PayS.given h hbx0 hgx
   have hbx1 := bw_of_block hbx0 (fun hne => hj0.liv.bel.block gx (hgx hne))
   have hje : J.Ok := hst.ok (by omega) (by omega)
   have hgd := hj0.liv.p.good
   have hlen1 := hgd.len
   have HJ0 := Lib.hid hj0
   have HPB0 := Lib.hid hpb0
   have HPN0 := Lib.hid hpn0
   have HPA0 := Lib.hid hpa0
   obtain ⟨ba, bc, rfl⟩ := hpb.form
   obtain ⟨na, nc, rfl⟩ := hpn.form
   obtain ⟨aa, ac, rfl, hac⟩ := hpa.form
   have HQ := Lib.hid hq
   have HOK := Lib.hid hok
   have HNB := Lib.hid hnb
   clear hq hrg hrg2 hok hpb hpn hpa hs0 hpb0 hpn0 hpa0 hnb hfr hal
   by_cases k0 : q.kind = 0
   ·as_aux_lemma =>
    have kk : (q.kind == 0) = true := by rw [k0]; rfl
    clear k0
    have hp := hj0.put hje (by omega) (Keeps.refl _ _) (n := q.b.length) rfl hbx1 (fun hne => hj0.away15 (hgx hne))
    have hap := hst.append (by omega) (by omega) (p := q.b) (by omega) (by omega)
    have hdd := appendJ_done D J q.b
    generalize appendJ D J q.b = R at *
    obtain ⟨e, D1, J1⟩ := R
    have HP := Lib.hid hp
    dsimp only at hap hdd
    have hd1 : D1.done ≤ 1100 * (k + 1) := by omega
    rcases hap with ⟨rfl, hst1⟩ | ⟨he, hst1⟩
    ·have HST1 : Hid (StJ size D1 J1 base (all ++ [q.b]) safe mb next (13 * (k + 1) + totA (L.take (k + 1))) (1 + ((k + 1 : Nat) : Int))) := Lib.hid (hst1.mono (by omega) (by omega))
     have hln1 : (all ++ [q.b]).length ≤ k + 1 := by simp; omega
     clear hp hst1 hst hdd htm htk hdn hj hj0 hbx0 hbx1 hgd hlen1 hje hgx
     go_wp2_with (first
      | (go_at_call 29; refine HP.out.mono ?_; rintro r y1 ⟨rfl, T1, s1, j1⟩; have HS1 := Lib.hid s1; have HJ1 := Lib.hid j1; obtain ⟨v1, _⟩ := HV.out _ _ s1; obtain ⟨v', w1, hrun, ha1, hk1, hT1, hup⟩ := alls_app (HPA0.out.step s1) (HGV.out j1) j1.liv.bel.size j1.liv.lt j1.lt (by omega) 32; have HRUN := Lib.hid hrun; have HA1 := Lib.hid ha1; have HJ2 := Lib.hid (j1.other hk1 hT1); have HPB1 := Lib.hid (hup _ _ (HPB0.out.step s1)); have HPN1 := Lib.hid (hup _ _ (HPN0.out.step s1)); clear hrun ha1 hk1 hT1 hup s1 j1)
      | (go_at_call 27; refine (num15_any _ _).mono ?_; rintro e w' ⟨rfl, rfl⟩)
      | (at_builtin; refine wpList_run15 rfl _ _ 32 rfl rfl rfl HRUN.out ?_)
      | fail)
     go_roundw
     case rel => exact ⟨k + 1, hlt, by go_num, jb, T1, D1, J1, base, all ++ [q.b], safe, mb, next, rfl, rfl, rfl, HJ2.out, HPB1.out, HPN1.out, HA1.out, HST1.out, hd1, hln1⟩
     case measure => simp [RowKit.intOf]; omega
    ·have HST1 : Hid (StJ size D1 J1 base all safe mb next (13 * (k + 1) + totA (L.take (k + 1))) (1 + ((k + 1 : Nat) : Int))) := Lib.hid (hst1.mono (by omega) (by omega))
     have hln1 : all.length ≤ k + 1 := by omega
     clear hp hst1 hst hdd htm htk hdn hj hj0 hbx0 hbx1 hgd hlen1 hje hgx
     rcases he with rfl | rfl
     all_goals
      go_wp2_with (first
       | (go_at_call 29; refine HP.out.mono ?_; rintro r y1 ⟨rfl, T1, s1, j1⟩; have HS1 := Lib.hid s1; have HJ1 := Lib.hid j1; clear s1 j1)
       | (go_at_call 27; refine (num15_any _ _).mono ?_; rintro e w' ⟨rfl, rfl⟩)
       | fail)
      go_roundw
      case rel => exact ⟨k + 1, hlt, by go_num, jb, T1, D1, J1, base, all, safe, mb, next, rfl, rfl, rfl, HJ1.out, HPB0.out.step HS1.out, HPN0.out.step HS1.out, HPA0.out.step HS1.out, HST1.out, hd1, hln1⟩
      case measure => simp [RowKit.intOf]; omega
   have kk0 : (q.kind == 0) = false := by simpa using k0
   clear k0
   by_cases k1 : q.kind = 1
   ·as_aux_lemma =>
    have kk : (q.kind == 1) = true := by rw [k1]; rfl
    clear k1
    have hp := sync15_any hj0 (by omega)
    have hap := hst.sync (by omega)
    have hdd := syncJ_done D J
    generalize syncJ D J = R at *
    obtain ⟨e, D1, J1⟩ := R
    have HP := Lib.hid hp
    dsimp only at hap hdd
    have hd1 : D1.done ≤ 1100 * (k + 1) := by omega
    have hln1 : all.length ≤ k + 1 := by omega
    rcases hap with ⟨rfl, hst1⟩ | ⟨he, hst1⟩
    ·have HST1 : Hid (StJ size D1 J1 base all all.length mb next (13 * (k + 1) + totA (L.take (k + 1))) (1 + ((k + 1 : Nat) : Int))) := Lib.hid (hst1.mono (by omega) (by omega))
     clear hp hst1 hst hdd htm htk hdn hj hj0 hbx0 hbx1 hgd hlen1 hje hgx
     go_wp2_with (first
      | (go_at_call 30; refine HP.out.mono ?_; rintro r y1 ⟨rfl, T1, s1, j1⟩; have HS1 := Lib.hid s1; have HJ1 := Lib.hid j1; clear s1 j1)
      | (go_at_call 27; refine (num15_any _ _).mono ?_; rintro e w' ⟨rfl, rfl⟩)
      | fail)
     go_roundw
     case rel => exact ⟨k + 1, hlt, by go_num, jb, T1, D1, J1, base, all, all.length, mb, next, rfl, rfl, rfl, HJ1.out, HPB0.out.step HS1.out, HPN0.out.step HS1.out, HPA0.out.step HS1.out, HST1.out, hd1, hln1⟩
     case measure => simp [RowKit.intOf]; omega
    ·have HST1 : Hid (StJ size D1 J1 base all safe mb next (13 * (k + 1) + totA (L.take (k + 1))) (1 + ((k + 1 : Nat) : Int))) := Lib.hid (hst1.mono (by omega) (by omega))
     have hee : (e == 0) = false := by simpa using he
     clear hp hst1 hst hdd htm htk hdn hj hj0 hbx0 hbx1 hgd hlen1 hje hgx
     go_wp2_with (first
      | (go_at_call 30; refine HP.out.mono ?_; rintro r y1 ⟨rfl, T1, s1, j1⟩; have HS1 := Lib.hid s1; have HJ1 := Lib.hid j1; clear s1 j1)
      | (go_at_call 27; refine (num15_any _ _).mono ?_; rintro e w' ⟨rfl, rfl⟩)
      | fail)
     go_roundw
     case rel => exact ⟨k + 1, hlt, by go_num, jb, T1, D1, J1, base, all, safe, mb, next, rfl, rfl, rfl, HJ1.out, HPB0.out.step HS1.out, HPN0.out.step HS1.out, HPA0.out.step HS1.out, HST1.out, hd1, hln1⟩
     case measure => simp [RowKit.intOf]; omega
   have kk1 : (q.kind == 1) = false := by simpa using k1
   clear k1
   by_cases k2 : q.kind = 2
   ·as_aux_lemma =>
    have kk : (q.kind == 2) = true := by rw [k2]; rfl
    clear k2
    have hp := hj0.base hje (by omega) (Keeps.refl _ _) (n := q.b.length) rfl hbx1 (fun hne => hj0.away15 (hgx hne))
    have hap := hst.rewrite (by omega) hgd.ris (fun f hf => (hgd.num f hf).1) (p := q.b) (by omega) (by omega)
    have hdd := rewriteJ_done D J q.b
    have HBK := Lib.hid (broken_any hj0.j)
    generalize rewriteJ D J q.b = R at *
    obtain ⟨e, D1, J1⟩ := R
    have HP := Lib.hid hp
    dsimp only at hap hdd
    have hd1 : D1.done ≤ 1100 * (k + 1) := by omega
    have hln1 : all.length ≤ k + 1 := by omega
    rcases hap with ⟨rfl, hst1⟩ | ⟨rfl, hbrk, hst1⟩ | ⟨rfl, hst1⟩
    ·have HST1 : Hid (StJ size D1 J1 q.b [] 0 mb next (13 * (k + 1) + totA (L.take (k + 1))) (1 + ((k + 1 : Nat) : Int))) := Lib.hid (hst1.mono (by omega) (by omega))
     have hnil : ([] : List (List UInt8)).length ≤ k + 1 := by simp
     clear hp hst1 hst hdd htm htk hdn hj hj0 hbx0 hbx1 hgd hlen1 hje hgx
     go_wp2_with (first
      | (go_at_call 31; refine HBK.out.mono ?_; rintro r y0 ⟨rfl, rfl⟩)
      | (go_at_call 32; refine HP.out.mono ?_; rintro r y1 ⟨rfl, T1, s1, j1⟩; have HS1 := Lib.hid s1; have HJ1 := Lib.hid j1; obtain ⟨v1, _⟩ := HV.out _ _ s1; clear s1 j1)
      | (go_at_call 27; refine (num15_any _ _).mono ?_; rintro e w' ⟨rfl, rfl⟩)
      | fail)
     go_roundw
     case rel => exact ⟨k + 1, hlt, by go_num, jb, T1, D1, J1, q.b, [], 0, mb, next, rfl, rfl, rfl, HJ1.out, HGV.out HJ1.out, HPN0.out.step HS1.out, AllS.nil _ _ _, HST1.out, hd1, hnil⟩
     case measure => simp [RowKit.intOf]; omega
    ·have HST1 : Hid (StJ size D1 J1 base all safe true q.b (13 * (k + 1) + totA (L.take (k + 1))) (1 + ((k + 1 : Nat) : Int))) := Lib.hid (hst1.mono (by omega) (by omega))
     rw [hbrk] at HBK
     clear hp hst1 hst hdd htm htk hdn hj hj0 hbx0 hbx1 hgd hlen1 hje hgx
     go_wp2_with (first
      | (go_at_call 31; refine HBK.out.mono ?_; rintro r y0 ⟨rfl, rfl⟩)
      | (go_at_call 32; refine HP.out.mono ?_; rintro r y1 ⟨rfl, T1, s1, j1⟩; have HS1 := Lib.hid s1; have HJ1 := Lib.hid j1; obtain ⟨v1, _⟩ := HV.out _ _ s1; clear s1 j1)
      | (go_at_call 27; refine (num15_any _ _).mono ?_; rintro e w' ⟨rfl, rfl⟩)
      | fail)
     go_roundw
     case rel => exact ⟨k + 1, hlt, by go_num, jb, T1, D1, J1, base, all, safe, true, q.b, rfl, rfl, rfl, HJ1.out, HPB0.out.step HS1.out, HGV.out HJ1.out, HPA0.out.step HS1.out, HST1.out, hd1, hln1⟩
     case measure => simp [RowKit.intOf]; omega
    ·have HST1 : Hid (StJ size D1 J1 base all safe mb next (13 * (k + 1) + totA (L.take (k + 1))) (1 + ((k + 1 : Nat) : Int))) := Lib.hid (hst1.mono (by omega) (by omega))
     clear hp hst1 hst hdd htm htk hdn hj hj0 hbx0 hbx1 hgd hlen1 hje hgx
     go_wp2_with (first
      | (go_at_call 31; refine HBK.out.mono ?_; rintro r y0 ⟨rfl, rfl⟩)
      | (go_at_call 32; refine HP.out.mono ?_; rintro r y1 ⟨rfl, T1, s1, j1⟩; have HS1 := Lib.hid s1; have HJ1 := Lib.hid j1; obtain ⟨v1, _⟩ := HV.out _ _ s1; clear s1 j1)
      | (go_at_call 27; refine (num15_any _ _).mono ?_; rintro e w' ⟨rfl, rfl⟩)
      | fail)
     go_roundw
     case rel => exact ⟨k + 1, hlt, by go_num, jb, T1, D1, J1, base, all, safe, mb, next, rfl, rfl, rfl, HJ1.out, HPB0.out.step HS1.out, HPN0.out.step HS1.out, HPA0.out.step HS1.out, HST1.out, hd1, hln1⟩
     case measure => simp [RowKit.intOf]; omega
   have kk2 : (q.kind == 2) = false := by simpa using k2
   clear k2
   have HST1 : Hid (StJ size D J base all safe mb next (13 * (k + 1) + totA (L.take (k + 1))) (1 + ((k + 1 : Nat) : Int))) := Lib.hid (hst.mono (by omega) (by omega))
   have hd1 : D.done ≤ 1100 * (k + 1) := by omega
   have hln1 : all.length ≤ k + 1 := by omega
   by_cases k3 : q.kind = 3
   ·as_aux_lemma =>
    have kk : (q.kind == 3) = true := by rw [k3]; rfl
    clear k3
    have HP := Lib.hid (hj0.liv.arm HOK.out.nw)
    clear hst htm htk hdn hj hj0 hbx0 hbx1 hgd hlen1 hje hgx
    go_wp2_with (first
     | (go_at_call 21; refine HP.out.mono ?_; rintro r y1 ⟨rfl, s1, l1⟩; obtain ⟨s2, j2⟩ := HJ0.out.armed s1 l1; have HS1 := Lib.hid s2; have HJ1 := Lib.hid j2; clear s1 l1 s2 j2)
     | fail)
    go_roundw
    case rel => exact ⟨k + 1, hlt, by go_num, jb, S, armD D q.n, J, base, all, safe, mb, next, rfl, rfl, rfl, HJ1.out, HPB0.out.step HS1.out, HPN0.out.step HS1.out, HPA0.out.step HS1.out, HST1.out.arm q.n, hd1, hln1⟩
    case measure => simp [RowKit.intOf]; omega
   have kk3 : (q.kind == 3) = false := by simpa using k3
   clear k3
   by_cases k4 : q.kind = 4
   ·as_aux_lemma =>
    have kk : (q.kind == 4) = true := by rw [k4]; rfl
    clear k4
    have HTL : Hid (TlAt (wr.alloc (.cells #[.int .i64 q.kind, .slice q.xa q.b.length q.xc, .int .i64 q.n, .slice q.ta q.t.length q.tc] 57)) (fun k => k < w.heap.size) (.slice q.ta q.t.length q.tc) q.t) := Lib.hid (HOK.out.tl.keep (S := fun _ => False) (.ofBelow hj0.liv.bel) (fun _ _ h => h))
    have HT0 : Hid (∀ k, k < w.heap.size → k < (wr.alloc (.cells #[.int .i64 q.kind, .slice q.xa q.b.length q.xc, .int .i64 q.n, .slice q.ta q.t.length q.tc] 57)).heap.size) := Lib.hid fun k hk => Nat.lt_of_lt_of_le hk hj0.liv.bel.size
    have ht8 : q.t.length ≤ 8000 := by omega
    have HBL0 := Lib.hid hj0.liv.bel
    have HCR := Lib.hid (fun hT => hst.crash (T := q.t) (by omega) hgd.ris hgd.safe (fun f hf => (hgd.num f hf).1) hT)
    have hst0 := Lib.hid hst
    clear hst htm htk hdn hj hj0 hbx0 hbx1 hgd hlen1 hje hgx
    go_wp2_with fail
    go_loopw [21] (fun i wx => ∃ j : Nat, j ≤ q.t.length ∧ i = .int .i64 j ∧ (wr.alloc (.cells #[.int .i64 q.kind, .slice q.xa q.b.length q.xc, .int .i64 q.n, .slice q.ta q.t.length q.tc] 57)) = wx ∧ ∀ t ∈ q.t.take j, t.turn = 0) (fun i _ => q.t.length - (RowKit.intOf i).toNat)
    case atStart => exact ⟨0, Nat.zero_le _, rfl, rfl, fun t h => by simp at h⟩
    case round =>
     obtain ⟨j, hjl, rfl, rfl, hz⟩ := hrel
     by_cases hjt : j < q.t.length
     ·obtain ⟨t, ht⟩ : ∃ t, q.t[j]? = some t := ⟨_, List.getElem?_eq_getElem hjt⟩
      obtain ⟨gt, ot, hta, _, hgt, _, _, d2⟩ := HTL.out.at ht
      have hjt' : (j : Int) < (q.t.length : Int) := by omega
      have d2' : (wr.alloc (.cells #[.int .i64 q.kind, .slice q.xa q.b.length q.xc, .int .i64 q.n, .slice q.ta q.t.length q.tc] 57)).cell? ⟨gt, ot + j * 3 + 2, none⟩ = some (.int .u8 (t.turn.toNat : Int)) := d2
      have hb0 := HBL0.out
      rw [hta] at d2' hb0
      have HB1 := Lib.hid hb0
      clear d2 hb0 hgt
      by_cases htz : t.turn = 0
      ·have hz0 : (t.turn.toNat : Int) = 0 := by rw [htz]; rfl
       have hz2 : ∀ u ∈ q.t.take (j + 1), u.turn = 0 := fun u hu => by
        rw [List.take_add_one, ht] at hu
        rcases List.mem_append.1 hu with hu | hu
        ·exact hz u hu
        ·simp at hu
         rw [hu]
         exact htz
       rw [hz0] at d2'
       have HZ := Lib.hid hz2
       clear htz hz0 hz hz2 ht
       go_wp2_with fail
       go_roundw
       case rel => exact ⟨j + 1, hjt, by go_num, by rw [hta], HZ.out⟩
       case measure => simp [RowKit.intOf]; omega
      ·have hz0 : ((t.turn.toNat : Int) != 0) = true := by
        have : ¬ (t.turn.toNat : Int) = 0 := fun e => htz (by apply UInt8.toNat_inj.1; simpa using e)
        simpa using this
       clear htz hz ht
       go_wp2_with (first
        | (go_at_call 26; refine (HLIVE.out _).mono ?_; rintro e wl ⟨rfl, hb⟩; have HBB := Lib.hid hb; clear hb)
        | fail)
       go_ret
       exact ⟨rfl, HB1.out.trans (HBB.out.mono HB1.out.size)⟩
     ·obtain rfl : j = q.t.length := by omega
      rw [List.take_length] at hz
      obtain ⟨htold, hst1, hnx⟩ := HCR.out hz
      have hcd : (crashD D q.t).done ≤ 1100 * (k + 1) := hd1
      have hoff : (crashD D q.t).off = false := rfl
      have hcr := HJ0.out.liv.crashes HTL.out HT0.out (by omega)
      have hst2 := hst1 next
      have hst2 := hst2.mono (m' := 13 * (k + 1) + totA (L.take (k + 1))) (k' := 1 + ((k + 1 : Nat) : Int)) (by have := totA_take HQ.out; omega) (by omega)
      have hnx2 : nextN (crashD D q.t) ≤ 1000 := by omega
      have HTK := Lib.hid (totA_take HQ.out)
      clear hz hst1 hnx HCR hst0
      obtain ⟨D1, hD1⟩ : ∃ D1, D1 = crashD D q.t := ⟨_, rfl⟩
      rw [← hD1] at htold hcd hoff hcr hst2 hnx2
      clear hD1
      obtain ⟨⟨t1, t2⟩, htd⟩ : ∃ td, tellD D1.l = td := ⟨_, rfl⟩
      rw [htd] at htold hst2
      dsimp only at hst2
      have HTD := Lib.hid htd
      have HCC := Lib.hid hcr
      have HOFF := Lib.hid hoff
      have HNX := Lib.hid hnx2
      clear htd hcr hoff hnx2
      have hsz1 : 1 ≤ size := by omega
      have hsz2 : size ≤ 4194304 := by omega
      by_cases hP : t1 = base ∧ safe ≤ t2.length ∧ t2.length ≤ all.length ∧ t2 = all.take t2.length
      ·obtain ⟨rfl, hp1, hp2, hp3⟩ := hP
       have HST2 := Lib.hid hst2
       have HP3 := Lib.hid hp3
       have f1 : (safe : Int) ≤ (t2.length : Int) := by omega
       have f2 : (t2.length : Int) ≤ (all.length : Int) := by omega
       have f3 : (t2.length : Int) ≤ (ac : Int) := by omega
       have f4 : (0 : Int) ≤ (t2.length : Int) := by omega
       have f5 : t2.length ≤ ac := by omega
       have hln2 : t2.length ≤ k + 1 := by omega
       clear htold hst2 hp3
       go_wp2_with (first
        | (go_at_call 22; refine HCC.out.mono ?_; rintro r y1 ⟨rfl, hk1, hl1⟩; obtain ⟨S2, hl2, hs2⟩ : ∃ S2, Liv w y1 b S2 D1 ∧ JStep S jb (wr.alloc (.cells #[.int .i64 q.kind, .slice q.xa q.b.length q.xc, .int .i64 q.n, .slice q.ta q.t.length q.tc] 57)) y1 S2 := ⟨_, hl1, hk1.mono (fun _ _ h => .inl h), fun k hk => hk.imp id fun h => h.1⟩; have HL1 := Lib.hid hl2; have HPB1 := Lib.hid (HPB0.out.step hs2); have HPN1 := Lib.hid (HPN0.out.step hs2); have HPA1 := Lib.hid (HPA0.out.step hs2); clear hk1 hl1 hl2 hs2)
        | (go_at_call 28; refine (open_ok HL1.out HOFF.out size hsz1 hsz2 HNX.out).mono ?_; rintro e y2 ⟨jb2, vb2, vr2, rfl, hb2, hr2, hn2, hk2, hj2⟩; rw [HTD.out] at hb2 hr2; have hpb2 : PayS w.heap.size y2 S2 jb2 vb2 t1 := hb2.pays hj2 HL1.out.lt; have hpa2 : AllS w.heap.size y2 S2 jb2 vr2 t2 := hr2.alls hj2 HL1.out.bel.size HL1.out.lt; have hpn2 := HPN1.out.reopen hk2 hn2; have hpo2 := HPB1.out.reopen hk2 hn2; obtain ⟨b2a, b2c, rfl⟩ := hpb2.form; obtain ⟨ra, rc, rfl, _⟩ := hpa2.form; have HJ2 := Lib.hid hj2; have HPB2 := Lib.hid hpb2; have HPN2 := Lib.hid hpn2; have HPA2 := Lib.hid hpa2; have xb := hpb2.str; have xo := hpo2.str; have xn := hpn2.str; clear hb2 hr2 hpo2; have HLQ : Hid (Calls Try.prog 33 #[.slice ra t2.length rc, .slice aa t2.length ac] y2 fun e y => e = .returned (.bool true) ∧ Below y2.heap.size y2 y) := Lib.hid ((lists15_any y2 _ _ _ _ _ _ (hpa2.bl) (by have h := bl_take15 (HPA1.out.bl.keep hk2 (fun _ _ h => h)) hp2; exact h) (by omega)).mono fun e y h => ⟨by rw [h.1, decide_eq_true HP3.out], h.2⟩); clear hpb2 hpa2 hpn2 hj2 hk2)
        | (go_at_call 27; refine (num15_any _ _).mono ?_; rintro e w' ⟨rfl, rfl⟩)
        | (go_at_call 33; refine HLQ.out.mono ?_; rintro e y3 ⟨rfl, hb3⟩; have HS3 : Hid (JStep S2 jb2 y2 y3 S2) := Lib.hid (JStep.quiet (.ofBelow hb3)); have HJ3 := Lib.hid (HJ2.out.keep (.ofBelow hb3)).2; clear hb3)
        | fail)
       go_roundw
       case rel => exact ⟨k + 1, hlt, by go_num, jb2, S2, D1, _, t1, t2, t2.length, false, next, rfl, rfl, rfl, HJ3.out, HPB2.out.step HS3.out, HPN2.out.step HS3.out, HPA2.out.step HS3.out, HST2.out, hcd, hln2⟩
       case measure => simp [RowKit.intOf]; omega
      ·rcases htold with hh | ⟨rfl, hh1, hh2⟩
       ·exact absurd hh hP
       ·dsimp only at hh1 hh2
        subst hh1 hh2
        have HST2 := Lib.hid hst2
        have hln2 : ([] : List (List UInt8)).length ≤ k + 1 := by simp
        by_cases hbe : t1 = base
        ·have hsf : ¬ (safe : Int) ≤ 0 := fun h => hP ⟨hbe, by simp; omega, by simp, by simp⟩
         subst hbe
         clear hst2 hP
         go_wp2_with (first
          | (go_at_call 22; refine HCC.out.mono ?_; rintro r y1 ⟨rfl, hk1, hl1⟩; obtain ⟨S2, hl2, hs2⟩ : ∃ S2, Liv w y1 b S2 D1 ∧ JStep S jb (wr.alloc (.cells #[.int .i64 q.kind, .slice q.xa q.b.length q.xc, .int .i64 q.n, .slice q.ta q.t.length q.tc] 57)) y1 S2 := ⟨_, hl1, hk1.mono (fun _ _ h => .inl h), fun k hk => hk.imp id fun h => h.1⟩; have HL1 := Lib.hid hl2; have HPB1 := Lib.hid (HPB0.out.step hs2); have HPN1 := Lib.hid (HPN0.out.step hs2); have HPA1 := Lib.hid (HPA0.out.step hs2); clear hk1 hl1 hl2 hs2)
          | (go_at_call 28; refine (open_ok HL1.out HOFF.out size hsz1 hsz2 HNX.out).mono ?_; rintro e y2 ⟨jb2, vb2, vr2, rfl, hb2, hr2, hn2, hk2, hj2⟩; rw [HTD.out] at hb2 hr2; have hpb2 : PayS w.heap.size y2 S2 jb2 vb2 t1 := hb2.pays hj2 HL1.out.lt; have hpa2 : AllS w.heap.size y2 S2 jb2 vr2 [] := hr2.alls hj2 HL1.out.bel.size HL1.out.lt; have hpn2 := HPN1.out.reopen hk2 hn2; have hpo2 := HPB1.out.reopen hk2 hn2; obtain ⟨b2a, b2c, rfl⟩ := hpb2.form; obtain ⟨ra, rc, rfl, _⟩ := hpa2.form; have HJ2 := Lib.hid hj2; have HPB2 := Lib.hid hpb2; have HPN2 := Lib.hid hpn2; have HPA2 := Lib.hid hpa2; have xb := hpb2.str; have xo := hpo2.str; have xn := hpn2.str; clear hb2 hr2 hpo2; clear hpb2 hpa2 hpn2 hj2 hk2)
          | (go_at_call 27; refine (num15_any _ _).mono ?_; rintro e w' ⟨rfl, rfl⟩)
          | fail)
         go_roundw
         case rel => exact ⟨k + 1, hlt, by go_num, jb2, S2, D1, _, t1, [], 0, false, _, rfl, rfl, rfl, HJ2.out, HPB2.out, HPN2.out, HPA2.out, HST2.out, hcd, hln2⟩
         case measure => simp [RowKit.intOf]; omega
        ·have hne1 : ¬ (⟨t1.toArray⟩ : ByteArray) = ⟨base.toArray⟩ := fun e => hbe (by simpa using e)
         clear hst2 hP
         go_wp2_with (first
          | (go_at_call 22; refine HCC.out.mono ?_; rintro r y1 ⟨rfl, hk1, hl1⟩; obtain ⟨S2, hl2, hs2⟩ : ∃ S2, Liv w y1 b S2 D1 ∧ JStep S jb (wr.alloc (.cells #[.int .i64 q.kind, .slice q.xa q.b.length q.xc, .int .i64 q.n, .slice q.ta q.t.length q.tc] 57)) y1 S2 := ⟨_, hl1, hk1.mono (fun _ _ h => .inl h), fun k hk => hk.imp id fun h => h.1⟩; have HL1 := Lib.hid hl2; have HPB1 := Lib.hid (HPB0.out.step hs2); have HPN1 := Lib.hid (HPN0.out.step hs2); have HPA1 := Lib.hid (HPA0.out.step hs2); clear hk1 hl1 hl2 hs2)
          | (go_at_call 28; refine (open_ok HL1.out HOFF.out size hsz1 hsz2 HNX.out).mono ?_; rintro e y2 ⟨jb2, vb2, vr2, rfl, hb2, hr2, hn2, hk2, hj2⟩; rw [HTD.out] at hb2 hr2; have hpb2 : PayS w.heap.size y2 S2 jb2 vb2 t1 := hb2.pays hj2 HL1.out.lt; have hpa2 : AllS w.heap.size y2 S2 jb2 vr2 [] := hr2.alls hj2 HL1.out.bel.size HL1.out.lt; have hpn2 := HPN1.out.reopen hk2 hn2; have hpo2 := HPB1.out.reopen hk2 hn2; obtain ⟨b2a, b2c, rfl⟩ := hpb2.form; obtain ⟨ra, rc, rfl, _⟩ := hpa2.form; have HJ2 := Lib.hid hj2; have HPB2 := Lib.hid hpb2; have HPN2 := Lib.hid hpn2; have HPA2 := Lib.hid hpa2; have xb := hpb2.str; have xo := hpo2.str; have xn := hpn2.str; clear hb2 hr2 hpo2; clear hpb2 hpa2 hpn2 hj2 hk2)
          | (go_at_call 27; refine (num15_any _ _).mono ?_; rintro e w' ⟨rfl, rfl⟩)
          | fail)
         go_roundw
         case rel => exact ⟨k + 1, hlt, by go_num, jb2, S2, D1, _, t1, [], 0, false, _, rfl, rfl, rfl, HJ2.out, HPB2.out, HPN2.out, HPA2.out, HST2.out, hcd, hln2⟩
         case measure => simp [RowKit.intOf]; omega
   have kk4 : (q.kind == 4) = false := by simpa using k4
   clear hst htm htk hdn hj hj0 hbx0 hbx1 hgd hlen1 hje hgx
   go_wp2_with fail
   go_roundw
   case rel => exact ⟨k + 1, hlt, by go_num, jb, S, D, J, base, all, safe, mb, next, rfl, rfl, rfl, HJ0.out, HPB0.out, HPN0.out, HPA0.out, HST1.out, hd1, hln1⟩
   case measure => simp [RowKit.intOf]; omega
  ·obtain rfl : k = L.length := by omega
   have HBL := Lib.hid hj.liv.bel
   clear hj hpb hpn hpa hst hdn hln
   go_wp2_with (first
    | (go_at_call 26; refine (HLIVE.out _).mono ?_; rintro e wl ⟨rfl, hb⟩; have HBB := Lib.hid hb; clear hb)
    | fail)
   go_ret
   exact ⟨rfl, HBL.out.trans (HBB.out.mono HBL.out.size)⟩

theorem journalSafe_lifted (os : Os) (started : os.Started) (H : Type) (enc : TypeId × Value → H) :
  ReturnsInHanded {} Try.checked os 4 .any (Rows.journalSafeSpec.pre6 enc Try.prog Try.f4 Rows.journalSafeRow.domain false) (Rows.journalSafeSpec.post enc Try.prog Try.f4 false true false false) := by
 refine law_lift_sized (C := Try.checked) own0 started (by kernel_rfl) Try.func4 laid0 rfl (by kernel_rfl) (fun _ _ _ _ => trodAll_mk1 (shut_bool Try.underlying4 true)) (fun ds h => match ds, h with | [_, _], _ => ⟨rfl, rfl, rfl⟩)
  (ChangeSpec.witness6 (enc := enc) (C := Try.checked) false ⟨#[], #[.int .i64 0, .slice none 0 0], []⟩ 8 (by kernel_rfl) (by kernel_rfl) (by kernel_rfl) (by kernel_rfl)) ?_
 intro W base args ds before hval0 hA0 hlt hsz
 have hval : ∀ (j : Nat) t v, Try.f4.params[j]? = some t → args[j]? = some v → Value.okWide Try.prog W .any base t v := hval0
 have hA : DataW.TrodAll enc Try.prog W 0 (fun _ => true) true Try.f4.params.toList args.toList ds before := hA0
 rw [Try.params4] at hA hval
 obtain ⟨v0, v1, d0, d1, p0, p1, rfl, rfl, rfl, h0, h1⟩ := trodAll_two hA
 obtain ⟨n, rfl, rfl, rfl, wn⟩ := open_int Try.underlying3 (hval 0 3 v0 rfl rfl) h0
 obtain ⟨a, L, cap, rfl, hb, hm, hr⟩ := open_acts15 (hval 1 51 v1 rfl rfl) h1
 exact journalSafe_walk n a L cap W hb (hr _ _ 1 hsz (by kernel_rfl) rfl)
theorem journalSafe_holds : Rows.JournalSafeSaid :=
 OpenClaim.holds_of_wide 4 Try.f4 rfl rfl rfl rfl rfl rfl rfl ⟨rfl, rfl, rfl, rfl, rfl⟩ rfl rfl rfl rfl rfl (by kernel_rfl) Try.func4 (by kernel_rfl)
  (of_decide_eq_true (by kernel_rfl)) (by unfold Func.isWrapper; rw [if_neg (of_decide_eq_false (by kernel_rfl))]; exact ⟨rfl, rfl⟩)
  (fun os started H enc _ => journalSafe_lifted os started H enc)
#print axioms journalSafe_holds
end SJ
end Go.Proofs.Ytddbmibfebhmjaa
