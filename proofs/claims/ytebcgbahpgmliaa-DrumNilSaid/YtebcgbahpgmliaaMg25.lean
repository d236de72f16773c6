/- A drum and what lies ahead of it; lists that are laid for a call. Conditions: none. -/
import Derived.Test.YtebcgbahpgmliaaMg24
import Derived.Test.YtebcgbahpgmliaaMg05
set_option maxRecDepth 100000
set_option maxHeartbeats 16000000
set_option linter.unusedVariables false
namespace Go.Proofs.Ytebcgbahpgmliaa
open S2
namespace SZ
open Go.RowKit
theorem blk_cellp {w : World} {b : Nat} {c : Array Value} {t : TypeId} {p : Nat × Nat} (h : w.heap[b]? = some (.cells c t p)) (i : Nat) : w.cell? ⟨b, i, none⟩ = c[i]? := by simp [World.cell?, h]
theorem bs_blk {w : World} {k : Nat} {l : List UInt8} {C : Array Value} {p : Nat × Nat} (h : w.heap[k]? = some (.cells C 5 p)) (hC : C.toList = bvs l) (hl : l.length ≤ maxLen) : Bs w k (.slice (some ⟨k, 0, none⟩) l.length l.length) l := by
 refine .inr ⟨0, l.length, rfl, Nat.le_refl _, hl, fun j x hx => ?_⟩
 rw [blk_cellp h, Nat.zero_add]
 have := bvs_at hx
 rw [← hC] at this
 simpa using this
theorem bl_blk {w : World} {g : Nat} {T : Nat → Prop} {L : List (List UInt8)} {C : Array Value} {t : TypeId} {p : Nat × Nat} (h : w.heap[g]? = some (.cells C t p)) (hg : T g)
  (hL : ∀ (i : Nat) l, L[i]? = some l → ∃ k, C[i]? = some (.slice (some ⟨k, 0, none⟩) l.length l.length) ∧ Bs w k (.slice (some ⟨k, 0, none⟩) l.length l.length) l ∧ T k) (c : Nat) : Bl w T (.slice (some ⟨g, 0, none⟩) L.length c) L := by
 refine ⟨_, c, rfl, fun _ => ⟨g, 0, rfl, hg, lt_of_block h, fun i l hl => ?_⟩⟩
 obtain ⟨k, h1, h2, h3⟩ := hL i l hl
 exact ⟨_, _, k, by rw [blk_cellp h, Nat.zero_add]; exact h1, h2, fun _ => h3⟩
theorem bl_nil (w : World) (T : Nat → Prop) : Bl w T (.slice none 0 0) [] := ⟨none, 0, rfl, fun h => absurd rfl h⟩
structure Liv (w x : World) (b : Nat) (S : Nat → Prop) (D : Dm) : Prop where
 p : PAt x b S D
 bel : Below w.heap.size w x
 own : ∀ k, S k → w.heap.size ≤ k
section
variable {w x : World} {b : Nat} {S : Nat → Prop} {D : Dm}
theorem Liv.lt (h : Liv w x b S D) : ∀ k, S k → k < x.heap.size := h.p.lt
theorem Liv.new {room : Int} {e : Ending} (h : Below w.heap.size w x) {y : World} (hn : NewD x room e y) : ∃ b, e = .returned (.tuple #[.pointer (some ⟨b, 0, none⟩), .int .i64 0]) ∧ x.heap.size ≤ b ∧ Keeps (fun _ => False) x y ∧ Liv w y b (Grow (fun _ => False) x y) (newD room) := by
 obtain ⟨b, h1, h2, h3, h4⟩ := hn
 refine ⟨b, h1, h2, h3, h4, h.trans (h3.below h.size (fun _ _ h => h)), fun k hk => ?_⟩
 rcases hk with hk | hk
 ·exact hk.elim
 ·exact Nat.le_trans h.size hk.1
theorem Liv.keep (h : Liv w x b S D) {y : World} (hk : Keeps (fun _ => False) x y) : Liv w y b S D := ⟨PAx.keep h.p hk (fun _ _ h => h), h.bel.trans (hk.below h.bel.size (fun _ _ h => h)), h.own⟩
theorem Liv.op (h : Liv w x b S D) {r : Int × Dm} {e : Ending} {y : World} (hd : Done x b S r e y) : e = .returned (.int .i64 r.1) ∧ Keeps S x y ∧ Liv w y b (Grow S x y) r.2 := by
 obtain ⟨h1, h2, h3⟩ := hd
 refine ⟨h1, h2, h3, h.bel.trans (h2.below h.bel.size (fun k hk hs => by have := h.own k hs; omega)), fun k hk => ?_⟩
 rcases hk with hk | hk
 ·exact h.own k hk
 ·exact Nat.le_trans h.bel.size hk.1
theorem Liv.crash (h : Liv w x b S D) {T : List Tl} {y : World} (h2 : Keeps S x y) (h3 : PAt y b (Grow S x y) (crashD D T)) : Liv w y b (Grow S x y) (crashD D T) :=
 ⟨h3, h.bel.trans (h2.below h.bel.size (fun k hk hs => by have := h.own k hs; omega)), fun k hk => by
  rcases hk with hk | hk
  ·exact h.own k hk
  ·exact Nat.le_trans h.bel.size hk.1⟩
theorem Liv.free (h : Liv w x b S D) : Calls Try.prog 27 #[.pointer (some ⟨b, 0, none⟩)] x fun r w' => r = .returned (.int .i64 D.free) ∧ w' = x := by
 obtain ⟨m, n, lf, M, tb, rv, hp, _⟩ := h.p
 exact free_any hp
theorem Liv.ops (h : Liv w x b S D) : Calls Try.prog 29 #[.pointer (some ⟨b, 0, none⟩)] x fun r w' => r = .returned (.int .i64 D.done) ∧ w' = x := by
 obtain ⟨m, n, lf, M, tb, rv, hp, _⟩ := h.p
 exact ops_any hp
theorem Liv.dead (h : Liv w x b S D) : Calls Try.prog 28 #[.pointer (some ⟨b, 0, none⟩)] x fun r w' => r = .returned (.bool D.off) ∧ w' = x := by
 obtain ⟨m, n, lf, M, tb, rv, hp, _⟩ := h.p
 exact dead_any hp
theorem Liv.read (h : Liv w x b S D) (n : Int) : Calls Try.prog 25 #[.pointer (some ⟨b, 0, none⟩), .int .i64 n] x (ReadR x (readD D n)) := by
 obtain ⟨m, nn, lf, M, tb, rv, hp, _⟩ := h.p
 exact read_any n hp
theorem Liv.files (h : Liv w x b S D) : Calls Try.prog 26 #[.pointer (some ⟨b, 0, none⟩)] x fun e w' => ∃ v, e = .returned v ∧ S4.OwnI w' x.heap.size v (D.l.map Fil.n) ∧ Below x.heap.size x w' := by
 obtain ⟨m, nn, lf, M, tb, rv, hp, _⟩ := h.p
 exact files_any hp
theorem Liv.arm (h : Liv w x b S D) {n : Int} (hn : (Lit.int .i64 n).wf = true) : Calls Try.prog 21 #[.pointer (some ⟨b, 0, none⟩), .int .i64 n] x fun r w' => r = .returned (.tuple #[]) ∧ Keeps S x w' ∧ Liv w w' b S (armD D n) := by
 obtain ⟨m, nn, lf, M, tb, rv, hp, hc⟩ := h.p
 refine (arm_any hp hn).mono ?_
 rintro r w' ⟨rfl, hk, hp2⟩
 have hkS : Keeps S x w' := hk.mono fun k _ e => by rw [e]; exact hp.sb
 exact ⟨rfl, hkS, ⟨m, nn, n, M, tb, rv, hp2, hc⟩, h.bel.trans (hkS.below h.bel.size (fun k hk hs => by have := h.own k hs; omega)), h.own⟩
theorem Liv.append (h : Liv w x b S D) {T : Nat → Prop} (n : Int) {v : Value} {L : List (List UInt8)} (hd : D.done < 4000000) (hv : Bl x T v L) (hT : ∀ k, T k → ¬ S k ∧ k < x.heap.size) (hL : L.length ≤ 1000000) (hs : totL L ≤ 1000000000000) :
  Calls Try.prog 14 #[.pointer (some ⟨b, 0, none⟩), .int .i64 n, v] x fun e y => e = .returned (.int .i64 (appendD D n L.flatten).1) ∧ Keeps S x y ∧ Liv w y b (Grow S x y) (appendD D n L.flatten).2 :=
 (append_any n h.p hd hv hT hL hs).mono fun e y hd => h.op hd
theorem Liv.sync (h : Liv w x b S D) (n : Int) (hd : D.done < 4000000) :
  Calls Try.prog 17 #[.pointer (some ⟨b, 0, none⟩), .int .i64 n] x fun e y => e = .returned (.int .i64 (syncD D n).1) ∧ Keeps S x y ∧ Liv w y b (Grow S x y) (syncD D n).2 :=
 (sync_any n h.p hd).mono fun e y hd => h.op hd
theorem Liv.crashes (h : Liv w x b S D) {T : Nat → Prop} {v : Value} {l : List Tl} (hl : TlAt x T v l) (hT : ∀ k, T k → k < x.heap.size) (hlen : l.length ≤ 1000000) :
  Calls Try.prog 22 #[.pointer (some ⟨b, 0, none⟩), v] x fun r y => r = .returned (.tuple #[]) ∧ Keeps S x y ∧ Liv w y b (Grow S x y) (crashD D l) :=
 (crash_any h.p hl hT hlen).mono fun e y hd => ⟨hd.1, hd.2.1, h.crash hd.2.1 hd.2.2⟩
end
theorem row_new {x y : World} {g : Option Nat} {v : Value} {l : List UInt8} (h : Row y g v l) (hn : New x g) : ∃ k, Bs y k v l ∧ (l ≠ [] → x.heap.size ≤ k) := by
 refine ⟨g.getD 0, h.bs, fun hne => ?_⟩
 obtain ⟨b, c, cur, hv, hg, _⟩ := row_block h hne
 rw [hg]
 exact hn b hg
end SZ
end Go.Proofs.Ytebcgbahpgmliaa
