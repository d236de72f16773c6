/- Texts that came in are within the form's own reach. Conditions: none. -/
import Derived.SizedLaws
import Derived.BigQuiet
import Derived.Deep.QuietTactic
import Derived.Test.YtpdfcojcmhadnaaGreatMg29
set_option maxRecDepth 100000
set_option maxHeartbeats 16000000
namespace Go.Proofs.YtpdfcojcmhadnaaGreat
namespace S2
open Go.RowKit
structure Aft (w : World) where
 x : World
 h : Below w.heap.size w x
instance Aft.some (w : World) : Nonempty (Aft w) := ⟨⟨w, Below.refl _ _⟩⟩
theorem Aft.cell {w : World} (y : Aft w) (n i : Nat) (hn : n < w.heap.size) : y.x.cell? ⟨n, i, none⟩ = w.cell? ⟨n, i, none⟩ := y.h.cell (p := ⟨n, i, none⟩) hn
theorem Aft.frozen {w : World} (y : Aft w) (n i : Nat) (hn : n < w.heap.size) : y.x.frozen? ⟨n, i, none⟩ = w.frozen? ⟨n, i, none⟩ := y.h.frozen (p := ⟨n, i, none⟩) hn
theorem Aft.lt {w : World} (y : Aft w) (n : Nat) (hn : n < w.heap.size) : n < y.x.heap.size := Nat.lt_of_lt_of_le hn y.h.size
attribute [go_sem] Aft.cell Aft.frozen
theorem region_aft {P : Program} {id : Nat} {Q : Exit → Act → World → Prop} {a : Act} {w : World} {l : List Oper} (hm : P.follows .mixedOrders = true) (hB : Region.lexB .any l.toArray = true)
  (h : wpQuiet P l.toArray (fun w' => ∃ y : Aft w, w' = y.x) (fun a' => ∀ w', (∃ y : Aft w, w' = y.x) → Q .normal a' w') l a) : (Code.region id l.toArray true).wp P Q a w :=
 wp_region_quiet (C := fun w' => ∃ y : Aft w, w' = y.x) hm hB ⟨⟨{ w with drawn := w.drawn + 1 }, ⟨rfl, rfl, rfl, Nat.le_refl _, fun _ _ => rfl⟩⟩, rfl⟩ (by simpa using h)
theorem aft_of {P : Program} {f : FuncId} {args : Array Value} {w : World} {y : Aft w} {v : Value} (h : Calls P f args y.x fun e w' => e = .returned v ∧ Below y.x.heap.size y.x w') :
  Calls P f args y.x fun e w'' => e = .returned v ∧ ∃ z : Aft w, w'' = z.x :=
 h.mono fun _ w'' ⟨he, hb⟩ => ⟨he, ⟨w'', y.h.trans (hb.mono y.h.size)⟩, rfl⟩
end S2
end Go.Proofs.YtpdfcojcmhadnaaGreat

namespace Go.Proofs.YtpdfcojcmhadnaaGreat
namespace S2
open Go.ChangeShapes Go.WideShapes Go.ChangeAt Go.RowKit Go.Joins Go.Deep
theorem Bw.form {w : World} {g : Nat} {v : Value} {l : List UInt8} (h : Bw w g v l) : ∃ a c, v = .slice a l.length c := by
 obtain ⟨a, c, hv, _⟩ := h
 exact ⟨a, c, hv⟩
theorem Bw.at {w : World} {g : Nat} {v : Value} {l : List UInt8} (h : Bw w g v l) {j : Nat} {x : UInt8} (hx : l[j]? = some x) : ∃ o c, v = .slice (some ⟨g, o, none⟩) l.length c ∧ w.cell? ⟨g, o + j, none⟩ = some (bv x) := by
 obtain ⟨a, c, hv, _, _, hc⟩ := h
 obtain ⟨o, rfl, hcc⟩ := hc (by rintro rfl; simp at hx)
 exact ⟨o, c, hv, hcc j x hx⟩

theorem IL.place {w : World} {g : Nat} {a : Option Addr} {l : List Int} (h : IL w g a l) (hg : l ≠ [] → g < w.heap.size) (k : Nat) : ∃ g', IL w g' a l ∧ (g' < w.heap.size ∨ g' = k) := by
 by_cases hl : l = []
 ·subst hl; exact ⟨k, fun h => absurd rfl h, .inr rfl⟩
 ·exact ⟨g, h, .inl (hg hl)⟩
theorem TL.place {w : World} {g : Nat} {a : Option Addr} {l : List ByteArray} (h : TL w g a l) (hg : l ≠ [] → g < w.heap.size) (k : Nat) : ∃ g', TL w g' a l ∧ (g' < w.heap.size ∨ g' = k) := by
 by_cases hl : l = []
 ·subst hl; exact ⟨k, fun h => absurd rfl h, .inr rfl⟩
 ·exact ⟨g, h, .inl (hg hl)⟩
theorem PenAt.beside {w w' : World} {b b' : Nat} {r r' r'' : Option Nat} {l : List UInt8} (h : PenAt w b r l) (k : PenStep b' r' r'' w w') (h1 : b ≠ b') (h2 : r ≠ some b') (h3 : r' ≠ some b) (h4 : ∀ x, r = some x → r' ≠ some x) : PenAt w' b r l :=
 h.keep k.keeps (fun e => by rcases e with e | e; exact h1 e; exact h3 e) fun x hx e => by
  rcases e with e | e
  ·subst e; exact h2 hx
  ·exact h4 x hx e
theorem PenAt.rowLt {w : World} {b k : Nat} {r : Option Nat} {l : List UInt8} (h : PenAt w b r l) (hr : r = some k) : k < w.heap.size := by
 obtain ⟨_, _, _, h, _⟩ := h
 exact h.lt hr

section
variable {H : Type} {enc : TypeId × Value → H}
theorem weightsAll_mem {P : Program} {e : TypeId} {d : DataW H} {n : Nat} (hn : n ∈ d.weights P e) : ∀ {l : List (DataW H)}, d ∈ l → n ∈ DataW.weightsAll P e l
 | x :: r, h => by
  unfold DataW.weightsAll
  rcases List.mem_cons.1 h with rfl | h
  ·exact List.mem_append_left _ hn
  ·exact List.mem_append_right _ (weightsAll_mem hn h)
theorem weights_elem {P : Program} {t e : TypeId} (ht : P.underlying t = some (.slice e)) {elems spare : List (DataW H)} {d : DataW H} (hd : d ∈ elems) {n : Nat} (hn : n ∈ d.weights P e) : n ∈ (DataW.slice elems spare : DataW H).weights P t := by
 simp only [DataW.weights, ht]
 exact List.mem_cons_of_mem _ (List.mem_append_left _ (weightsAll_mem hn hd))
end
end S2
end Go.Proofs.YtpdfcojcmhadnaaGreat
