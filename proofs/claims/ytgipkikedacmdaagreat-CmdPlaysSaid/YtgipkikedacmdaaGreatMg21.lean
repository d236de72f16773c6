/- A set of numbers of the program's: setOf, has. Conditions: at most a million numbers. -/
import Derived.Maps.OwnSet
import Derived.Maps.OwnOps
import Derived.Lib.SlKeysI
import Derived.WalkSpells
import Derived.Test.YtgipkikedacmdaaGreatMg20
import Derived.Test.YtgipkikedacmdaaGreatMg00
set_option maxRecDepth 100000
set_option maxHeartbeats 16000000
set_option linter.unusedVariables false
namespace Go.Proofs.YtgipkikedacmdaaGreat
open S1
namespace SD
open Go.RowKit
def heldV (v : Value) : Option (DataW Value × List MemPlace) := some (.held v, [])
def MapL (w : World) (b n : Nat) (D : DataW Value) : Prop := w.ownsMap Tryz.prog 3 heldV b n D
theorem MapL.lt {w : World} {b n : Nat} {D : DataW Value} (h : MapL w b n D) : b < w.heap.size := World.ownsMap.lt h
theorem MapL.later {B : Nat} {w wr : World} {b n : Nat} {D : DataW Value} (h : MapL w b n D) (hw : Below B w wr) (hb : b < B) : MapL wr b n D := by
 obtain ⟨es, clock, hh, r⟩ := h
 exact ⟨es, clock, (hw.block b hb).trans hh, r⟩
def kS (s : Int) : Lit := .int .i64 s
theorem kS_key (s : Int) : WideAt.IsKeyLit (kS s) := trivial
theorem kS_ne {s t : Int} (h : s ≠ t) : kS s ≠ kS t := fun e => h (by unfold kS at e; exact (Lit.int.inj e).2)
def zL : DataW Value := .held (.slice none 0 0)
def vAt (D : DataW Value) (s : Int) : Value := match D.atKey (kS s) zL with | .held v => v | _ => .slice none 0 0
theorem vAt_same {D : DataW Value} (hD : Maps.IsMap D) (s : Int) (v : Value) : vAt (D.put (kS s) (.held v)) s = v := by
 unfold vAt
 rw [Maps.atKey_put_same hD (kS_key s)]
theorem vAt_other {D : DataW Value} {s t : Int} (h : t ≠ s) (d : DataW Value) : vAt (D.put (kS s) d) t = vAt D t := by
 unfold vAt
 rw [Maps.atKey_put_other (kS_ne h)]
def gath (L : List Dp) (s : Int) : List LRow := (L.filter fun x => x.sh == s).map Dp.lr
theorem gath_same (L : List Dp) (m : Dp) : gath (L ++ [m]) m.sh = gath L m.sh ++ [m.lr] := by
 unfold gath
 rw [List.filter_append]
 simp
theorem gath_other (L : List Dp) (m : Dp) {s : Int} (h : s ≠ m.sh) : gath (L ++ [m]) s = gath L s := by
 unfold gath
 rw [List.filter_append]
 have : (m.sh == s) = false := by simpa using fun e => h e.symm
 simp [this]
structure Inv (w : World) (base bm n : Nat) (D : DataW Value) (L : List Dp) : Prop where
 map : MapL w bm n D
 row : ∀ s, OwnR w base (vAt D s) (gath L s)
 key : ∀ s, Maps.has D (kS s) = true ↔ gath L s ≠ []
 apart : ∀ s t, s ≠ t → ∀ k, (vAt D s).ownBlock = some k → (vAt D t).ownBlock ≠ some k
theorem Inv.later {w wr : World} {base bm n : Nat} {D : DataW Value} {L : List Dp} (h : Inv w base bm n D L) (hw : Below w.heap.size w wr) : Inv wr base bm n D L :=
 ⟨h.map.later hw h.map.lt, fun s => (h.row s).later hw, h.key, h.apart⟩
theorem row_not_map {w : World} {base bm n : Nat} {D : DataW Value} {v : Value} {ls : List LRow} (h : OwnR w base v ls) (hm : MapL w bm n D) : v.ownBlock ≠ some bm := by
 intro e
 obtain ⟨h1, ⟨rfl, _⟩ | ⟨g, cap, cur, rfl, hg, hh, _⟩⟩ := h
 ·cases e
 ·obtain ⟨es, clock, hb, _⟩ := hm
  simp only [Value.ownBlock, Option.some.injEq] at e
  rw [e, hb] at hh
  cases hh
theorem Inv.push {w w2 w3 : World} {base bm n : Nat} {D : DataW Value} {L : List Dp} {m : Dp} {v' : Value} (h : Inv w base bm n D L)
  (h1 : OwnR w2 base v' (gath L m.sh ++ [m.lr])) (h2 : w.grownBy w2 (vAt D m.sh).ownBlock) (h3 : v'.ownBlock = (vAt D m.sh).ownBlock ∨ v'.ownBlock = some w.heap.size)
  (h4 : MapL w3 bm (n + 1) (D.put (kS m.sh) (.held v'))) (h5 : w2.grownBy w3 (some bm)) : Inv w3 base bm (n + 1) (D.put (kS m.sh) (.held v')) (L ++ [m]) := by
 have hD : Maps.IsMap D := World.ownsMap.isMap h.map
 have hm2 : MapL w2 bm n D := World.ownsMap.kept h.map h2 (fun e => row_not_map (h.row m.sh) h.map e.symm)
 refine ⟨h4, fun s => ?_, fun s => ?_, fun s t hst k hk => ?_⟩
 ·by_cases hs : s = m.sh
  ·subst hs
   rw [vAt_same hD, gath_same]
   exact h1.kept h5 (.inl (row_not_map h1 hm2))
  ·rw [vAt_other hs, gath_other L m hs]
   have ha := h.row s
   have hb : OwnR w2 base (vAt D s) (gath L s) := by
    refine ha.kept h2 ?_
    by_cases hn : (vAt D m.sh).ownBlock = none
    ·exact .inr hn
    ·refine .inl fun e => ?_
     obtain ⟨k, hk⟩ := Option.ne_none_iff_exists'.1 hn
     exact h.apart m.sh s (fun e => hs e.symm) k hk (by rw [e, hk])
   exact hb.kept h5 (.inl (row_not_map hb hm2))
 ·by_cases hs : s = m.sh
  ·subst hs
   rw [gath_same]
   exact ⟨fun _ => by simp, fun _ => Maps.has_put_same hD (kS_key _) _⟩
  ·rw [gath_other L m hs, Maps.has_put_other (kS_ne hs)]
   exact h.key s
 ·have key : ∀ t, t ≠ m.sh → ∀ k, v'.ownBlock = some k → (vAt D t).ownBlock ≠ some k := by
   intro t ht k hk
   rcases h3 with e | e
   ·rw [e] at hk
    exact h.apart m.sh t (fun e => ht e.symm) k hk
   ·intro hk2
    have hlt := ((h.row t).block k hk2).2
    rw [e] at hk
    have := Option.some.inj hk
    omega
  by_cases hs : s = m.sh
  ·subst hs
   have ht : t ≠ m.sh := fun e => hst e.symm
   rw [vAt_same hD] at hk
   rw [vAt_other ht]
   exact key t ht k hk
  ·rw [vAt_other hs] at hk
   by_cases ht : t = m.sh
   ·subst ht
    rw [vAt_same hD]
    intro e
    exact key s hs k e hk
   ·rw [vAt_other ht]
    exact h.apart s t hst k hk

def MapU (w : World) (b n : Nat) (D : DataW Unit) : Prop := w.ownsMap Tryz.prog 3 unitElem b n D
theorem MapU.lt {w : World} {b n : Nat} {D : DataW Unit} (h : MapU w b n D) : b < w.heap.size := World.ownsMap.lt h
theorem MapU.later {B : Nat} {w wr : World} {b n : Nat} {D : DataW Unit} (h : MapU w b n D) (hw : Below B w wr) (hb : b < B) : MapU wr b n D := by
 obtain ⟨es, clock, hh, r⟩ := h
 exact ⟨es, clock, (hw.block b hb).trans hh, r⟩
theorem zeroU6 (w : World) : (zeroValue 230).run Tryz.prog w = .ok (.agg #[]) w := by kernel_rfl
end SD
end Go.Proofs.YtgipkikedacmdaaGreat
