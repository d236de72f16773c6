/- The reference's Add. Conditions: lists of at most a million. -/
import Derived.Test.YtopogdfmbdbimaaVc
set_option linter.unusedVariables false
namespace Go.Proofs.Ytopogdfmbdbimaa
open Go.RowKit

theorem rstep_below {b : Nat} {vP vN : Value} {w w' : World} (h : Below w.heap.size w w') : RStep b vP vN vP vN w w' := ⟨Keeps.ofBelow h, fun _ h => .inl h⟩
theorem below_drew (w : World) : Below w.heap.size w w.drew := ⟨rfl, rfl, rfl, Nat.le_refl _, fun _ _ => rfl⟩
/-- append to a row of numbers, as a step of a straight region; where the new row lies. -/
theorem walk_i {ops : Array Oper} {rest : List Oper} {o : Oper} {a : Act} {w : World} {Q : Exit → Act → World → Prop} (hg : o.guard = none) (s x : Operand)
    (ho : o.op = .call { callee := .builtin .append, args := #[s, x], argTypes := #[23, 23] }) (w0 : World) {v : Value} {d : List Int} {ad : Addr} {n cap : Nat} {l : List Int} (hs : a.eval s = v) (hx : a.eval x = .slice (some ad) n cap) (hn : n = l.length)
    (hown : OwnI w0 0 v d) (hk : Keeps (fun _ => False) w0 w) (hsl : Il w (some ad) cap l) (hlen : d.length + l.length ≤ 4000000)
    (h : ∀ v' w', OwnI w' 0 v' (d ++ l) → w.grownBy w' v.ownBlock → (v'.ownBlock = v.ownBlock ∨ v'.ownBlock = some w.heap.size) → wpList Try.prog ops Q rest (a.put o.dst v') w') : wpList Try.prog ops Q (o :: rest) a w := by
  have hw : Region.wanted o (yielded ops a.tmps) = true := by simp [Region.wanted, hg]
  have hst := step_i (ops := ops) (Q := Q) (E := True) hg s x ho w0 hs hx hn hown hk hsl hlen h
  rw [if_pos hw] at hst
  unfold wpList
  rw [if_pos hw]
  exact .inl hst

def addB (l : List Sh) (P N : List Int) (n : Int) : Bool := !hasN N n && hasN (nodesL l P) n

set_option maxRecDepth 100000 in
set_option maxHeartbeats 4000000 in
theorem refadd_any (W0 w : World) (b : Nat) (a : Option Addr) (c : Nat) (l : List Sh) (P N : List Int) (vP vN : Value) (n : Int) (hlen : l.length ≤ 1000000) (hlP : P.length ≤ 1000000) (hlN : N.length ≤ 1000000) (hn5 : ∀ s ∈ l, s.nodes.length ≤ 1000000) (h : RT W0 w b a c l P N vP vN) :
    Calls Try.prog 27 #[.pointer (some ⟨b, 0, none⟩), .int .i64 n] w fun e w' => ∃ vN', e = .returned (.bool (addB l P N n)) ∧ RT W0 w' b a c l P (if addB l P N n = true then N ++ [n] else N) vP vN' ∧ RStep b vP vN vP vN' w w' := by
  obtain ⟨aP, cP, rfl⟩ := h.ownP.form
  obtain ⟨aN, cN, rfl⟩ := h.ownN.form
  have HR := Lib.hid h
  have c0 := h.c0
  have c1 := h.c1
  have c2 := h.c2
  have hbl := h.lt
  have ilN := h.ownN.at.later (below_drew w)
  have ilP := h.ownP.at.later (below_drew w)
  have hl0 := h.hl.later (below_drew w)
  have HNL : Hid ((nodesL l P).length ≤ 1000000) := Nat.le_trans (ofTo_len _ _) (by decide)
  generalize hn : (if addB l P N n = true then N ++ [n] else N) = N'
  have HN := Lib.hid hn
  clear hn
  generalize hv : addB l P N n = v at HN ⊢
  have HV := Lib.hid hv
  clear h hv
  generalize hh : hasN N n = x
  have HH := Lib.hid hh
  clear hh
  cases x
  · go_enter Try.func27, Try.ntmps27
    go_wp2
    go_region_with (first
      | (go_at_call_of 25 (Value.slice aN N.length cN); refine (refin_i _ _ N n _ hlN ilN).mono ?_; rintro e w5 ⟨rfl, rfl⟩; rw [HH.out])
      | (go_at_call 28; refine (refnodes_any _ _ l _ _ P _ hlen hlP hn5 hl0 ilP).mono ?_; rintro e w3 ⟨v3, rfl, ho3, hb3⟩; obtain ⟨a3, c3, rfl⟩ := ho3.form; have il3 := ho3.at; have HR3 := Lib.hid ((HR.out.later (below_drew w)).later hb3); have HS3 := Lib.hid (blThen (below_drew w) hb3); clear ho3 hb3)
      | (go_at_call 25; refine (refin_i _ _ (nodesL l P) n _ HNL.out il3).mono ?_; rintro e w5 ⟨rfl, rfl⟩))
    all_goals
      have HV2 := HV
      generalize hh2 : hasN (nodesL l P) n = y
      have HY := Lib.hid hh2
      clear hh2
      cases y
      · have HF : Hid (v = false) := by rw [← HV.out]; unfold addB; rw [HH.out, HY.out]; rfl
        have HF2 : Hid (N' = N) := by rw [← HN.out, HF.out]; rfl
        go_wp2
        go_ret
        exact ⟨.slice aN N.length cN, ret_bool HF.out.symm, by rw [HF2.out]; exact HR3.out, rstep_below HS3.out⟩
      · have HF : Hid (v = true) := by rw [← HV.out]; unfold addB; rw [HH.out, HY.out]; rfl
        have HF2 : Hid (N' = N ++ [n]) := by rw [← HN.out, HF.out]; rfl
        have t2 := HR3.out.c2
        have hbl3 := HR3.out.lt
        have HLEN : Hid (N.length + [n].length ≤ 4000000) := by show _ ≤ _; simp only [List.length_singleton]; omega
        go_wp2_with (at_builtin; refine walk_i rfl (.tmp 29) (.tmp 31) rfl w3 rfl rfl (l := [n]) rfl HR3.out.ownN (by repeat (first | with_reducible exact Keeps.refl _ _ | with_reducible refine keepsAlloc ?_ _ | with_reducible refine keepsDrew ?_)) (il_one (w0 := w3) rfl rfl) HLEN.out ?_; intro v' w' h1 h2 h3; obtain ⟨ao, an, rfl⟩ := h1.formN (N.length + 1) (by simp); obtain ⟨hv', hr3, hs3⟩ := HR3.out.addN (by repeat (first | with_reducible exact Keeps.refl _ _ | with_reducible refine keepsAlloc ?_ _ | with_reducible refine keepsDrew ?_)) h1 h2 h3; have q1 := (cell3 hv').2.2; have q2 := free3 hv' 2; have HR4 := Lib.hid hr3; have HS4 := Lib.hid hs3; clear h1 h2 h3 hv' hr3 hs3)
        go_ret
        exact ⟨_, ret_bool HF.out.symm, by rw [HF2.out]; exact HR4.out, (rstep_below HS3.out).trans HS4.out⟩
  · have HF : Hid (v = false) := by rw [← HV.out]; unfold addB; rw [HH.out]; rfl
    have HF2 : Hid (N' = N) := by rw [← HN.out, HF.out]; rfl
    go_enter Try.func27, Try.ntmps27
    go_wp2
    go_quiet ((go_at_call 25; exact Calls.quiet_of_same ((refin_i _ _ N n _ hlN (HR.out.ownN.at.later (blDrewN (Below.refl _ _) _))).mono fun e w' h => ⟨h.1.trans (by rw [HH.out]), h.2.symm⟩)))
    go_wp2
    go_ret
    have hb : Below w.heap.size w (w.drewN nq) := blDrewN (Below.refl _ _) _
    exact ⟨.slice aN N.length cN, ret_bool HF.out.symm, by rw [HF2.out]; exact HR.out.later hb, rstep_below hb⟩

end Go.Proofs.Ytopogdfmbdbimaa
