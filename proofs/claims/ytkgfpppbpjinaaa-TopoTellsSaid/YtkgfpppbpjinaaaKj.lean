/- The spans that are not empty, by rising From; outside; Union. Conditions: lists of at most a million spans. -/
import Derived.Test.YtkgfpppbpjinaaaKi
namespace Go.Proofs.Ytkgfpppbpjinaaa
open Go.RowKit

theorem one_new (X : World) (s : Sp) (n : Nat) (h : X.heap.size = n) : Sl (X.alloc (.cells #[.string s.1, .string s.2] 35)) (.slice (some ⟨n, 0, none⟩) 1 1) [s] := by
  subst h
  exact one_sl (box2_new X s) 1
theorem filter_take {α : Type} (p : α → Bool) (l : List α) (k : Nat) (x : α) (h : l[k]? = some x) : (l.take (k + 1)).filter p = (l.take k).filter p ++ if p x then [x] else [] := by
  rw [List.take_add_one, h, List.filter_append]
  cases hp : p x <;> simp [hp]
theorem filter_len {α : Type} (p : α → Bool) (l : List α) (k : Nat) : ((l.take k).filter p).length ≤ l.length := Nat.le_trans (List.length_filter_le _ _) (by simp; omega)

set_option maxRecDepth 100000 in
set_option maxHeartbeats 1000000 in
theorem byFrom_any (va : Value) (l : List Sp) (w : World) (hlen : l.length ≤ 1000000) (ha : Sl w va l) :
    Calls Try.prog 52 #[va] w fun e w' => ∃ v d, e = .returned v ∧ d.Perm (l.filter fullS) ∧ (d.Pairwise fun a b => ltT b.1 a.1 = false) ∧ Sl w' v d ∧ Below w.heap.size w w' := by
  obtain ⟨aa, ca, rfl⟩ := ha.form
  have HA := Lib.hid ha
  have HL := Lib.hid (filter_len fullS l)
  clear ha
  go_enter Try.func52, Try.ntmps52
  go_wp2
  go_loopw [3, 8] (fun v i wr => ∃ k : Nat, k ≤ l.length ∧ i = .int .i64 k ∧ OwnL wr w.heap.size v ((l.take k).filter fullS) ∧ Below w.heap.size w wr) (fun _ i _ => l.length - (intOf i).toNat)
  case atStart => exact ⟨0, Nat.zero_le _, rfl, OwnL.nil _ _, Below.refl _ _⟩
  case round =>
    obtain ⟨k, hk, rfl, ho, hb⟩ := hrel
    obtain ⟨av, cv, rfl⟩ := ho.form
    have HO := Lib.hid ho
    have HB := Lib.hid hb
    clear ho
    by_cases hlt : k < l.length
    · obtain ⟨s, hs⟩ := at_lt hlt
      obtain ⟨g, o, rfl, hg, c0, c1⟩ := HA.out.at hs
      replace c0 := cell_in hb hg c0
      replace c1 := cell_in hb hg c1
      have hgw := Nat.lt_of_lt_of_le hg hb.size
      have HF := Lib.hid (filter_take fullS l k s hs)
      clear hs hb
      cases hf : fullS s
      · have HFF := Lib.hid hf
        clear hf
        go_wp2_with (go_at_call 58; refine (isEmpty_any s _).mono ?_; rintro r w2 ⟨rfl, rfl⟩; rw [HFF.out])
        go_roundw
        case rel => exact ⟨k + 1, hlt, by go_num, by rw [HF.out, HFF.out]; simp only [Bool.false_eq_true, if_false, List.append_nil]; exact HO.out.later (blAlloc (blAlloc (Below.refl _ _) _) _), blAlloc (blAlloc HB.out _) _⟩
        case measure => simp [intOf]; omega
      · have HFF := Lib.hid hf
        clear hf
        go_wp2_with (first
          | (go_at_call 58; refine (isEmpty_any s _).mono ?_; rintro r w2 ⟨rfl, rfl⟩; rw [HFF.out])
          | (at_builtin; refine append_sp rfl (.tmp 15) (.tmp 17) rfl w.heap.size _ _ rfl (HO.out.later (blAlloc (blAlloc (blAlloc (Below.refl _ _) _) _) _)) _ [s] rfl (one_new _ s _ (by simp)) (by have := HL.out k; simp; omega) (by have := HB.out.size; simp; omega) ?_; intro v' w' h1 h2; have H1 := Lib.hid h1; have H2 := Lib.hid (grown_below (blAlloc (blAlloc (blAlloc HB.out _) _) _) (HO.out.later (blAlloc (blAlloc (blAlloc (Below.refl _ _) _) _) _)) (Nat.le_refl _) (by have := HB.out.size; simp; omega) h2); clear h1 h2))
        go_roundw
        case rel => exact ⟨k + 1, hlt, by go_num, by rw [HF.out, HFF.out]; exact H1.out, H2.out⟩
        case measure => simp [intOf]; omega
    · obtain rfl : k = l.length := by omega
      clear hb
      have HT : Hid ((l.take l.length).filter fullS = l.filter fullS) := by show _ = _; rw [List.take_length]
      rw [HT.out] at HO ⊢
      by_cases hne : l.filter fullS = []
      · have HN := Lib.hid hne
        have hlen0 : (l.filter fullS).length = 0 := by rw [hne]; rfl
        rw [hlen0] at HO ⊢
        clear hne
        go_wp2_with (go_at_call 60; refine (sortfunc_none _ _ _).mono ?_; rintro e w' ⟨rfl, rfl⟩)
        go_ret
        exact ⟨_, [], rfl, by rw [HN.out], List.Pairwise.nil, by have h := HO.out.sl; rwa [HN.out] at h, HB.out⟩
      · obtain ⟨g, cap, he, hg, hgw, _, _, hrow, hfr⟩ := HO.out.row hne
        simp only [Value.slice.injEq] at he
        obtain ⟨rfl, _, rfl⟩ := he
        have HR : Hid (RowC wr g (l.filter fullS)) := ⟨hrow, hfr⟩
        have HLF : Hid ((l.filter fullS).length ≤ 1000000) := Nat.le_trans (List.length_filter_le _ _) hlen
        clear hrow hfr
        go_wp2_with fail
        refine (sortfunc_any g cv (l.filter fullS) _ HLF.out hgw HR.out).mono ?_
        rintro e w2 ⟨rfl, d, hperm, hpw, hbut, hrow2⟩
        have HP := Lib.hid hperm
        have HPW := Lib.hid hpw
        have HB2 : Hid (Below w.heap.size w w2) := HB.out.grown hbut HB.out.size (fun k hk => by cases hk; exact hg)
        have HS : Hid (Sl w2 (.slice (some ⟨g, 0, none⟩) (l.filter fullS).length cv) d) := ⟨_, cv, by rw [hperm.length_eq], fun h => (by cases h), fun _ => ⟨g, 0, rfl, Nat.lt_of_lt_of_le hgw hbut.size, hrow2⟩⟩
        clear hperm hpw hbut hrow2
        go_wp2
        go_ret
        exact ⟨_, d, rfl, HP.out, HPW.out, HS.out, HB2.out⟩

end Go.Proofs.Ytkgfpppbpjinaaa
