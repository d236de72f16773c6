/- A drum's operations: what is asked of each, the power; then what the closure does. Conditions: the closure does what is said of it. -/
import Derived.WalkSpells
import Derived.Test.YtddbmibfebhmjaaMg19
set_option maxRecDepth 100000
set_option maxHeartbeats 16000000
set_option linter.unusedVariables false
namespace Go.Proofs.Ytddbmibfebhmjaa
open S2
namespace SZ
open Go.RowKit
theorem blk_set {w : World} {b i : Nat} {c : Array Value} {t : TypeId} (h : w.heap[b]? = some (.cells c t (0, 0))) (u : Value) : (w.setCell ⟨b, i, none⟩ u).heap[b]? = some (.cells (c.setIfInBounds i u) t (0, 0)) := by
 have hlt := lt_of_block h
 have h' : w.heap[b] = .cells c t (0, 0) := by simpa [Array.getElem?_eq_getElem hlt] using h
 show (w.heap.modify b _)[b]? = _
 rw [Array.getElem?_eq_getElem (by simpa using hlt), Array.getElem_modify_self, h']
 rfl
theorem blk_cell {w : World} {b : Nat} {c : Array Value} {t : TypeId} (h : w.heap[b]? = some (.cells c t (0, 0))) (i : Nat) : w.cell? ⟨b, i, none⟩ = c[i]? := by simp [World.cell?, h]
theorem blk_soft {w : World} {b : Nat} {c : Array Value} {t : TypeId} (h : w.heap[b]? = some (.cells c t (0, 0))) (i : Nat) : w.frozen? ⟨b, i, none⟩ = false := by simp [World.frozen?, h]
theorem keeps_set {w : World} {b i : Nat} (u : Value) : Keeps (fun k => k = b) w (w.setCell ⟨b, i, none⟩ u) := Keeps.setCell (S := fun k => k = b) (p := ⟨b, i, none⟩) (fun _ => rfl) u
theorem wf_bounds {n : Int} (h : (Lit.int .i64 n).wf = true) : -9223372036854775808 ≤ n ∧ n ≤ 9223372036854775807 := by
 simp only [Lit.wf, Bool.and_eq_true, decide_eq_true_eq] at h
 have e1 : IntKind.i64.min = -9223372036854775808 := rfl
 have e2 : IntKind.i64.max = 9223372036854775807 := rfl
 rw [e1, e2] at h
 exact h
theorem check_any (b : Nat) (n : Int) (w : World) : Calls Try.prog 63 #[.pointer (some ⟨b, 0, none⟩), .int .i64 n] w fun r w' => r = .returned (.int .i64 (if goodN n = true then 0 else 2)) ∧ w' = w := by
 by_cases h1 : n < 1
 ·have hg : goodN n = false := by unfold goodN; simp; omega
  rw [hg]
  go_enter Try.func63, Try.ntmps63
  go_wp2
  go_ret
  exact ⟨rfl, rfl⟩
 ·by_cases h2 : 1000 < n
  ·have hg : goodN n = false := by unfold goodN; simp; omega
   rw [hg]
   go_enter Try.func63, Try.ntmps63
   go_wp2
   go_ret
   exact ⟨rfl, rfl⟩
  ·have hg : goodN n = true := by unfold goodN; simp; omega
   rw [hg]
   go_enter Try.func63, Try.ntmps63
   go_wp2
   go_ret
   exact ⟨rfl, rfl⟩
section
variable {w : World} {b : Nat} {S : Nat → Prop} {D : Dm} {m n : Nat} {lf : Int} {M : DataW Value} {tb : Int → Option Nat} {rv : Int → Value}
theorem free_any (h : PMem w b S D m n lf M tb rv) : Calls Try.prog 39 #[.pointer (some ⟨b, 0, none⟩)] w fun r w' => r = .returned (.int .i64 D.free) ∧ w' = w := by
 have c1 := blk_cell h.blk 1
 have hlt := lt_of_block h.blk
 clear h
 simp at c1
 go_enter Try.func39, Try.ntmps39
 go_wp2
 go_ret
 exact ⟨rfl, rfl⟩
theorem ops_any (h : PMem w b S D m n lf M tb rv) : Calls Try.prog 38 #[.pointer (some ⟨b, 0, none⟩)] w fun r w' => r = .returned (.int .i64 D.done) ∧ w' = w := by
 have c1 := blk_cell h.blk 4
 have hlt := lt_of_block h.blk
 clear h
 simp at c1
 go_enter Try.func38, Try.ntmps38
 go_wp2
 go_ret
 exact ⟨rfl, rfl⟩
theorem dead_any (h : PMem w b S D m n lf M tb rv) : Calls Try.prog 37 #[.pointer (some ⟨b, 0, none⟩)] w fun r w' => r = .returned (.bool D.off) ∧ w' = w := by
 have c1 := blk_cell h.blk 3
 have hlt := lt_of_block h.blk
 clear h
 simp at c1
 go_enter Try.func37, Try.ntmps37
 go_wp2
 go_ret
 exact ⟨rfl, rfl⟩
theorem arm_any (h : PMem w b S D m n lf M tb rv) {x : Int} (hx : (Lit.int .i64 x).wf = true) : Calls Try.prog 21 #[.pointer (some ⟨b, 0, none⟩), .int .i64 x] w fun r w' => r = .returned (.tuple #[]) ∧ Keeps (fun k => k = b) w w' ∧ PMem w' b S (armD D x) m n x M tb rv := by
 have hlt := lt_of_block h.blk
 have hf := blk_soft h.blk 2
 have HP := Lib.hid h
 clear h
 have c2 := blk_cell HP.out.blk 2
 simp at c2
 go_enter Try.func21, Try.ntmps21
 go_wp2
 go_end0
 exact ⟨rfl, keeps_set _, HP.out.num (keeps_set _) (blk_set HP.out.blk _) (fun _ => rfl) hx⟩
theorem power_any (h : PMem w b S D m n lf M tb rv) : Calls Try.prog 65 #[.pointer (some ⟨b, 0, none⟩)] w fun r w' => r = .returned (.bool (!(D.off || decide (lf = 0)))) ∧ Keeps (fun k => k = b) w w' ∧
  PMem w' b S ⟨D.l, D.room, if 0 < lf then lf - 1 else lf, D.off || decide (lf = 0), D.done⟩ m n (if 0 < lf then lf - 1 else lf) M tb rv := by
 have hlt := lt_of_block h.blk
 have f2 := blk_soft h.blk 2
 have f3 := blk_soft h.blk 3
 have c2 := blk_cell h.blk 2
 have c3 := blk_cell h.blk 3
 have hw := h.lfw
 have HP := Lib.hid h
 clear h
 simp at c2 c3
 by_cases h0 : lf = 0
 ·subst h0
  go_enter Try.func65, Try.ntmps65
  go_wp2
  go_ret
  exact ⟨by simp, keeps_set _, by simpa using HP.out.num (keeps_set _) (blk_set HP.out.blk _) (fun e => (by cases e)) hw⟩
 ·by_cases h1 : 0 < lf
  ·rw [if_pos h1]
   have hs : wrap64 (lf - 1) = lf - 1 := by
    have := wf_bounds hw
    unfold wrap64; omega
   go_enter Try.func65, Try.ntmps65
   go_wp2
   go_ret
   exact ⟨by simp [h0], keeps_set _, by simpa [h0] using HP.out.num (keeps_set _) (blk_set HP.out.blk _) (fun e => rfl) (by have := wf_bounds hw; exact WalkArith.wf_i64 (by omega))⟩
  ·rw [if_neg h1]
   go_enter Try.func65, Try.ntmps65
   go_wp2
   go_ret
   have hd : decide (lf = 0) = false := by simpa using h0
   exact ⟨by simp, Keeps.refl _ _, by simpa [h0] using HP.out.num (Keeps.refl _ _) HP.out.blk (fun e => rfl) hw⟩
theorem PMem.relabel {l : List Fil} {room x : Int} {done : Nat} (h : PMem w b S ⟨l, room, x, true, done⟩ m n lf M tb rv) (y : Int) : PMem w b S ⟨l, room, y, true, done⟩ m n lf M tb rv :=
 ⟨h.good.with _ _ _, h.blk, (fun e => by cases e), h.lfw, h.map, h.rep, h.key, h.trk, h.row, h.inj, h.apart, h.sb, h.sm, h.slt⟩
end

theorem PAx.keep {x : Nat} {w w' : World} {b : Nat} {S T : Nat → Prop} {D : Dm} (h : PAx x w b S D) (hk : Keeps T w w') (hT : ∀ k, S k → ¬ T k) : PAx x w' b S D := by
 obtain ⟨m, n, lf, M, tb, rv, h, hc⟩ := h
 exact ⟨m, n, lf, M, tb, rv, h.keep hk hT, hc⟩
theorem PAx.own {x : Nat} {w : World} {b : Nat} {S : Nat → Prop} {D : Dm} (h : PAx x w b S D) : S b := by
 obtain ⟨m, n, lf, M, tb, rv, h, hc⟩ := h
 exact h.sb
theorem PAx.lt {x : Nat} {w : World} {b : Nat} {S : Nat → Prop} {D : Dm} (h : PAx x w b S D) : ∀ k, S k → k < w.heap.size := by
 obtain ⟨m, n, lf, M, tb, rv, h, hc⟩ := h
 exact h.slt
def Does (g : Nat) (caps : Array Value) (b : Nat) (S : Nat → Prop) (D : Dm) (k : Dm → Int × Dm) (w : World) : Prop :=
 ∀ (w1 : World) (left : Int), Keeps (fun x => x = b) w w1 → PAt w1 b S ⟨D.l, D.room, left, false, D.done⟩ →
  Calls Try.prog g caps w1 fun r w' => r = .returned (.int .i64 (k ⟨D.l, D.room, left, false, D.done⟩).1) ∧ Keeps S w1 w' ∧ PAx (if (k ⟨D.l, D.room, left, false, D.done⟩).1 = 0 then 1 else 0) w' b (Grow S w1 w') { (k ⟨D.l, D.room, left, false, D.done⟩).2 with done := D.done }
def Counts (k : Dm → Int × Dm) : Prop := ∀ D : Dm, ((k D).1 = 0 ∧ (k D).2.done = D.done + 1) ∨ ((k D).1 ≠ 0 ∧ (k D).2 = D)
theorem counts_append (n : Int) (bs : List UInt8) : Counts (appendK n bs) := fun D => by
 unfold appendK
 split
 ·exact .inr ⟨(fun h => by cases h), rfl⟩
 ·exact .inl ⟨rfl, rfl⟩
theorem counts_sync (n : Int) : Counts (syncK n) := fun D => by
 unfold syncK
 split
 ·exact .inl ⟨rfl, rfl⟩
 ·exact .inr ⟨(fun h => by cases h), rfl⟩
theorem counts_delete (n : Int) : Counts (deleteK n) := fun D => by
 unfold deleteK
 split
 ·exact .inl ⟨rfl, rfl⟩
 ·exact .inr ⟨(fun h => by cases h), rfl⟩
theorem operate_any {w : World} {b : Nat} {S : Nat → Prop} {D : Dm} {n : Int} {g : Nat} {caps : Array Value} {k : Dm → Int × Dm} (eg : ∀ args w, (callFunc g args).run Try.prog w = .ok (.enter g args) w) (h : PAt w b S D) (hc : Counts k) (hd : D.done < 4000000) (hk : goodN n = true → Does g caps b S D k w) :
  Calls Try.prog 40 #[.pointer (some ⟨b, 0, none⟩), .int .i64 n, .func (.func g) #[] caps] w fun r w' => r = .returned (.int .i64 (opD D n k).1) ∧ Keeps S w w' ∧ PAt w' b (Grow S w w') (opD D n k).2 := by
 obtain ⟨m, nn, lf, M, tb, rv, hp, hcnt⟩ := h
 have HP := Lib.hid hp
 have HK := Lib.hid hk
 have HC := Lib.hid hc
 have hgrow : ∀ (w' : World), w.heap.size ≤ w'.heap.size → ∀ k, S k → Grow S w w' k := fun _ _ _ h => .inl h
 clear hp hk hc
 cases hg : goodN n
 ·go_enter Try.func40, Try.ntmps40
  have hck := check_any b n
  rw [hg] at hck
  have HCK := Lib.hid hck
  clear hck
  go_wp2_with (go_at_call 63; refine (HCK.out _).mono ?_; rintro r w' ⟨rfl, rfl⟩)
  go_ret
  unfold opD
  rw [if_pos hg]
  exact ⟨rfl, Keeps.refl _ _, m, nn, lf, M, tb, rv, HP.out.wide (fun k hk => .inl hk) (fun k hk => by rcases hk with hk | hk; exact HP.out.slt k hk; omega), hcnt⟩
 ·have hck := check_any b n
  rw [hg] at hck
  have HCK := Lib.hid hck
  have HPW := Lib.hid (power_any HP.out)
  clear hck
  cases hcc : (D.off || decide (lf = 0))
  ·have hoff : D.off = false := by
    cases h : D.off
    ·rfl
    ·rw [h] at hcc; cases hcc
   have hl0 : ¬ lf = 0 := by
    intro h
    rw [hoff, h] at hcc
    cases hcc
   have hle : lf = D.left := HP.out.lfe hoff
   have hpw := HPW.out
   rw [hcc] at hpw
   have HPW' := Lib.hid hpw
   have hbS := HP.out.sb
   have HDO := HK.out hg
   have hopd : opD D n k = k ⟨D.l, D.room, if 0 < lf then lf - 1 else lf, false, D.done⟩ := by
    unfold opD
    rw [if_neg (by rw [hg]; decide), if_neg (by rw [hoff, ← hle]; simpa using hl0), hle, hoff]
   have hcount := HC.out ⟨D.l, D.room, if 0 < lf then lf - 1 else lf, false, D.done⟩
   rw [hopd]
   have HD := Lib.hid (fun w1 h1 h2 => HDO w1 (if 0 < lf then lf - 1 else lf) h1 h2)
   generalize hE : (⟨D.l, D.room, if 0 < lf then lf - 1 else lf, false, D.done⟩ : Dm) = E at *
   have hEd : E.done = D.done := by rw [← hE]
   generalize hkE : k E = r at *
   obtain ⟨e, F⟩ := r
   have HCT := Lib.hid hcount
   have HED := Lib.hid hEd
   clear hpw HPW HDO hopd HC HK hcc hoff hle hl0 hE hkE hcount hEd
   by_cases he : e = 0
   ·subst he
    have HD1 : Hid (∀ w1, Keeps (fun x => x = b) w w1 → PAt w1 b S E → Calls Try.prog g caps w1 fun r w' => r = .returned (.int .i64 0) ∧ Keeps S w1 w' ∧ PAx 1 w' b (Grow S w1 w') { F with done := D.done }) := Lib.hid (fun w1 h1 h2 => by simpa using HD.out w1 h1 h2)
    have hFd : F.done = D.done + 1 := by
     rcases HCT.out with h | h
     ·rw [← HED.out]; exact h.2
     ·exact absurd rfl h.1
    clear HD
    go_enter Try.func40, Try.ntmps40
    go_wp2_with (first
     | (go_at_call 63; refine (HCK.out _).mono ?_; rintro r w' ⟨rfl, rfl⟩)
     | (go_at_call 65; refine HPW'.out.mono ?_; rintro r w1 ⟨rfl, hk1, hp1⟩; have HK1 := Lib.hid hk1; have HP1 := Lib.hid hp1; clear hk1 hp1))
    refine (HD1.out w1 HK1.out ⟨m, nn, _, M, tb, rv, HP1.out, by rw [HED.out]; exact hcnt⟩).mono ?_
    rintro r w2 ⟨rfl, hk2, m2, n2, lf2, M2, tb2, rv2, hp2, hc2⟩
    have HK2 := Lib.hid hk2
    have HP2 := Lib.hid hp2
    have hlt2 := lt_of_block hp2.blk
    have f4 := blk_soft hp2.blk 4
    have c4 := blk_cell hp2.blk 4
    simp at c4
    have hw1 : wrap64 ((D.done : Int) + 1) = (D.done : Int) + 1 := by unfold wrap64; omega
    have HC2 := Lib.hid hc2
    clear hk2 hp2 hc2
    go_wp2
    go_ret
    have hp2 := HP2.out
    have hk3 : Keeps (fun k => k = b) w2 (w2.setCell ⟨b, 4, none⟩ (.int .i64 ((D.done : Int) + 1))) := keeps_set _
    have hp3 := hp2.num (w' := w2.setCell ⟨b, 4, none⟩ (.int .i64 ((D.done : Int) + 1))) (lf' := lf2) (left' := F.left) (off' := F.off) (done' := D.done + 1) hk3 (by have := blk_set (i := 4) hp2.blk (.int .i64 ((D.done : Int) + 1)); simpa using this) hp2.lfe hp2.lfw
    have hF : (⟨F.l, F.room, F.left, F.off, D.done + 1⟩ : Dm) = F := by rw [← hFd]
    refine ⟨rfl, ((HK1.out.mono (fun x _ e => by rw [e]; exact hbS)).then HK2.out).then (hk3.mono fun x _ e => by rw [e]; exact hbS), m2, n2, lf2, M2, tb2, rv2, ?_, ?_⟩
    ·have hs1 := HK1.out.size
     have hs2 := HK2.out.size
     have hs3 := hk3.size
     rw [← hF]
     refine hp3.wide (fun k hk => ?_) (fun k hk => ?_)
     ·rcases hk with hk | hk
      ·exact .inl hk
      ·exact .inr ⟨Nat.le_trans hs1 hk.1, Nat.lt_of_lt_of_le hk.2 hs3⟩
     ·rcases hk with hk | hk
      ·exact hp3.slt k (.inl hk)
      ·exact hk.2
    ·rw [hFd]
     exact HC2.out
   ·have hFE : F = E := by
     rcases HCT.out with h | h
     ·exact absurd h.1 he
     ·exact h.2
    subst hFE
    have HD1 : Hid (∀ w1, Keeps (fun x => x = b) w w1 → PAt w1 b S F → Calls Try.prog g caps w1 fun r w' => r = .returned (.int .i64 e) ∧ Keeps S w1 w' ∧ PAt w' b (Grow S w1 w') F) := Lib.hid (fun w1 h1 h2 => by
     have := HD.out w1 h1 h2
     simp only [if_neg he] at this
     have e2 : ({ F with done := D.done } : Dm) = F := by rw [← HED.out]
     rw [e2] at this
     exact this)
    have hdec : decide (e = 0) = false := by simpa using he
    clear HD
    go_enter Try.func40, Try.ntmps40
    go_wp2_with (first
     | (go_at_call 63; refine (HCK.out _).mono ?_; rintro r w' ⟨rfl, rfl⟩)
     | (go_at_call 65; refine HPW'.out.mono ?_; rintro r w1 ⟨rfl, hk1, hp1⟩; have HK1 := Lib.hid hk1; have HP1 := Lib.hid hp1; clear hk1 hp1))
    refine (HD1.out w1 HK1.out ⟨m, nn, _, M, tb, rv, HP1.out, by rw [HED.out]; exact hcnt⟩).mono ?_
    rintro r w2 ⟨rfl, hk2, m2, n2, lf2, M2, tb2, rv2, hp2, hc2⟩
    have HK2 := Lib.hid hk2
    have HP2 := Lib.hid hp2
    have HC2 := Lib.hid hc2
    clear hk2 hp2 hc2
    go_wp2
    go_ret
    refine ⟨rfl, (HK1.out.mono (fun x _ e => by rw [e]; exact hbS)).then HK2.out, m2, n2, lf2, M2, tb2, rv2, ?_, HC2.out⟩
    have hs1 := HK1.out.size
    refine HP2.out.wide (fun k hk => ?_) (fun k hk => ?_)
    ·rcases hk with hk | hk
     ·exact .inl hk
     ·exact .inr ⟨Nat.le_trans hs1 hk.1, hk.2⟩
    ·rcases hk with hk | hk
     ·exact HP2.out.slt k (.inl hk)
     ·exact hk.2
  ·have hopd : opD D n k = (140, { D with off := true }) := by
    unfold opD
    rw [if_neg (by rw [hg]; decide), if_pos]
    cases h : D.off
    ·right
     rw [h] at hcc
     rw [← HP.out.lfe h]
     simpa using hcc
    ·exact .inl rfl
   rw [hopd]
   have hpw := HPW.out
   rw [hcc] at hpw
   have HPW' := Lib.hid hpw
   have hbS := HP.out.sb
   clear hpw HPW hopd hcc HK HC
   go_enter Try.func40, Try.ntmps40
   go_wp2_with (first
    | (go_at_call 63; refine (HCK.out _).mono ?_; rintro r w' ⟨rfl, rfl⟩)
    | (go_at_call 65; refine HPW'.out.mono ?_; rintro r w1 ⟨rfl, hk1, hp1⟩; have HK1 := Lib.hid hk1; have HP1 := Lib.hid hp1; clear hk1 hp1))
   go_ret
   refine ⟨rfl, HK1.out.mono (fun x _ e => by rw [e]; exact hbS), m, nn, _, M, tb, rv, (HP1.out.relabel D.left).wide (fun k hk => .inl hk) (fun k hk => ?_), hcnt⟩
   rcases hk with hk | hk
   ·exact HP1.out.slt k hk
   ·exact hk.2
end SZ
end Go.Proofs.Ytddbmibfebhmjaa
