/- The program's Check of Deps. Conditions: lists of at most a million, with a million stamps in all. -/
import Derived.Maps.AppendAt
import Derived.Test.YtgipkikedacmdaaGreatMg18
set_option maxRecDepth 100000
set_option maxHeartbeats 16000000
set_option linter.unusedVariables false
namespace Go.Proofs.YtgipkikedacmdaaGreat
open Go.Lib renaming hid → hI
open S1
namespace SD
open Go.RowKit
def HasG (w : World) (v : Value) (l : List Dp) : Prop := ∀ s ∈ l, IdsAt w s ∧ (s.ids ≠ [] → ∀ p, s.ia = some p → v.ownBlock ≠ some p.block)
theorem HasG.nil (w : World) (v : Value) : HasG w v [] := fun s h => (by cases h)
theorem HasG.later {W wr : World} {v : Value} {l : List Dp} (h : HasG W v l) (hb : Below W.heap.size W wr) : HasG wr v l := fun s hs => ⟨(h s hs).1.later hb, (h s hs).2⟩
theorem idsAt_grown {w w' : World} {v : Value} {s : Dp} (h : IdsAt w s) (hne : s.ids ≠ [] → ∀ p, s.ia = some p → v.ownBlock ≠ some p.block) (hg : w.grownBy w' v.ownBlock) : IdsAt w' s := by
 refine ⟨fun hn => ?_, h.2⟩
 obtain ⟨b, o, ha, hb, hl⟩ := h.1 hn
 have hk := hg.block b hb (fun e => hne hn _ ha e.symm)
 refine ⟨b, o, ha, Nat.lt_of_lt_of_le hb hg.size, fun i x y hi => ?_⟩
 obtain ⟨h1, h2⟩ := hl i x y hi
 exact ⟨(World.cell?_of_block (w := w) hk).trans h1, (World.cell?_of_block (w := w) hk).trans h2⟩
theorem HasG.push {w w' : World} {v v' : Value} {l : List Dp} {m : Dp} (h : HasG w v l) (hm : IdsAt w m) (hmv : m.ids ≠ [] → ∀ p, m.ia = some p → v.ownBlock ≠ some p.block) (hg : w.grownBy w' v.ownBlock) (hv : v'.ownBlock = v.ownBlock ∨ v'.ownBlock = some w.heap.size) : HasG w' v' (l ++ [m]) := by
 have key : ∀ s, IdsAt w s → (s.ids ≠ [] → ∀ p, s.ia = some p → v.ownBlock ≠ some p.block) → IdsAt w' s ∧ (s.ids ≠ [] → ∀ p, s.ia = some p → v'.ownBlock ≠ some p.block) := by
  intro s hs hsv
  refine ⟨idsAt_grown hs hsv hg, fun hn p hp => ?_⟩
  rcases hv with e | e
  ·rw [e]
   exact hsv hn p hp
  ·rw [e]
   obtain ⟨b, o, ha, hb, _⟩ := hs.1 hn
   rw [ha] at hp
   obtain rfl := Option.some.inj hp
   intro e2
   have := Option.some.inj e2
   simp at this
   omega
 intro s hs
 rcases List.mem_append.1 hs with hs | hs
 ·exact key s (h s hs).1 (h s hs).2
 ·rw [List.mem_singleton] at hs
  subst hs
  exact key _ hm hmv
theorem apart_g {w w1 w6 : World} {base : Nat} {v : Value} {F : List Dp} {a : Option Addr} {ids : List (Int × Int)} (ho : OwnD w base v F) (h1 : SL w6 a ids) (h3 : ∀ b o, a = some ⟨b, o, none⟩ → w1.heap.size ≤ b) (hle : w.heap.size ≤ w1.heap.size) : ids ≠ [] → ∀ p, a = some p → v.ownBlock ≠ some p.block := by
 intro hn p hp e
 obtain ⟨b, o, ha, _, _⟩ := h1 hn
 rw [ha] at hp
 obtain rfl := Option.some.inj hp
 have := h3 b o ha
 have := (ho.block b e).2
 omega
theorem step_dp {ops : Array Oper} {o : Oper} {a : Act} {w : World} {K : Act → World → Prop} {Q : Exit → Act → World → Prop} {E : Prop} (hg : o.guard = none) (s x : Operand)
  (ho : o.op = .call { callee := .builtin .append, args := #[s, x], argTypes := #[25, 25] }) (base : Nat) {v : Value} {d : List Dp} {ad : Addr} {cap : Nat} {m : Dp} (hs : a.eval s = v) (hx : a.eval x = .slice (some ad) 1 cap)
  (hown : OwnD w base v d) (hc : ∀ (j : Nat) (u : Value), (cellsD [m])[j]? = some u → w.cell? (ad.add j) = some u) (hlen : d.length ≤ 1000000) (hbase : base ≤ w.heap.size)
  (h : ∀ v' w', OwnD w' base v' (d ++ [m]) → w.grownBy w' v.ownBlock → (v'.ownBlock = v.ownBlock ∨ v'.ownBlock = some w.heap.size) → K (a.put o.dst v') w') :
  if Region.wanted o (yielded ops a.tmps) = true then Oper.wp Tryz.prog o a w K Q else E := by
 have hw : Region.wanted o (yielded ops a.tmps) = true := by simp [Region.wanted, hg]
 rw [if_pos hw]
 obtain ⟨i0, hi, hz0, hz1, hz2⟩ := info_parts info_dp
 obtain ⟨v', w', hr, h2, h3, _, h5⟩ := run_append_own_at (P := Tryz.prog) w base 25 o.type 82 i0 (.agg #[.int .i64 0, .slice none 0 0]) 2 32 Tryz.underlying25 hi hz0 hz1 hz2 rfl (by decide) v d.length (cellsD d) hown ad 1 cap (cellsD [m]) rfl hc (cellsD_one [m]) (by unfold maxLen; omega) (by omega) hbase
 unfold Oper.wp execOp
 simp only [ho, resolve, invoke, builtin, Sem.run_bind, Sem.run_pure, Result.andThen_ok, List.map_toArray, List.map_cons, List.map_nil, hs, hx, hr]
 refine h v' w' ?_ h3 h5
 show w'.ownsRow base _ 2 v' _ _
 rw [List.length_append, cellsD_append]
 exact h2
theorem dp_one {w0 W : World} {m : Dp} {b : Nat} (hb : b = w0.heap.size) (hW : W.heap = (w0.alloc (.cells #[.int .i64 m.sh, ilD m] 82)).heap) : ∀ (j : Nat) (u : Value), (cellsD [m])[j]? = some u → W.cell? ((⟨b, 0, none⟩ : Addr).add j) = some u := by
 have h := one_newD w0 m b hb.symm
 intro j u hj
 have h2 := h.cells j u hj
 have e : W.cell? ((⟨b, 0, none⟩ : Addr).add j) = (w0.alloc (.cells #[.int .i64 m.sh, ilD m] 82)).cell? ((⟨b, 0, none⟩ : Addr).add j) := by
  simp only [World.cell?, hW]
 rw [e]
 exact h2

def Bx (w : World) (b : Nat) (sh : Int) (v : Value) : Prop := w.heap[b]? = some (.cells #[.int .i64 sh, v] 82 (0, 0))
theorem Bx.lt {w : World} {b : Nat} {sh : Int} {v : Value} (h : Bx w b sh v) : b < w.heap.size := lt_of_block h
theorem Bx.c0 {w : World} {b : Nat} {sh : Int} {v : Value} (h : Bx w b sh v) : w.cell? ⟨b, 0, none⟩ = some (.int .i64 sh) := by unfold Bx at h; simp only [World.cell?, h]; rfl
theorem Bx.c1 {w : World} {b : Nat} {sh : Int} {v : Value} (h : Bx w b sh v) : w.cell? ⟨b, 1, none⟩ = some v := by unfold Bx at h; simp only [World.cell?, h]; rfl
theorem Bx.f {w : World} {b : Nat} {sh : Int} {v : Value} (h : Bx w b sh v) (i : Nat) : w.frozen? ⟨b, i, none⟩ = false := by unfold Bx at h; simp [World.frozen?, h]
theorem Bx.later {B : Nat} {w wr : World} {b : Nat} {sh : Int} {v : Value} (h : Bx w b sh v) (hw : Below B w wr) (hb : b < B) : Bx wr b sh v := (hw.block b hb).trans h
theorem append_dp1 {w : World} {ops : Array Oper} {rest : List Oper} {o : Oper} {a : Act} {Q : Exit → Act → World → Prop} (hgd : o.guard = none) (s x : Operand)
  (ho : o.op = .call { callee := .builtin .append, args := #[s, x], argTypes := #[25, 25] }) (base : Nat) {v : Value} {d : List Dp} {ad : Addr} {cap : Nat} {m : Dp} (hs : a.eval s = v) (hx : a.eval x = .slice (some ad) 1 cap)
  (hown : OwnD w base v d) (hc : ∀ (j : Nat) (u : Value), (cellsD [m])[j]? = some u → w.cell? (ad.add j) = some u) (hlen : d.length ≤ 1000000) (hbase : base ≤ w.heap.size)
  (h : ∀ v' w', OwnD w' base v' (d ++ [m]) → w.grownBy w' v.ownBlock → (v'.ownBlock = v.ownBlock ∨ v'.ownBlock = some w.heap.size) → wpList Tryz.prog ops Q rest (a.put o.dst v') w') : wpList Tryz.prog ops Q (o :: rest) a w := by
 refine wpList_plain hgd fun _ hK => ?_
 obtain ⟨i0, hi, hz0, hz1, hz2⟩ := info_parts info_dp
 obtain ⟨v', w', hr, h2, h3, _, h5⟩ := run_append_own_at (P := Tryz.prog) w base 25 o.type 82 i0 (.agg #[.int .i64 0, .slice none 0 0]) 2 32 Tryz.underlying25 hi hz0 hz1 hz2 rfl (by decide) v d.length (cellsD d) hown ad 1 cap (cellsD [m]) rfl hc (cellsD_one [m]) (by unfold maxLen; omega) (by omega) hbase
 unfold Oper.wp execOp
 simp only [ho, resolve, invoke, builtin, Sem.run_bind, Sem.run_pure, Result.andThen_ok, List.map_toArray, List.map_cons, List.map_nil, hs, hx, hr]
 refine hK _ _ (h v' w' ?_ h3 h5)
 show w'.ownsRow base _ 2 v' _ _
 rw [List.length_append, cellsD_append]
 exact h2
theorem withoutD_take {l : List Dp} {k : Nat} {s : Dp} {X : List (Int × Int)} (h : l[k]? = some s) : withoutD ((toD l).take (k + 1)) X = withoutD ((toD l).take k) X ++ [(s.sh, s.ids.filter fun i => !X.contains i)] := by
 unfold withoutD
 rw [List.take_add_one, toD_at h, List.map_append]
 rfl

def lastD (p : Int) : Dd → Int
 | [] => p
 | x :: r => lastD x.1 r
theorem depsF_append : ∀ (a b : Dd) (p : Int), depsF p (a ++ b) = (depsF p a && depsF (lastD p a) b) := by
 intro a
 induction a with
 | nil => intro b p; rfl
 | cons x r ih =>
  intro b p
  show depsF p (x :: (r ++ b)) = _
  have e1 : depsF p (x :: (r ++ b)) = (decide (p < x.1) && (decide (x.1 < 8) && (risB x.2 && (x.2.all isS && depsF x.1 (r ++ b))))) := rfl
  have e2 : depsF p (x :: r) = (decide (p < x.1) && (decide (x.1 < 8) && (risB x.2 && (x.2.all isS && depsF x.1 r)))) := rfl
  have e3 : lastD p (x :: r) = lastD x.1 r := rfl
  rw [e1, e2, e3, ih]
  simp only [Bool.and_assoc]
theorem lastD_snoc (a : Dd) (x : Int × List (Int × Int)) : ∀ p, lastD p (a ++ [x]) = x.1 := by
 induction a with
 | nil => intro p; rfl
 | cons y r ih => intro p; exact ih y.1
theorem lastD_take {d : Dd} {k : Nat} {x : Int × List (Int × Int)} (h : d[k]? = some x) (p : Int) : lastD p (d.take (k + 1)) = x.1 := by
 rw [List.take_add_one, h]
 exact lastD_snoc _ _ _
theorem depsF_take {d : Dd} {k : Nat} {x : Int × List (Int × Int)} (h : d[k]? = some x) (ht : depsF (-1) (d.take k) = true) : depsF (-1) (d.take (k + 1)) = (decide (lastD (-1) (d.take k) < x.1) && (decide (x.1 < 8) && (risB x.2 && x.2.all isS))) := by
 rw [List.take_add_one, h]
 show depsF (-1) (d.take k ++ [x]) = _
 rw [depsF_append, ht]
 show (true && (decide _ && (decide _ && (risB x.2 && (x.2.all isS && true))))) = _
 simp
theorem depsF_cut {d : Dd} {k : Nat} (h : depsF (-1) (d.take k) = false) : depsF (-1) d = false := by
 have e := depsF_append (d.take k) (d.drop k) (-1)
 rw [List.take_append_drop, h] at e
 simpa using e
theorem lastD_ge : ∀ {d : Dd} {p : Int}, depsF p d = true → p ≤ lastD p d := by
 intro d
 induction d with
 | nil => intro p _; exact Int.le_refl _
 | cons x r ih =>
  intro p h
  have e : depsF p (x :: r) = (decide (p < x.1) && (decide (x.1 < 8) && (risB x.2 && (x.2.all isS && depsF x.1 r)))) := rfl
  rw [e] at h
  simp only [Bool.and_eq_true, decide_eq_true_eq] at h
  have := ih h.2.2.2.2
  show p ≤ lastD x.1 r
  omega
theorem check_bad {d : Dd} (h1 : d.length ≤ 8) (h2 : idsN d ≤ 512) (h : depsF (-1) d = false) : checkD d = 60 := by
 unfold checkD
 rw [if_neg (by omega), h]
 rfl
theorem check_good {d : Dd} (h1 : d.length ≤ 8) (h2 : idsN d ≤ 512) (h : depsF (-1) d = true) : checkD d = 0 := by
 unfold checkD
 rw [if_neg (by omega), h]
 rfl
theorem check_many {d : Dd} (h : 8 < d.length ∨ 512 < idsN d) : checkD d = 6 := by
 unfold checkD
 rw [if_pos h]
theorem all_take {l : List (Int × Int)} {j : Nat} {x : Int × Int} (h : l[j]? = some x) (ht : (l.take j).all isS = true) : (l.take (j + 1)).all isS = isS x := by
 rw [List.take_add_one, h, List.all_append, ht]
 simp
theorem all_cut {l : List (Int × Int)} {j : Nat} (h : (l.take j).all isS = false) : l.all isS = false := by
 have e : (l.take j ++ l.drop j).all isS = ((l.take j).all isS && (l.drop j).all isS) := List.all_append
 rw [List.take_append_drop, h] at e
 simpa using e
theorem refcheck_any (a : Option Addr) (c : Nat) (l : List Dp) (w : World) (hf : FewD l) (hn : idsN (toD l) ≤ 1000000) (hl : Dl w a l) :
  Calls Tryz.prog 58 #[.slice a l.length c] w fun e w' => e = .returned (.int .i64 (checkD (toD l))) ∧ Below w.heap.size w w' := by
 have HL := hI hl
 have HF := hI hf
 have HNN := hI hn
 have hlen := hf.1
 clear hl hf
 go_enter Tryz.func58, Tryz.ntmps58
 go_wp2
 go_loopw [3, 4] (fun v i wr => ∃ k : Nat, k ≤ l.length ∧ v = .int .i64 (idsN ((toD l).take k) : Nat) ∧ i = .int .i64 k ∧ Below w.heap.size w wr) (fun _ i _ => l.length - (RowKit.intOf i).toNat)
 case atStart => exact ⟨0, Nat.zero_le _, rfl, rfl, Below.refl _ _⟩
 case round =>
  obtain ⟨k, hk, rfl, rfl, hb⟩ := hrel
  have HB := hI hb
  clear hb
  by_cases hlt : k < l.length
  ·obtain ⟨s, hs⟩ := at_ltD hlt
   obtain ⟨b, o, rfl, hbg, hx, hy, hi⟩ := (HL.out.later HB.out).at hs
   have hk1 : (k : Int) < (l.length : Int) := by omega
   have hk0 : (0 : Int) ≤ (k : Int) := by omega
   have hdk : decide ((k : Int) < (l.length : Int)) = true := decide_eq_true hk1
   have HFT := hI (idsN_take (toD_at hs))
   have hsl : s.ids.length ≤ 1000000 := HF.out.2 s (List.mem_of_getElem? hs)
   have hnk : idsN ((toD l).take k) ≤ 1000000 := Nat.le_trans (idsN_take_le _ _) HNN.out
   unfold ilD at hy
   clear hs hi
   generalize hG : idsN ((toD l).take k) = G at *
   clear hG
   go_wp2
   go_roundw
   case rel => exact ⟨k + 1, hlt, by rw [HFT.out]; go_num, by go_num, HB.out⟩
   case measure => simp [RowKit.intOf]; omega
  ·have hge : ¬ (k : Int) < (l.length : Int) := by omega
   have hdk : decide ((k : Int) < (l.length : Int)) = false := decide_eq_false hge
   have HTK : Hid (idsN ((toD l).take k) = idsN (toD l)) := by
    show _ = _
    rw [List.take_of_length_le (by rw [toD_length]; omega)]
   rw [HTK.out]
   generalize hG : idsN (toD l) = G at *
   have HG := hI hG
   have hGn : G ≤ 1000000 := HNN.out
   clear hG HTK
   have HLE : Hid ((toD l).length = l.length) := toD_length l
   by_cases h8 : 8 < l.length
   ·have hd1 : decide ((8 : Int) < (l.length : Int)) = true := decide_eq_true (by omega)
    have HC : Hid (checkD (toD l) = 6) := check_many (.inl (by rw [HLE.out]; exact h8))
    go_wp2
    go_ret
    exact ⟨by rw [HC.out]; rfl, HB.out⟩
   ·have hd1 : decide ((8 : Int) < (l.length : Int)) = false := decide_eq_false (by omega)
    by_cases h5 : 512 < G
    ·have hd2 : decide ((512 : Int) < (G : Int)) = true := decide_eq_true (by omega)
     have HC : Hid (checkD (toD l) = 6) := check_many (.inr (by rw [HG.out]; exact h5))
     go_wp2
     go_ret
     exact ⟨by rw [HC.out]; rfl, HB.out⟩
    ·have hd2 : decide ((512 : Int) < (G : Int)) = false := decide_eq_false (by omega)
     have HBAD : Hid (depsF (-1) (toD l) = false → checkD (toD l) = 60) := check_bad (by rw [HLE.out]; omega) (by rw [HG.out]; omega)
     have HGOOD : Hid (depsF (-1) (toD l) = true → checkD (toD l) = 0) := check_good (by rw [HLE.out]; omega) (by rw [HG.out]; omega)
     go_wp2
     go_loopw [5, 6] (fun i u wr => ∃ k : Nat, k ≤ l.length ∧ i = .int .i64 k ∧ depsF (-1) ((toD l).take k) = true ∧ Below w.heap.size w wr) (fun i _ _ => l.length - (RowKit.intOf i).toNat)
     case atStart => exact ⟨0, Nat.zero_le _, rfl, rfl, HB.out⟩
     case round =>
      clear HB
      obtain ⟨k, hk, rfl, hd, hb⟩ := hrel
      have HB := hI hb
      have HD := hI hd
      clear hb hd
      by_cases hlt : k < l.length
      ·obtain ⟨s, hs⟩ := at_ltD hlt
       obtain ⟨b, o, rfl, hbg0, hx0, hy0, hi0⟩ := HL.out.at hs
       have hk1 : (k : Int) < (l.length : Int) := by omega
       have hk0 : (0 : Int) ≤ (k : Int) := by omega
       have hdk2 : decide ((k : Int) < (l.length : Int)) = true := decide_eq_true hk1
       have HDT := hI (depsF_take (toD_at hs) HD.out)
       have hsl : s.ids.length ≤ 1000000 := HF.out.2 s (List.mem_of_getElem? hs)
       have HE := hI (fun (W : World) (hb : Below w.heap.size w W) => (⟨cell_in hb hbg0 hx0, cell_in hb hbg0 hy0, Nat.lt_of_lt_of_le hbg0 hb.size, hi0.later hb⟩ : W.cell? ⟨b, o + k * 2, none⟩ = some (.int .i64 s.sh) ∧ W.cell? ⟨b, o + k * 2 + 1, none⟩ = some (ilD s) ∧ b < W.heap.size ∧ IdsAt W s))
       obtain ⟨hx, hy, hbg, hi⟩ := HE.out _ HB.out
       have HI := hI hi
       clear hbg0 hx0 hy0 hi0
       have HPV : Hid (∀ j, k = j + 1 → ∃ y : Dp, l[j]? = some y ∧ lastD (-1) ((toD l).take k) = y.sh) := by
        intro j hj
        obtain ⟨y, hy⟩ := at_ltD (l := l) (k := j) (by omega)
        exact ⟨y, hy, by rw [hj]; exact lastD_take (toD_at hy) _⟩
       have hpg : -1 ≤ lastD (-1) ((toD l).take k) := lastD_ge HD.out
       have HPZ : Hid (k = 0 → lastD (-1) ((toD l).take k) = -1) := fun h => by rw [h]; rfl
       unfold ilD at hy HE
       clear hs hi
       generalize hp : lastD (-1) ((toD l).take k) = p at *
       clear hp
       by_cases h0 : s.sh < 0
       ·have hd0 : decide (s.sh < 0) = true := decide_eq_true h0
        have HC : Hid (checkD (toD l) = 60) := HBAD.out (depsF_cut (k := k + 1) (by rw [HDT.out, decide_eq_false (show ¬ p < s.sh by omega)]; rfl))
        go_wp2_with fail
        refine region_aft (by kernel_rfl) (by kernel_rfl) ?_
        repeat (go_big_quiet_step (fail))
        refine wpQuiet_nil ?_
        rintro w2 ⟨z, rfl⟩
        go_wp2
        go_ret
        exact ⟨by rw [HC.out]; rfl, blThen HB.out z.h⟩
       ·have hd0 : decide (s.sh < 0) = false := decide_eq_false h0
        by_cases h8 : 8 ≤ s.sh
        ·have hd8 : decide (8 ≤ s.sh) = true := decide_eq_true h8
         have HC : Hid (checkD (toD l) = 60) := HBAD.out (depsF_cut (k := k + 1) (by rw [HDT.out, decide_eq_false (show ¬ s.sh < 8 by omega)]; simp))
         go_wp2_with fail
         refine region_aft (by kernel_rfl) (by kernel_rfl) ?_
         repeat (go_big_quiet_step (fail))
         refine wpQuiet_nil ?_
         rintro w2 ⟨z, rfl⟩
         go_wp2
         go_ret
         exact ⟨by rw [HC.out]; rfl, blThen HB.out z.h⟩
        ·have hd8 : decide (8 ≤ s.sh) = false := decide_eq_false h8
         by_cases hkz : k = 0
         ·have hdz : decide ((0 : Int) < (k : Int)) = false := decide_eq_false (by omega)
          have hps : p < s.sh := by have := HPZ.out hkz; omega
          have hdz2 : decide (0 < k) = false := decide_eq_false (by omega)
          have HKZ := hI hkz
          clear hkz
          have HLO : Hid (decide (p < s.sh) = true) := decide_eq_true hps
          have H8 : Hid (decide (s.sh < 8) = true) := decide_eq_true (by omega)
          generalize hq : risB s.ids = q at *
          have HQ := hI hq
          clear hq
          cases q
          ·have HC : Hid (checkD (toD l) = 60) := HBAD.out (depsF_cut (k := k + 1) (by rw [HDT.out]; simp))
           go_wp2_with fail
           refine region_aft (by kernel_rfl) (by kernel_rfl) ?_
           repeat (go_big_quiet_step (first | (go_at_call 143; exact aft_of ((reflistS_any _ _ s.ids _ hsl (HI.out.1.later (Aft.h _))).mono fun e w' h => by rw [HQ.out] at h; exact h))))
           refine wpQuiet_nil ?_
           rintro w2 ⟨z, rfl⟩
           go_wp2
           go_ret
           exact ⟨by rw [HC.out]; rfl, blThen HB.out z.h⟩
          ·go_wp2_with fail
           refine region_aft (by kernel_rfl) (by kernel_rfl) ?_
           repeat (go_big_quiet_step (first | (go_at_call 143; exact aft_of ((reflistS_any _ _ s.ids _ hsl (HI.out.1.later (Aft.h _))).mono fun e w' h => by rw [HQ.out] at h; exact h))))
           refine wpQuiet_nil ?_
           rintro w2 ⟨z, rfl⟩
           have HB3 := hI (blThen HB.out z.h)
           go_wp2
           go_loopw [6] (fun i wr => ∃ m : Nat, m ≤ s.ids.length ∧ i = .int .i64 m ∧ (s.ids.take m).all isS = true ∧ Below w.heap.size w wr) (fun i _ => s.ids.length - (RowKit.intOf i).toNat)
           case atStart => exact ⟨0, Nat.zero_le _, rfl, rfl, HB3.out⟩
           case round =>
            clear HB3 hx hy hbg
            obtain ⟨m, hm, rfl, ha, hb⟩ := hrel
            obtain ⟨-, e1, hbw, hi⟩ := HE.out _ hb
            have HB3 := hI hb
            have HA := hI ha
            have HI3 := hI hi
            clear hb ha hi
            by_cases hml : m < s.ids.length
            ·obtain ⟨t, n, htn⟩ := at_ltS hml
             obtain ⟨gi, oi, hia, hgi, hlst⟩ := HI3.out.1 (by intro e; rw [e] at hml; simp at hml)
             rw [hia] at e1
             clear hia
             obtain ⟨x0, x1⟩ := hlst m t n htn
             have hm1 : (m : Int) < (s.ids.length : Int) := by omega
             have hm0 : (0 : Int) ≤ (m : Int) := by omega
             have hdm : decide ((m : Int) < (s.ids.length : Int)) = true := decide_eq_true hm1
             have HAT := hI (all_take htn HA.out)
             generalize hq2 : isS (t, n) = q2 at *
             have HQ2 := hI hq2
             clear hlst htn hq2
             cases q2
             ·have HC : Hid (checkD (toD l) = 60) := HBAD.out (depsF_cut (k := k + 1) (by rw [HDT.out, all_cut HAT.out]; simp))
              go_wp2_with (go_at_call 24; refine (is_any t n _).mono ?_; rintro e w3 ⟨h1, qn, os, rfl⟩; rw [HQ2.out] at h1; subst h1)
              go_ret
              exact ⟨by rw [HC.out]; rfl, blGrown HB3.out qn os⟩
             ·go_wp2_with (go_at_call 24; refine (is_any t n _).mono ?_; rintro e w3 ⟨h1, qn, os, rfl⟩; rw [HQ2.out] at h1; subst h1)
              go_roundw
              case rel => exact ⟨m + 1, hml, by go_num, HAT.out, blGrown HB3.out qn os⟩
              case measure => simp [RowKit.intOf]; omega
            ·have hge : ¬ (m : Int) < (s.ids.length : Int) := by omega
             have hdm : decide ((m : Int) < (s.ids.length : Int)) = false := decide_eq_false hge
             have HDN : Hid (depsF (-1) ((toD l).take (k + 1)) = true) := by
              have h := HA.out
              rw [List.take_of_length_le (by omega)] at h
              show _ = true
              rw [HDT.out, HLO.out, H8.out, h]
              rfl
             go_wp2
             go_roundw
             case rel => exact ⟨k + 1, hlt, by go_num, HDN.out, HB3.out⟩
             case measure => simp [RowKit.intOf]; omega
         ·obtain ⟨j, rfl⟩ : ∃ j, k = j + 1 := ⟨k - 1, by omega⟩
          obtain ⟨y, hy2, hpy⟩ := HPV.out j rfl
          obtain ⟨b2, o2, hb2, hbg2, hx2, -, -⟩ := (HL.out.later HB.out).at hy2
          simp only [Option.some.injEq, Addr.mk.injEq, and_true] at hb2
          obtain ⟨rfl, rfl⟩ := hb2
          have ecast : ((j + 1 : Nat) : Int) = (j : Int) + 1 := rfl
          have hdz : decide ((0 : Int) < (j : Int) + 1) = true := decide_eq_true (by omega)
          have hj0 : (0 : Int) ≤ (j : Int) := by omega
          have hj1 : (j : Int) < (l.length : Int) := by omega
          rw [ecast] at hk1 hk0 hdk2 ⊢
          by_cases hps : p < s.sh
          ·have hdp : decide (s.sh ≤ y.sh) = false := decide_eq_false (by omega)
           have HLO : Hid (decide (p < s.sh) = true) := decide_eq_true hps
           have H8 : Hid (decide (s.sh < 8) = true) := decide_eq_true (by omega)
           generalize hq : risB s.ids = q at *
           have HQ := hI hq
           clear hq
           cases q
           ·have HC : Hid (checkD (toD l) = 60) := HBAD.out (depsF_cut (k := (j + 1) + 1) (by rw [HDT.out]; simp))
            go_wp2_with fail
            refine region_aft (by kernel_rfl) (by kernel_rfl) ?_
            repeat (go_big_quiet_step (first | (go_at_call 143; exact aft_of ((reflistS_any _ _ s.ids _ hsl (HI.out.1.later (Aft.h _))).mono fun e w' h => by rw [HQ.out] at h; exact h))))
            refine wpQuiet_nil ?_
            rintro w2 ⟨z, rfl⟩
            go_wp2
            go_ret
            exact ⟨by rw [HC.out]; rfl, blThen HB.out z.h⟩
           ·go_wp2_with fail
            refine region_aft (by kernel_rfl) (by kernel_rfl) ?_
            repeat (go_big_quiet_step (first | (go_at_call 143; exact aft_of ((reflistS_any _ _ s.ids _ hsl (HI.out.1.later (Aft.h _))).mono fun e w' h => by rw [HQ.out] at h; exact h))))
            refine wpQuiet_nil ?_
            rintro w2 ⟨z, rfl⟩
            have HB3 := hI (blThen HB.out z.h)
            go_wp2
            go_loopw [6] (fun i wr => ∃ m : Nat, m ≤ s.ids.length ∧ i = .int .i64 m ∧ (s.ids.take m).all isS = true ∧ Below w.heap.size w wr) (fun i _ => s.ids.length - (RowKit.intOf i).toNat)
            case atStart => exact ⟨0, Nat.zero_le _, rfl, rfl, HB3.out⟩
            case round =>
             clear HB3 hx hy hbg
             obtain ⟨m, hm, rfl, ha, hb⟩ := hrel
             obtain ⟨-, e1, hbw, hi⟩ := HE.out _ hb
             have HB3 := hI hb
             have HA := hI ha
             have HI3 := hI hi
             clear hb ha hi
             by_cases hml : m < s.ids.length
             ·obtain ⟨t, n, htn⟩ := at_ltS hml
              obtain ⟨gi, oi, hia, hgi, hlst⟩ := HI3.out.1 (by intro e; rw [e] at hml; simp at hml)
              rw [hia] at e1
              clear hia
              obtain ⟨x0, x1⟩ := hlst m t n htn
              have hm1 : (m : Int) < (s.ids.length : Int) := by omega
              have hm0 : (0 : Int) ≤ (m : Int) := by omega
              have hdm : decide ((m : Int) < (s.ids.length : Int)) = true := decide_eq_true hm1
              have HAT := hI (all_take htn HA.out)
              generalize hq2 : isS (t, n) = q2 at *
              have HQ2 := hI hq2
              clear hlst htn hq2
              cases q2
              ·have HC : Hid (checkD (toD l) = 60) := HBAD.out (depsF_cut (k := (j + 1) + 1) (by rw [HDT.out, all_cut HAT.out]; simp))
               go_wp2_with (go_at_call 24; refine (is_any t n _).mono ?_; rintro e w3 ⟨h1, qn, os, rfl⟩; rw [HQ2.out] at h1; subst h1)
               go_ret
               exact ⟨by rw [HC.out]; rfl, blGrown HB3.out qn os⟩
              ·go_wp2_with (go_at_call 24; refine (is_any t n _).mono ?_; rintro e w3 ⟨h1, qn, os, rfl⟩; rw [HQ2.out] at h1; subst h1)
               go_roundw
               case rel => exact ⟨m + 1, hml, by go_num, HAT.out, blGrown HB3.out qn os⟩
               case measure => simp [RowKit.intOf]; omega
             ·have hge : ¬ (m : Int) < (s.ids.length : Int) := by omega
              have hdm : decide ((m : Int) < (s.ids.length : Int)) = false := decide_eq_false hge
              have HDN : Hid (depsF (-1) ((toD l).take ((j + 1) + 1)) = true) := by
               have h := HA.out
               rw [List.take_of_length_le (by omega)] at h
               show _ = true
               rw [HDT.out, HLO.out, H8.out, h]
               rfl
              go_wp2
              go_roundw
              case rel => exact ⟨(j + 1) + 1, hlt, by go_num, HDN.out, HB3.out⟩
              case measure => simp [RowKit.intOf]; omega
          ·have hdp : decide (s.sh ≤ y.sh) = true := decide_eq_true (by omega)
           have HC : Hid (checkD (toD l) = 60) := HBAD.out (depsF_cut (k := (j + 1) + 1) (by rw [HDT.out, decide_eq_false hps]; simp))
           go_wp2_with fail
           refine region_aft (by kernel_rfl) (by kernel_rfl) ?_
           repeat (go_big_quiet_step (fail))
           refine wpQuiet_nil ?_
           rintro w2 ⟨z, rfl⟩
           go_wp2
           go_ret
           exact ⟨by rw [HC.out]; rfl, blThen HB.out z.h⟩
      ·have hge2 : ¬ (k : Int) < (l.length : Int) := by omega
       have hdk2 : decide ((k : Int) < (l.length : Int)) = false := decide_eq_false hge2
       have HC : Hid (checkD (toD l) = 0) := HGOOD.out (by
        have h := HD.out
        rwa [List.take_of_length_le (by rw [toD_length]; omega)] at h)
       go_wp2
       go_ret
       exact ⟨by rw [HC.out]; rfl, HB.out⟩

def shardB (n : Int) : Bool := decide (0 ≤ n ∧ n < 8)
theorem isShard_any (n : Int) (w : World) : Calls Tryz.prog 208 #[.int .i64 n] w fun e w' => e = .returned (.bool (shardB n)) ∧ w = w' := by
 by_cases h1 : 0 ≤ n
 ·have hd1 : decide (0 ≤ n) = true := decide_eq_true h1
  by_cases h2 : n < 8
  ·have hd2 : decide (n < 8) = true := decide_eq_true h2
   have HV : Hid (shardB n = true) := decide_eq_true ⟨h1, h2⟩
   rw [HV.out]
   go_enter Tryz.func208, Tryz.ntmps208
   go_wp2
   go_ret
   exact ⟨rfl, rfl⟩
  ·have hd2 : decide (n < 8) = false := decide_eq_false h2
   have HV : Hid (shardB n = false) := decide_eq_false fun h => h2 h.2
   rw [HV.out]
   go_enter Tryz.func208, Tryz.ntmps208
   go_wp2
   go_ret
   exact ⟨rfl, rfl⟩
 ·have hd1 : decide (0 ≤ n) = false := decide_eq_false h1
  have HV : Hid (shardB n = false) := decide_eq_false fun h => h1 h.1
  rw [HV.out]
  go_enter Tryz.func208, Tryz.ntmps208
  go_wp2
  go_ret
  exact ⟨rfl, rfl⟩
theorem countIds_any (a : Option Addr) (c : Nat) (l : List Dp) (w : World) (hf : FewD l) (hn : idsN (toD l) ≤ 1000000) (hl : Dl w a l) :
  Calls Tryz.prog 207 #[.slice a l.length c] w fun e w' => e = .returned (.int .i64 (idsN (toD l) : Nat)) ∧ Below w.heap.size w w' := by
 have HL := hI hl
 have HF := hI hf
 have HNN := hI hn
 have hlen := hf.1
 clear hl hf
 go_enter Tryz.func207, Tryz.ntmps207
 go_wp2
 go_loopw [3, 8] (fun v i wr => ∃ k : Nat, k ≤ l.length ∧ v = .int .i64 (idsN ((toD l).take k) : Nat) ∧ i = .int .i64 k ∧ Below w.heap.size w wr) (fun _ i _ => l.length - (RowKit.intOf i).toNat)
 case atStart => exact ⟨0, Nat.zero_le _, rfl, rfl, Below.refl _ _⟩
 case round =>
  obtain ⟨k, hk, rfl, rfl, hb⟩ := hrel
  have HB := hI hb
  clear hb
  by_cases hlt : k < l.length
  ·obtain ⟨s, hs⟩ := at_ltD hlt
   obtain ⟨b, o, rfl, hbg, hx, hy, hi⟩ := (HL.out.later HB.out).at hs
   have hk1 : (k : Int) < (l.length : Int) := by omega
   have hk0 : (0 : Int) ≤ (k : Int) := by omega
   have hdk : decide ((k : Int) < (l.length : Int)) = true := decide_eq_true hk1
   have HFT := hI (idsN_take (toD_at hs))
   have hsl : s.ids.length ≤ 1000000 := HF.out.2 s (List.mem_of_getElem? hs)
   have hnk : idsN ((toD l).take k) ≤ 1000000 := Nat.le_trans (idsN_take_le _ _) HNN.out
   unfold ilD at hy
   clear hs hi
   generalize hG : idsN ((toD l).take k) = G at *
   clear hG
   go_wp2
   go_roundw
   case rel => exact ⟨k + 1, hlt, by rw [HFT.out]; go_num, by go_num, by repeat (first | with_reducible exact HB.out | with_reducible refine blAlloc ?_ _)⟩
   case measure => simp [RowKit.intOf]; omega
  ·have hge : ¬ (k : Int) < (l.length : Int) := by omega
   have hdk : decide ((k : Int) < (l.length : Int)) = false := decide_eq_false hge
   have HTK : Hid (idsN ((toD l).take k) = idsN (toD l)) := by
    show _ = _
    rw [List.take_of_length_le (by rw [toD_length]; omega)]
   go_wp2
   go_ret
   exact ⟨by rw [HTK.out]; rfl, HB.out⟩
def listB (l : List (Int × Int)) : Bool := risB l && l.all isS
theorem listB_bad1 {l : List (Int × Int)} {j : Nat} {x : Int × Int} (h : l[j]? = some x) (hx : isS x = false) : listB l = false := by
 unfold listB
 rw [show l.all isS = false from List.all_eq_false.2 ⟨x, List.mem_of_getElem? h, by rw [hx]; simp⟩]
 simp
theorem listB_bad2 {l : List (Int × Int)} (h : risB l = false) : listB l = false := by
 unfold listB
 rw [h]
 rfl
theorem isList_any (a : Option Addr) (cap : Nat) (l : List (Int × Int)) (w : World) (hlen : l.length ≤ 1000000) (hl : SL w a l) :
  Calls Tryz.prog 209 #[.slice a l.length cap] w fun e w' => e = .returned (.bool (listB l)) ∧ Below w.heap.size w w' := by
 have HL := hI hl
 clear hl
 generalize hv : listB l = v
 have HV := hI hv
 clear hv
 go_enter Tryz.func209, Tryz.ntmps209
 go_wp2
 go_loopw [7] (fun i wr => ∃ k : Nat, k ≤ l.length ∧ i = .int .i64 k ∧ risB (l.take k) = true ∧ (l.take k).all isS = true ∧ Below w.heap.size w wr) (fun i _ => l.length - (RowKit.intOf i).toNat)
 case atStart => exact ⟨0, Nat.zero_le _, rfl, rfl, rfl, Below.refl _ _⟩
 case round =>
  obtain ⟨k, hk, rfl, hr, ha, hb⟩ := hrel
  have HB := hI hb
  have HR := hI hr
  have HA := hI ha
  clear hb hr ha
  by_cases hlt : k < l.length
  ·obtain ⟨x, y, hxy⟩ := at_ltS hlt
   obtain ⟨b, o, rfl, hbl, hl⟩ := HL.out (by rintro rfl; simp at hlt)
   obtain ⟨c0, c1⟩ := hl.later hbl HB.out k x y hxy
   have hbw : b < wr.heap.size := Nat.lt_of_lt_of_le hbl HB.out.size
   have hk1 : (k : Int) < (l.length : Int) := by omega
   have hk0 : (0 : Int) ≤ (k : Int) := by omega
   have hdk : decide ((k : Int) < (l.length : Int)) = true := decide_eq_true hk1
   have HXY := hI hxy
   have HLL := hI (hl.later hbl HB.out)
   have HAT := hI (all_take hxy HA.out)
   clear hxy hl hbl
   generalize hq : isS (x, y) = q at *
   have HQ := hI hq
   clear hq
   cases q
   ·have HF := hI (listB_bad1 HXY.out HQ.out)
    have HCK : Hid (checkS (x, y) = 10) := by unfold Hid checkS; rw [HQ.out]; rfl
    go_wp2_with fail
    refine region_aft (by kernel_rfl) (by kernel_rfl) ?_
    repeat (go_big_quiet_step (first | (go_at_call 131; exact aft_grown ((check_any x y _).mono fun e w' h => by rw [HCK.out] at h; exact h))))
    refine wpQuiet_nil ?_
    rintro w2 ⟨z, rfl⟩
    have HB2 : Hid (Below w.heap.size w z.x) := blThen (by repeat (first | with_reducible exact HB.out | with_reducible refine blAlloc ?_ _)) z.h
    go_wp2
    go_ret
    exact ⟨ret_bool (HF.out.symm.trans HV.out), HB2.out⟩
   ·have HCK : Hid (checkS (x, y) = 0) := by unfold Hid checkS; rw [HQ.out]; rfl
    cases k with
    | zero =>
     simp only [Nat.zero_mul, Nat.add_zero] at c0 c1
     go_wp2_with fail
     refine region_aft (by kernel_rfl) (by kernel_rfl) ?_
     repeat (go_big_quiet_step (first | (go_at_call 131; exact aft_grown ((check_any x y _).mono fun e w' h => by rw [HCK.out] at h; exact h))))
     refine wpQuiet_nil ?_
     rintro w2 ⟨z, rfl⟩
     have HB2 : Hid (Below w.heap.size w z.x) := blThen (by repeat (first | with_reducible exact HB.out | with_reducible refine blAlloc ?_ _)) z.h
     go_wp2
     go_roundw
     case rel => exact ⟨1, hlt, by go_num, risB_one l, HAT.out, HB2.out⟩
     case measure => simp [RowKit.intOf]; omega
    | succ j =>
     obtain ⟨u, v2, huv⟩ := at_ltS (l := l) (k := j) (by omega)
     obtain ⟨d0, d1⟩ := HLL.out j u v2 huv
     have ecast : ((j + 1 : Nat) : Int) = (j : Int) + 1 := rfl
     have hdz : decide ((0 : Int) < (j : Int) + 1) = true := decide_eq_true (by omega)
     have hj0 : (0 : Int) ≤ (j : Int) := by omega
     have hj1 : (j : Int) < (l.length : Int) := by omega
     rw [ecast] at hk1 hk0 hdk ⊢
     have HST := hI (risB_step huv HXY.out HR.out)
     clear huv
     have hcs := cmpS_eq u v2 x y
     rcases hcs with ⟨hc, hlq, _⟩ | ⟨hc, he1, he2⟩ | ⟨hc, _, hlq⟩
     ·have HC := hI hc
      have HN := hI (HST.out.1 hlq)
      clear hc hlq
      go_wp2_with fail
      refine region_aft (by kernel_rfl) (by kernel_rfl) ?_
      repeat (go_big_quiet_step (first | (go_at_call 131; exact aft_grown ((check_any x y _).mono fun e w' h => by rw [HCK.out] at h; exact h)) | (go_at_call 120; exact aft_of ((compare_any u v2 x y _).mono fun e w' h => by rw [HC.out] at h; exact h))))
      refine wpQuiet_nil ?_
      rintro w2 ⟨z, rfl⟩
      have HB2 : Hid (Below w.heap.size w z.x) := blThen (by repeat (first | with_reducible exact HB.out | with_reducible refine blAlloc ?_ _)) z.h
      go_wp2
      go_roundw
      case rel => exact ⟨j + 1 + 1, hlt, by go_num, HN.out, HAT.out, HB2.out⟩
      case measure => simp [RowKit.intOf]; omega
     ·have HC := hI hc
      have HF := hI (listB_bad2 (HST.out.2 (by rw [he1, he2]; exact ltS_irrefl _)))
      clear hc he1 he2
      go_wp2_with fail
      refine region_aft (by kernel_rfl) (by kernel_rfl) ?_
      repeat (go_big_quiet_step (first | (go_at_call 131; exact aft_grown ((check_any x y _).mono fun e w' h => by rw [HCK.out] at h; exact h)) | (go_at_call 120; exact aft_of ((compare_any u v2 x y _).mono fun e w' h => by rw [HC.out] at h; exact h))))
      refine wpQuiet_nil ?_
      rintro w2 ⟨z, rfl⟩
      have HB2 : Hid (Below w.heap.size w z.x) := blThen (by repeat (first | with_reducible exact HB.out | with_reducible refine blAlloc ?_ _)) z.h
      go_wp2
      go_ret
      exact ⟨ret_bool (HF.out.symm.trans HV.out), HB2.out⟩
     ·have HC := hI hc
      have HF := hI (listB_bad2 (HST.out.2 hlq))
      clear hc hlq
      go_wp2_with fail
      refine region_aft (by kernel_rfl) (by kernel_rfl) ?_
      repeat (go_big_quiet_step (first | (go_at_call 131; exact aft_grown ((check_any x y _).mono fun e w' h => by rw [HCK.out] at h; exact h)) | (go_at_call 120; exact aft_of ((compare_any u v2 x y _).mono fun e w' h => by rw [HC.out] at h; exact h))))
      refine wpQuiet_nil ?_
      rintro w2 ⟨z, rfl⟩
      have HB2 : Hid (Below w.heap.size w z.x) := blThen (by repeat (first | with_reducible exact HB.out | with_reducible refine blAlloc ?_ _)) z.h
      go_wp2
      go_ret
      exact ⟨ret_bool (HF.out.symm.trans HV.out), HB2.out⟩
  ·have hge : ¬ (k : Int) < (l.length : Int) := by omega
   have hdk : decide ((k : Int) < (l.length : Int)) = false := decide_eq_false hge
   have HF : Hid (listB l = true) := by
    have h := HR.out
    have h2 := HA.out
    rw [List.take_of_length_le (by omega)] at h h2
    show _ = _
    unfold listB
    rw [h, h2]
    rfl
   go_wp2
   go_ret
   exact ⟨ret_bool (HF.out.symm.trans HV.out), HB.out⟩

theorem depsF_takeL {d : Dd} {k : Nat} {x : Int × List (Int × Int)} (h : d[k]? = some x) (ht : depsF (-1) (d.take k) = true) : depsF (-1) (d.take (k + 1)) = (decide (lastD (-1) (d.take k) < x.1) && (decide (x.1 < 8) && listB x.2)) := depsF_take h ht
theorem pcheck_any (a : Option Addr) (c : Nat) (l : List Dp) (w : World) (hf : FewD l) (hn : idsN (toD l) ≤ 1000000) (hl : Dl w a l) :
  Calls Tryz.prog 186 #[.slice a l.length c] w fun e w' => e = .returned (.int .i64 (checkD (toD l))) ∧ Below w.heap.size w w' := by
 have HL := hI hl
 have HF := hI hf
 have HNN := hI hn
 have hlen := hf.1
 clear hl hf
 have HLE : Hid ((toD l).length = l.length) := toD_length l
 by_cases h8 : 8 < l.length
 ·have hd1 : decide ((8 : Int) < (l.length : Int)) = true := decide_eq_true (by omega)
  have HC : Hid (checkD (toD l) = 6) := check_many (.inl (by rw [HLE.out]; exact h8))
  go_enter Tryz.func186, Tryz.ntmps186
  go_wp2
  go_ret
  exact ⟨by rw [HC.out]; rfl, Below.refl _ _⟩
 ·have hd1 : decide ((8 : Int) < (l.length : Int)) = false := decide_eq_false (by omega)
  by_cases h5 : 512 < idsN (toD l)
  ·have hd2 : decide ((512 : Int) < ((idsN (toD l) : Nat) : Int)) = true := decide_eq_true (by omega)
   have HC : Hid (checkD (toD l) = 6) := check_many (.inr h5)
   go_enter Tryz.func186, Tryz.ntmps186
   go_wp2_with (go_at_call 207; refine (countIds_any _ _ l _ HF.out HNN.out HL.out).mono ?_; rintro e w1 ⟨rfl, hb⟩; have HB := hI hb; clear hb)
   go_ret
   exact ⟨by rw [HC.out]; rfl, HB.out⟩
  ·have hd2 : decide ((512 : Int) < ((idsN (toD l) : Nat) : Int)) = false := decide_eq_false (by omega)
   have HBAD : Hid (depsF (-1) (toD l) = false → checkD (toD l) = 60) := check_bad (by rw [HLE.out]; omega) (by omega)
   have HGOOD : Hid (depsF (-1) (toD l) = true → checkD (toD l) = 0) := check_good (by rw [HLE.out]; omega) (by omega)
   go_enter Tryz.func186, Tryz.ntmps186
   go_wp2_with (go_at_call 207; refine (countIds_any _ _ l _ HF.out HNN.out HL.out).mono ?_; rintro e w1 ⟨rfl, hb⟩; have HB0 := hI hb; clear hb)
   go_loopw [15] (fun i wr => ∃ k : Nat, k ≤ l.length ∧ i = .int .i64 k ∧ depsF (-1) ((toD l).take k) = true ∧ Below w.heap.size w wr) (fun i _ => l.length - (RowKit.intOf i).toNat)
   case atStart => exact ⟨0, Nat.zero_le _, rfl, rfl, HB0.out⟩
   case round =>
    clear HB0
    obtain ⟨k, hk, rfl, hd, hb⟩ := hrel
    have HB := hI hb
    have HD := hI hd
    clear hb hd
    by_cases hlt : k < l.length
    ·obtain ⟨s, hs⟩ := at_ltD hlt
     obtain ⟨b, o, rfl, hbg, hx, hy, hi⟩ := (HL.out.later HB.out).at hs
     have hk1 : (k : Int) < (l.length : Int) := by omega
     have hk0 : (0 : Int) ≤ (k : Int) := by omega
     have hdk : decide ((k : Int) < (l.length : Int)) = true := decide_eq_true hk1
     have HDT := hI (depsF_takeL (toD_at hs) HD.out)
     have hsl : s.ids.length ≤ 1000000 := HF.out.2 s (List.mem_of_getElem? hs)
     have HI := hI hi
     have HPV : Hid (∀ j, k = j + 1 → ∃ y : Dp, l[j]? = some y ∧ lastD (-1) ((toD l).take k) = y.sh) := by
      intro j hj
      obtain ⟨y, hy⟩ := at_ltD (l := l) (k := j) (by omega)
      exact ⟨y, hy, by rw [hj]; exact lastD_take (toD_at hy) _⟩
     have hpg : -1 ≤ lastD (-1) ((toD l).take k) := lastD_ge HD.out
     have HPZ : Hid (k = 0 → lastD (-1) ((toD l).take k) = -1) := fun h => by rw [h]; rfl
     unfold ilD at hy
     clear hs hi
     generalize hp : lastD (-1) ((toD l).take k) = p at *
     clear hp
     by_cases hsb : 0 ≤ s.sh ∧ s.sh < 8
     ·have HSB : Hid (shardB s.sh = true) := decide_eq_true hsb
      have H8 : Hid (decide (s.sh < 8) = true) := decide_eq_true hsb.2
      cases k with
      | zero =>
       simp only [Nat.zero_mul, Nat.add_zero] at hx hy
       have HLO : Hid (decide (p < s.sh) = true) := decide_eq_true (by have := HPZ.out rfl; omega)
       generalize hq : listB s.ids = q at *
       have HQ := hI hq
       clear hq
       cases q
       ·have HC : Hid (checkD (toD l) = 60) := HBAD.out (depsF_cut (k := 0 + 1) (by rw [HDT.out]; simp))
        go_wp2_with fail
        refine region_aft (by kernel_rfl) (by kernel_rfl) ?_
        repeat (go_big_quiet_step (first | (go_at_call 208; exact aft_same ((isShard_any _ _).mono fun e w' h => by rw [HSB.out] at h; exact h)) | (go_at_call 209; exact aft_of ((isList_any _ _ s.ids _ hsl (HI.out.1.later (blThen (blAlloc (Below.refl _ _) _) (Aft.h _)))).mono fun e w' h => by rw [HQ.out] at h; exact h))))
        refine wpQuiet_nil ?_
        rintro w2 ⟨z, rfl⟩
        have HB2 : Hid (Below w.heap.size w z.x) := blThen (by repeat (first | with_reducible exact HB.out | with_reducible refine blAlloc ?_ _)) z.h
        go_wp2
        go_ret
        exact ⟨by rw [HC.out]; rfl, HB2.out⟩
       ·have HDN : Hid (depsF (-1) ((toD l).take (0 + 1)) = true) := by
         show _ = true
         rw [HDT.out, HLO.out, H8.out]
         rfl
        go_wp2_with fail
        refine region_aft (by kernel_rfl) (by kernel_rfl) ?_
        repeat (go_big_quiet_step (first | (go_at_call 208; exact aft_same ((isShard_any _ _).mono fun e w' h => by rw [HSB.out] at h; exact h)) | (go_at_call 209; exact aft_of ((isList_any _ _ s.ids _ hsl (HI.out.1.later (blThen (blAlloc (Below.refl _ _) _) (Aft.h _)))).mono fun e w' h => by rw [HQ.out] at h; exact h))))
        refine wpQuiet_nil ?_
        rintro w2 ⟨z, rfl⟩
        have HB2 : Hid (Below w.heap.size w z.x) := blThen (by repeat (first | with_reducible exact HB.out | with_reducible refine blAlloc ?_ _)) z.h
        go_wp2
        go_roundw
        case rel => exact ⟨0 + 1, hlt, by go_num, HDN.out, HB2.out⟩
        case measure => simp [RowKit.intOf]; omega
      | succ j =>
       obtain ⟨y, hy2, hpy⟩ := HPV.out j rfl
       obtain ⟨b2, o2, hb2, hbg2, hx2, -, -⟩ := (HL.out.later HB.out).at hy2
       simp only [Option.some.injEq, Addr.mk.injEq, and_true] at hb2
       obtain ⟨rfl, rfl⟩ := hb2
       have ecast : ((j + 1 : Nat) : Int) = (j : Int) + 1 := rfl
       have hdz : decide ((0 : Int) < (j : Int) + 1) = true := decide_eq_true (by omega)
       have hj0 : (0 : Int) ≤ (j : Int) := by omega
       have hj1 : (j : Int) < (l.length : Int) := by omega
       rw [ecast] at hk1 hk0 hdk ⊢
       by_cases hps : p < s.sh
       ·have hdp : decide (s.sh ≤ y.sh) = false := decide_eq_false (by omega)
        have HLO : Hid (decide (p < s.sh) = true) := decide_eq_true hps
        generalize hq : listB s.ids = q at *
        have HQ := hI hq
        clear hq
        cases q
        ·have HC : Hid (checkD (toD l) = 60) := HBAD.out (depsF_cut (k := (j + 1) + 1) (by rw [HDT.out]; simp))
         go_wp2_with fail
         refine region_aft (by kernel_rfl) (by kernel_rfl) ?_
         repeat (go_big_quiet_step (first | (go_at_call 208; exact aft_same ((isShard_any _ _).mono fun e w' h => by rw [HSB.out] at h; exact h)) | (go_at_call 209; exact aft_of ((isList_any _ _ s.ids _ hsl (HI.out.1.later (blThen (blAlloc (Below.refl _ _) _) (Aft.h _)))).mono fun e w' h => by rw [HQ.out] at h; exact h))))
         refine wpQuiet_nil ?_
         rintro w2 ⟨z, rfl⟩
         have HB2 : Hid (Below w.heap.size w z.x) := blThen (by repeat (first | with_reducible exact HB.out | with_reducible refine blAlloc ?_ _)) z.h
         go_wp2
         go_ret
         exact ⟨by rw [HC.out]; rfl, HB2.out⟩
        ·have HDN : Hid (depsF (-1) ((toD l).take ((j + 1) + 1)) = true) := by
          show _ = true
          rw [HDT.out, HLO.out, H8.out]
          rfl
         go_wp2_with fail
         refine region_aft (by kernel_rfl) (by kernel_rfl) ?_
         repeat (go_big_quiet_step (first | (go_at_call 208; exact aft_same ((isShard_any _ _).mono fun e w' h => by rw [HSB.out] at h; exact h)) | (go_at_call 209; exact aft_of ((isList_any _ _ s.ids _ hsl (HI.out.1.later (blThen (blAlloc (Below.refl _ _) _) (Aft.h _)))).mono fun e w' h => by rw [HQ.out] at h; exact h))))
         refine wpQuiet_nil ?_
         rintro w2 ⟨z, rfl⟩
         have HB2 : Hid (Below w.heap.size w z.x) := blThen (by repeat (first | with_reducible exact HB.out | with_reducible refine blAlloc ?_ _)) z.h
         go_wp2
         go_roundw
         case rel => exact ⟨(j + 1) + 1, hlt, by go_num, HDN.out, HB2.out⟩
         case measure => simp [RowKit.intOf]; omega
       ·have hdp : decide (s.sh ≤ y.sh) = true := decide_eq_true (by omega)
        have HC : Hid (checkD (toD l) = 60) := HBAD.out (depsF_cut (k := (j + 1) + 1) (by rw [HDT.out, decide_eq_false hps]; simp))
        go_wp2_with fail
        refine region_aft (by kernel_rfl) (by kernel_rfl) ?_
        repeat (go_big_quiet_step (first | (go_at_call 208; exact aft_same ((isShard_any _ _).mono fun e w' h => by rw [HSB.out] at h; exact h))))
        refine wpQuiet_nil ?_
        rintro w2 ⟨z, rfl⟩
        have HB2 : Hid (Below w.heap.size w z.x) := blThen (by repeat (first | with_reducible exact HB.out | with_reducible refine blAlloc ?_ _)) z.h
        go_wp2
        go_ret
        exact ⟨by rw [HC.out]; rfl, HB2.out⟩
     ·have HSB : Hid (shardB s.sh = false) := decide_eq_false hsb
      have HC : Hid (checkD (toD l) = 60) := HBAD.out (depsF_cut (k := k + 1) (by
       rw [HDT.out]
       by_cases h : s.sh < 8
       ·rw [decide_eq_false (show ¬ p < s.sh by omega)]; rfl
       ·rw [decide_eq_false h]; simp))
      go_wp2_with fail
      refine region_aft (by kernel_rfl) (by kernel_rfl) ?_
      repeat (go_big_quiet_step (first | (go_at_call 208; exact aft_same ((isShard_any _ _).mono fun e w' h => by rw [HSB.out] at h; exact h))))
      refine wpQuiet_nil ?_
      rintro w2 ⟨z, rfl⟩
      have HB2 : Hid (Below w.heap.size w z.x) := blThen (by repeat (first | with_reducible exact HB.out | with_reducible refine blAlloc ?_ _)) z.h
      go_wp2
      go_ret
      exact ⟨by rw [HC.out]; rfl, HB2.out⟩
    ·have hge : ¬ (k : Int) < (l.length : Int) := by omega
     have hdk : decide ((k : Int) < (l.length : Int)) = false := decide_eq_false hge
     have HC : Hid (checkD (toD l) = 0) := HGOOD.out (by
      have h := HD.out
      rwa [List.take_of_length_le (by rw [toD_length]; omega)] at h)
     go_wp2
     go_ret
     exact ⟨by rw [HC.out]; rfl, HB.out⟩
end SD
end Go.Proofs.YtgipkikedacmdaaGreat
