/- The reference's Below: the stamps of l that are less than s, in l's order. Conditions: a list of at most a million stamps. -/
import Derived.Deep.Upon
import Derived.Test.YtjlkgbejldcklaaGreatMg08
/- append to a list of stamps that is the call's own, or has no room. Conditions: lists of a million stamps or so. -/
namespace Go.Proofs.YtjlkgbejldcklaaGreat
namespace S1
open Go.Sort (grow)
open Go.RowKit

/-- The slice v holds the stamps of d: it is the call's own, or it has no room. -/
def CapL (w : World) (base : Nat) (v : Value) (d : List (Int × Int)) : Prop := OwnL w base v d ∨ ∃ a, v = .slice a d.length d.length ∧ SL w a d
theorem SL.none_nil {w : World} {d : List (Int × Int)} (h : SL w none d) : d = [] := by
  apply Classical.byContradiction
  intro hne
  obtain ⟨_, _, h, _⟩ := h hne
  cases h
theorem OwnL.mono {w : World} {base B : Nat} {v : Value} {d : List (Int × Int)} (h : OwnL w B v d) (hb : base ≤ B) : OwnL w base v d := by
  obtain ⟨h1, h2 | ⟨g, cap, cur, hv, hg, hx⟩⟩ := h
  · exact ⟨h1, .inl h2⟩
  · exact ⟨h1, .inr ⟨g, cap, cur, hv, Nat.le_trans hb hg, hx⟩⟩
theorem CapL.later {W wr : World} {base : Nat} {v : Value} {l : List (Int × Int)} (h : CapL W base v l) (hb : Below W.heap.size W wr) : CapL wr base v l := by
  rcases h with h | ⟨a, hv, hs⟩
  · exact .inl (h.later hb)
  · exact .inr ⟨a, hv, hs.later hb⟩
theorem CapL.slice {w : World} {base : Nat} {v : Value} {l : List (Int × Int)} (h : CapL w base v l) : ∃ a cap, v = .slice a l.length cap ∧ SL w a l ∧ (a = none → cap = 0) := by
  rcases h with h | ⟨a, hv, hs⟩
  · obtain ⟨a, cap, hv, hs, hn, _⟩ := h.sl
    exact ⟨a, cap, hv, hs, hn⟩
  · exact ⟨a, _, hv, hs, fun h => by subst h; rw [hs.none_nil]; rfl⟩

theorem append_cap {w : World} {ops : Array Oper} {rest : List Oper} {o : Oper} {a : Act} {Q : Exit → Act → World → Prop} (hgd : o.guard = none) (s x : Operand)
    (ho : o.op = .call { callee := .builtin .append, args := #[s, x], argTypes := #[24, 24] })
    (base : Nat) (v : Value) (d : List (Int × Int)) (hs : a.eval s = v) (hown : CapL w base v d) (ad : Option Addr) (cap : Nat) (l : List (Int × Int)) (hx : a.eval x = .slice ad l.length cap) (hsl : SL w ad l) (hn : ad = none → cap = 0)
    (hlen : d.length + l.length ≤ 4000000) (hbase : base ≤ w.heap.size)
    (h : ∀ v' w', CapL w' base v' (d ++ l) → (∀ (B : Nat) (x : World), Below B x w → B ≤ base → Below B x w') → wpList Tryz.prog ops Q rest (a.put o.dst v') w') : wpList Tryz.prog ops Q (o :: rest) a w := by
  have viaOwn : OwnL w base v d → wpList Tryz.prog ops Q (o :: rest) a w := fun hown =>
    append_st hgd s x ho base v d hs hown ad cap l hx hsl hn hlen hbase fun v' w' h1 h2 => h v' w' (.inl h1) fun B x hB hb => grown_below hB hown hb (Nat.le_trans hb hbase) h2
  rcases hown with hown | ⟨a0, rfl, hsl0⟩
  · exact viaOwn hown
  obtain ⟨i0, hi, hz0, hz1, hz2⟩ := info_parts info_st
  by_cases hl : l = []
  · subst hl
    have hsrc : Src Tryz.prog i0.size 24 (.slice ad 0 cap) 0 [] w := by
      cases ad with
      | none => exact Src.ofNil w Tryz.underlying24 cap
      | some ad => exact Src.ofSlice w Tryz.underlying24 ad 0 cap [] (by simp) (fun j u h => by simp at h) (fun u h => by simp at h)
    have hrun := run_append_nothing w 24 24 o.type 42 i0 Tryz.underlying24 hi a0 d.length d.length (Nat.le_refl _) _ hsrc
    have hx' : a.eval x = .slice ad 0 cap := hx
    refine wpList_plain hgd fun K hK => ?_
    unfold Oper.wp
    simp [execOp, ho, resolve, invoke, builtin, hs, hx', hrun, Result.andThen]
    exact hK _ _ (h _ w (by rw [List.append_nil]; exact .inr ⟨a0, rfl, hsl0⟩) fun B x hB _ => hB)
  · cases a0 with
    | none =>
      obtain rfl := hsl0.none_nil
      exact viaOwn (OwnL.nil w base)
    | some b0 =>
      obtain ⟨b1, o1, rfl, hb1, hl1⟩ := hsl hl
      have hpos : 0 < l.length := List.length_pos_iff.2 hl
      have hc0 : ∀ (j : Nat) (u : Value), (cellsL d)[j]? = some u → w.cell? (b0.add j) = some u := by
        rcases src_of hsl0 with h | ⟨ad, he, hc⟩
        · cases h
        · simp only [Option.some.injEq] at he
          subst he
          exact hc w (Below.refl _ _)
      obtain ⟨v', w', hrun, hown, hg⟩ := run_append_arg_grows (P := Tryz.prog) w 24 o.type 42 i0 (.agg #[.int .i64 0, .int .i64 0]) 2 16 Tryz.underlying24 hi hz0 hz1 hz2 rfl (by decide)
        b0 d.length d.length (cellsL d) (cellsL_length d) hc0 ⟨b1, o1, none⟩ l.length cap (cellsL l) (cellsL_length l) hl1.cells (by omega) (by unfold maxLen; omega) (by omega)
      have hO : OwnL w' w.heap.size v' (d ++ l) := by
        show w'.ownsRow _ _ 2 v' _ _
        rw [List.length_append, cellsL_append]
        exact hown
      refine wpList_plain hgd fun K hK => ?_
      unfold Oper.wp
      simp [execOp, ho, resolve, invoke, builtin, hs, hx, hrun, Result.andThen]
      exact hK _ _ (h v' w' (.inl (hO.mono hbase)) fun B x hB hb => hB.grown hg (Nat.le_trans hb hbase) (fun k hk => by cases hk))

end S1
end Go.Proofs.YtjlkgbejldcklaaGreat

/- stamp.Merge: it returns a list of its own, in which the stamps of all lists rise, each once. Conditions: a thousand lists at most, a million stamps in all. -/
namespace Go.Proofs.YtjlkgbejldcklaaGreat
namespace S1
open Go.Sort (grow)
open Go.RowKit

abbrev LRow := Option Addr × List (Int × Int) × Nat
/-- The lists of ls lie one behind the other in block b, from cell o on. -/
def LL (w : World) (b o : Nat) (ls : List LRow) : Prop := ∀ (i : Nat) (a : Option Addr) (l : List (Int × Int)) (c : Nat), ls[i]? = some (a, l, c) → w.cell? ⟨b, o + i, none⟩ = some (.slice a l.length c) ∧ SL w a l ∧ (a = none → c = 0) ∧ l.length ≤ c
theorem LL.later {w wr : World} {b o : Nat} {ls : List LRow} (h : LL w b o ls) (hb : b < w.heap.size) (hw : Below w.heap.size w wr) : LL wr b o ls := fun i a l c hi => by
  obtain ⟨h1, h2, h3, h4⟩ := h i a l c hi
  exact ⟨cell_in hw hb h1, h2.later hw, h3, h4⟩
def allL (ls : List LRow) : List (Int × Int) := ls.flatMap fun r => r.2.1
theorem allL_take (ls : List LRow) (k : Nat) (r : LRow) (h : ls[k]? = some r) : allL (ls.take (k + 1)) = allL (ls.take k) ++ r.2.1 := by
  rw [List.take_add_one, h]
  simp [allL]
theorem allL_take_len (ls : List LRow) (k : Nat) : (allL (ls.take k)).length ≤ (allL ls).length := by
  have h : allL ls = allL (ls.take k) ++ allL (ls.drop k) := by
    unfold allL
    rw [← List.flatMap_append, List.take_append_drop]
  rw [h, List.length_append]
  omega
theorem row_at {ls : List LRow} {k : Nat} (h : k < ls.length) : ∃ a l c, ls[k]? = some (a, l, c) := ⟨_, _, _, List.getElem?_eq_getElem h⟩

set_option maxRecDepth 100000 in
set_option maxHeartbeats 1000000 in
theorem merge_none (w : World) : Calls Tryz.prog 111 #[.slice none 0 0] w fun e w' => e = .returned (.slice none 0 0) ∧ w = w' := by
  go_enter Tryz.func111, Tryz.ntmps111
  go_wp2
  go_ret
  exact ⟨rfl, rfl⟩

set_option maxRecDepth 100000 in
set_option maxHeartbeats 1000000 in
theorem merge_any (b : Nat) (ls : List LRow) (w : World) (h2 : 2 ≤ ls.length) (hb : b < w.heap.size) (hls : ls.length ≤ 1000) (hlen : (allL ls).length ≤ 1000000) (hL : LL w b 0 ls) :
    Calls Tryz.prog 111 #[.slice (some ⟨b, 0, none⟩) ls.length ls.length] w (RetC w (sortL (allL ls))) := by
  have HL := Lib.hid hL
  have HLEN := Lib.hid hlen
  have hpos : 0 < ls.length := by omega
  have hposI : (0 : Int) < (ls.length : Int) := by omega
  have hz : ((ls.length : Int) == 0) = false := by simp; intro h; simp [h] at h2
  have hn1 : ¬ ls.length = 1 := by omega
  obtain ⟨a0, l0, c0, h0⟩ := row_at hpos
  have H0 := Lib.hid h0
  obtain ⟨g0, hs0, hn0, hc0⟩ := hL 0 a0 l0 c0 h0
  simp only [Nat.add_zero] at g0
  have hc0I : (l0.length : Int) ≤ (c0 : Int) := by omega
  have HS0 := Lib.hid hs0
  have HN0 := Lib.hid hn0
  clear hL hlen h0 hs0 hn0
  go_enter Tryz.func111, Tryz.ntmps111
  go_wp2_with fail
  refine region_aft (by kernel_rfl) (by kernel_rfl) ?_
  repeat (go_big_quiet_step (fail))
  refine wpQuiet_nil ?_
  rintro w2 ⟨z, rfl⟩
  go_wp2_with fail
  obtain ⟨m, hm⟩ : ∃ m, ls.length - 1 = m := ⟨_, rfl⟩
  rw [hm]
  have HM : Hid (ls.length = m + 1) := by show ls.length = m + 1; omega
  have hB0 : Below w.heap.size w z.x := z.h
  generalize z.x = w1 at hB0 ⊢
  have HB0 := Lib.hid hB0
  clear hB0 hm z
  go_loopw [24, 3, 5] (fun i v _ wr => ∃ k : Nat, k ≤ m ∧ i = .int .i64 k ∧ Below w.heap.size w wr ∧ CapL wr w.heap.size v (allL (ls.take (k + 1)))) (fun i _ _ _ => m - (intOf i).toNat)
  case atStart =>
    refine ⟨0, Nat.zero_le _, rfl, HB0.out, .inr ⟨a0, ?_, ?_⟩⟩
    · rw [allL_take ls 0 _ H0.out]; rfl
    · rw [allL_take ls 0 _ H0.out]; exact HS0.out.later HB0.out
  case round =>
    obtain ⟨k, hk, rfl, hbel, hown⟩ := hrel
    have HB := Lib.hid hbel
    have HO := Lib.hid hown
    have hbw : b < wr.heap.size := Nat.lt_of_lt_of_le hb hbel.size
    clear hbel hown
    by_cases hlt : k < m
    · have hkb : k + 1 ≤ 1000 := by have := HM.out; omega
      obtain ⟨a, l, c, hr⟩ := row_at (ls := ls) (k := k + 1) (by rw [HM.out]; omega)
      obtain ⟨g1, hs1, hn1, hc1⟩ := HL.out.later hb HB.out (k + 1) a l c hr
      rw [show 0 + (k + 1) = 1 + k by omega] at g1
      have hT := allL_take ls (k + 1) _ hr
      have hTL := allL_take_len ls (k + 1 + 1)
      rw [hT, List.length_append] at hTL
      have HT := Lib.hid hT
      have HTL := Lib.hid hTL
      have HS1 := Lib.hid hs1
      have HN1 := Lib.hid hn1
      clear hr hs1 hn1 hc1 hT hTL
      go_wp2_with (at_builtin; refine append_cap rfl _ _ rfl w.heap.size _ _ rfl HO.out a c l rfl HS1.out HN1.out (by have := HTL.out; have := HLEN.out; simp only at *; omega) HB.out.size ?_)
      · intro v' w' hown hbel
        have HB2 := Lib.hid (hbel _ _ HB.out (Nat.le_refl _))
        have HO2 : Hid (CapL w' w.heap.size v' (allL (ls.take (k + 1 + 1)))) := by rw [HT.out]; exact hown
        clear hown hbel
        go_wp2
        go_roundw
        case rel => exact ⟨k + 1, hlt, by go_num, HB2.out, HO2.out⟩
        case measure => simp [intOf]; omega
    · have hkm : k = m := by omega
      subst hkm
      have hfin : Hid (CapL wr w.heap.size u3 (allL ls)) := by
        have := HO.out
        rwa [List.take_of_length_le (by rw [HM.out]; exact Nat.le_refl _)] at this
      obtain ⟨a, c, rfl, hs, hn⟩ := hfin.out.slice
      have HS := Lib.hid hs
      have HN := Lib.hid hn
      clear hfin HO hs hn
      generalize allL ls = d at *
      go_wp2_with fail
      refine (sort_any a c d _ HLEN.out HS.out HN.out).mono ?_
      rintro e w3 ⟨a3, c3, rfl, hs3, hn3, hf3, hl3, hm3, hb3⟩
      have HB3 := Lib.hid (blThen HB.out hb3)
      have HR : Hid (RetC w (sortL d) (.returned (.slice a3 (sortL d).length c3)) w3) := ⟨a3, c3, rfl, hs3, hn3, fun b o h => Nat.le_trans HB.out.size (hf3 b o h), hl3, hm3, HB3.out⟩
      clear hb3 hs3 hn3 hf3 hl3 hm3
      go_wp2
      go_ret
      exact HR.out

theorem cell_at_new (w : World) (cs : Array Value) (i : Nat) (v : Value) (h : cs[i]? = some v) : (w.alloc (Obj.cells cs 24)).cell? ⟨w.heap.size, 0 + i, none⟩ = some v := by
  have hb : (w.alloc (Obj.cells cs 24)).heap[w.heap.size]? = some (.cells cs 24 (0, 0)) := heap_alloc_new w _
  rw [Nat.zero_add]
  unfold World.cell?
  rw [hb]
  exact h
/-- What Merge returns at lists that are laid behind each other just ahead of the call. -/
def RetM (w : World) (l : List (Int × Int)) (e : Ending) (w' : World) : Prop := ∃ a cap, e = .returned (.slice a l.length cap) ∧ SL w' a l ∧ (a = none → cap = 0) ∧ l.length ≤ cap ∧ Below w.heap.size w w'
theorem merge2 (w : World) (x1 x2 : Option Addr) (d1 d2 : Nat) (A B : List (Int × Int)) (h1 : SL w x1 A) (h2 : SL w x2 B) (n1 : x1 = none → d1 = 0) (n2 : x2 = none → d2 = 0) (e1 : A.length ≤ d1) (e2 : B.length ≤ d2) (hlen : A.length + B.length ≤ 1000000) :
    Calls Tryz.prog 111 #[.slice (some ⟨w.heap.size, 0, none⟩) 2 2] (w.alloc (Obj.cells #[.slice x1 A.length d1, .slice x2 B.length d2] 24)) (RetM w (sortL (A ++ B))) := by
  have hb := blAlloc (Below.refl w.heap.size w) (Obj.cells #[.slice x1 A.length d1, .slice x2 B.length d2] 24)
  have hL : LL (w.alloc (Obj.cells #[.slice x1 A.length d1, .slice x2 B.length d2] 24)) w.heap.size 0 [(x1, A, d1), (x2, B, d2)] := by
    intro i a l c hi
    match i, hi with
    | 0, hi =>
      simp only [List.getElem?_cons_zero, Option.some.injEq, Prod.mk.injEq] at hi
      obtain ⟨rfl, rfl, rfl⟩ := hi
      exact ⟨cell_at_new _ _ _ _ rfl, h1.later hb, n1, e1⟩
    | 1, hi =>
      simp only [List.getElem?_cons_succ, List.getElem?_cons_zero, Option.some.injEq, Prod.mk.injEq] at hi
      obtain ⟨rfl, rfl, rfl⟩ := hi
      exact ⟨cell_at_new _ _ _ _ rfl, h2.later hb, n2, e2⟩
    | k + 2, hi => simp at hi
  have h := merge_any w.heap.size [(x1, A, d1), (x2, B, d2)] _ (by simp) (by simp) (by simp) (by simp [allL]; omega) hL
  have e : allL [(x1, A, d1), (x2, B, d2)] = A ++ B := by simp [allL]
  rw [e] at h
  exact h.mono fun e w' ⟨a, c, he, hs, hn, _, hc, _, hbw⟩ => ⟨a, c, he, hs, hn, hc, blThen hb hbw⟩
theorem merge3 (w : World) (x1 x2 x3 : Option Addr) (d1 d2 d3 : Nat) (A B C : List (Int × Int)) (h1 : SL w x1 A) (h2 : SL w x2 B) (h3 : SL w x3 C) (n1 : x1 = none → d1 = 0) (n2 : x2 = none → d2 = 0) (n3 : x3 = none → d3 = 0) (e1 : A.length ≤ d1) (e2 : B.length ≤ d2) (e3 : C.length ≤ d3) (hlen : A.length + B.length + C.length ≤ 1000000) :
    Calls Tryz.prog 111 #[.slice (some ⟨w.heap.size, 0, none⟩) 3 3] (w.alloc (Obj.cells #[.slice x1 A.length d1, .slice x2 B.length d2, .slice x3 C.length d3] 24)) (RetM w (sortL (A ++ (B ++ C)))) := by
  have hb := blAlloc (Below.refl w.heap.size w) (Obj.cells #[.slice x1 A.length d1, .slice x2 B.length d2, .slice x3 C.length d3] 24)
  have hL : LL (w.alloc (Obj.cells #[.slice x1 A.length d1, .slice x2 B.length d2, .slice x3 C.length d3] 24)) w.heap.size 0 [(x1, A, d1), (x2, B, d2), (x3, C, d3)] := by
    intro i a l c hi
    match i, hi with
    | 0, hi =>
      simp only [List.getElem?_cons_zero, Option.some.injEq, Prod.mk.injEq] at hi
      obtain ⟨rfl, rfl, rfl⟩ := hi
      exact ⟨cell_at_new _ _ _ _ rfl, h1.later hb, n1, e1⟩
    | 1, hi =>
      simp only [List.getElem?_cons_succ, List.getElem?_cons_zero, Option.some.injEq, Prod.mk.injEq] at hi
      obtain ⟨rfl, rfl, rfl⟩ := hi
      exact ⟨cell_at_new _ _ _ _ rfl, h2.later hb, n2, e2⟩
    | 2, hi =>
      simp only [List.getElem?_cons_succ, List.getElem?_cons_zero, Option.some.injEq, Prod.mk.injEq] at hi
      obtain ⟨rfl, rfl, rfl⟩ := hi
      exact ⟨cell_at_new _ _ _ _ rfl, h3.later hb, n3, e3⟩
    | k + 3, hi => simp at hi
  have h := merge_any w.heap.size [(x1, A, d1), (x2, B, d2), (x3, C, d3)] _ (by simp) (by simp) (by simp) (by simp [allL]; omega) hL
  have e : allL [(x1, A, d1), (x2, B, d2), (x3, C, d3)] = A ++ (B ++ C) := by simp [allL]
  rw [e] at h
  exact h.mono fun e w' ⟨a, c, he, hs, hn, _, hc, _, hbw⟩ => ⟨a, c, he, hs, hn, hc, blThen hb hbw⟩

end S1
end Go.Proofs.YtjlkgbejldcklaaGreat

/- The reference's Below: the stamps of l that are less than s, in l's order. Conditions: a list of at most a million stamps. -/
namespace Go.Proofs.YtjlkgbejldcklaaGreat
namespace S1
open Go.Sort (grow)
open Go.RowKit

set_option maxRecDepth 100000 in
set_option maxHeartbeats 1000000 in
theorem refbelow_any (a : Option Addr) (cap : Nat) (l : List (Int × Int)) (t n : Int) (w : World) (hlen : l.length ≤ 1000000) (hl : SL w a l) :
    Calls Tryz.prog 125 #[.slice a l.length cap, .agg #[.int .i64 t, .int .i64 n]] w (RetC w (l.filter fun x => ltS x (t, n))) := by
  have HL := Lib.hid hl
  have HLEN := Lib.hid hlen
  clear hl
  generalize hp : (fun x => ltS x (t, n)) = p
  have HP := Lib.hid hp
  clear hp
  generalize hv : l.filter p = r
  have HV := Lib.hid hv
  clear hv
  go_enter Tryz.func125, Tryz.ntmps125
  go_wp2
  have hB1 : Hid (Below w.heap.size w (w.alloc (Obj.cells #[Value.int IntKind.i64 t, Value.int IntKind.i64 n] 42))) := (Below.refl _ _).alloc (Nat.le_refl _) _
  have hN : Own2 (w.alloc (Obj.cells #[Value.int IntKind.i64 t, Value.int IntKind.i64 n] 42)) w.heap.size t n := own2_new _ _ _
  generalize w.alloc (Obj.cells #[Value.int IntKind.i64 t, Value.int IntKind.i64 n] 42) = W at *
  have HN := Lib.hid hN
  have hS := hN.lt
  clear hN
  go_loopw [6, 5] (fun i v wr => ∃ k : Nat, k ≤ l.length ∧ i = .int .i64 k ∧ Below W.heap.size W wr ∧ OwnL wr W.heap.size v ((l.take k).filter p)) (fun i _ _ => l.length - (intOf i).toNat)
  case atStart => exact ⟨0, Nat.zero_le _, rfl, Below.refl _ _, OwnL.nil _ _⟩
  case round =>
    obtain ⟨k, hk, rfl, hbel, hown⟩ := hrel
    have HB := Lib.hid hbel
    have HO := Lib.hid hown
    have hN2 := HN.out.later hbel hS
    have hc0 := hN2.c0
    have hc1 := hN2.c1
    have hsz : w.heap.size < wr.heap.size := hN2.lt
    have HBW := Lib.hid (hB1.out.trans (hbel.mono (Nat.le_of_lt hS)))
    clear hbel hown hN2
    by_cases hlt : k < l.length
    · obtain ⟨x, y, hxy⟩ := at_lt hlt
      obtain ⟨b, o, rfl, hb, hl⟩ := HL.out (ne_of_lt hlt)
      obtain ⟨hx, hy⟩ := hl.later hb HBW.out k x y hxy
      have hbw : b < wr.heap.size := Nat.lt_of_lt_of_le hb HBW.out.size
      have HXY := Lib.hid hxy
      have HST := Lib.hid (filter_take p l k _ hxy)
      have HFC := Lib.hid (filter_full p l k (x, y) HXY.out)
      have HLK := Lib.hid (hl.later hb HBW.out k x y hxy)
      clear hxy hl
      cases hc : ltS (x, y) (t, n)
      · have HC : Hid (p (x, y) = false) := by rw [← HP.out]; exact hc
        have HLT := Lib.hid hc
        clear hc
        go_wp2_with fail
        refine region_aft (by kernel_rfl) (by kernel_rfl) ?_
        repeat (go_big_quiet_step (first | (go_at_call 83; exact aft_grown ((less_any _ _ _ _ _).mono fun e w' h => by rw [HLT.out] at h; exact h))))
        refine wpQuiet_nil ?_
        rintro w2 ⟨z, rfl⟩
        go_wp2
        go_roundw
        case rel => exact ⟨k + 1, hlt, by go_num, HB.out.trans (z.h.mono HB.out.size), by
          rw [HST.out, if_neg (by rw [HC.out]; simp), List.append_nil]
          exact HO.out.later z.h⟩
        case measure => simp [intOf]; omega
      · have HC : Hid (p (x, y) = true) := by rw [← HP.out]; exact hc
        have HLT := Lib.hid hc
        clear hc
        go_wp2_with fail
        refine region_aft (by kernel_rfl) (by kernel_rfl) ?_
        repeat (go_big_quiet_step (first | (go_at_call 83; exact aft_grown ((less_any _ _ _ _ _).mono fun e w' h => by rw [HLT.out] at h; exact h))))
        refine wpQuiet_nil ?_
        rintro w2 ⟨z, rfl⟩
        have HB3 := Lib.hid (HB.out.trans (z.h.mono HB.out.size))
        have HO3 := Lib.hid ((HO.out.later z.h).later (blAlloc (Below.refl _ _) (Obj.cells #[Value.int IntKind.i64 x, Value.int IntKind.i64 y] 42)))
        have HS3 := Lib.hid (one_sl _ x y _ (own2_new z.x x y))
        go_wp2_with (at_builtin; refine append_st rfl _ _ rfl W.heap.size _ _ rfl HO3.out (some ⟨z.x.heap.size, 0, none⟩) 1 [(x, y)] rfl HS3.out (fun h => (by cases h)) (by have := HFC.out; have := HLEN.out; simp only [List.length_singleton]; omega) (blAlloc HB3.out _).size ?_)
        · intro v' w' hown hgrow
          have HB4 := Lib.hid (grown_below (blAlloc HB3.out _) HO3.out (Nat.le_refl _) (blAlloc HB3.out _).size hgrow)
          have HO4 : Hid (OwnL w' W.heap.size v' ((l.take (k + 1)).filter p)) := by
            show OwnL _ _ _ _
            rw [HST.out, if_pos HC.out]
            exact hown
          clear hown hgrow
          go_wp2
          go_roundw
          case rel => exact ⟨k + 1, hlt, by go_num, HB4.out, HO4.out⟩
          case measure => simp [intOf]; omega
    · go_wp2
      go_ret
      refine OwnL.retc ?_ (Nat.le_of_lt hS) HBW.out
      have := HO.out
      rwa [List.take_of_length_le (by omega), HV.out] at this

end S1
end Go.Proofs.YtjlkgbejldcklaaGreat
