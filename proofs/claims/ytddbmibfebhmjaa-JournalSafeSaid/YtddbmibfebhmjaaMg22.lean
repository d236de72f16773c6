/- Lists of lists of bytes; less, bytes.Clone, a track's add. Conditions: at most 2^40 bytes. -/
import Derived.Test.YtddbmibfebhmjaaMg20
import Derived.Test.YtddbmibfebhmjaaMg03
import Derived.Test.YtddbmibfebhmjaaMg08
set_option maxRecDepth 100000
set_option maxHeartbeats 16000000
set_option linter.unusedVariables false
namespace Go.Proofs.Ytddbmibfebhmjaa
open S2
namespace SZ
open Go.RowKit
theorem get_lt14 {α : Type} {l : List α} {k : Nat} (h : k < l.length) : ∃ x, l[k]? = some x := ⟨l[k], List.getElem?_eq_getElem h⟩
def Bl (w : World) (T : Nat → Prop) (v : Value) (L : List (List UInt8)) : Prop :=
 ∃ a cap, v = .slice a L.length cap ∧ (L ≠ [] → ∃ g o, a = some ⟨g, o, none⟩ ∧ T g ∧ g < w.heap.size ∧ ∀ (i : Nat) l, L[i]? = some l → ∃ xa xc gx, w.cell? ⟨g, o + i, none⟩ = some (.slice xa l.length xc) ∧ Bw w gx (.slice xa l.length xc) l ∧ (l ≠ [] → T gx))
theorem Bl.keep {S T : Nat → Prop} {w w' : World} {v : Value} {L : List (List UInt8)} (h : Bl w T v L) (hk : Keeps S w w') (hT : ∀ k, T k → ¬ S k) : Bl w' T v L := by
 obtain ⟨a, cap, hv, hr⟩ := h
 refine ⟨a, cap, hv, fun hne => ?_⟩
 obtain ⟨g, o, ha, hg, hgq, hc⟩ := hr hne
 refine ⟨g, o, ha, hg, Nat.lt_of_lt_of_le hgq hk.size, fun i l hl => ?_⟩
 obtain ⟨xa, xc, gx, h1, h2, h3⟩ := hc i l hl
 exact ⟨xa, xc, gx, hk.cell (hT g hg) h1, h2.keep hk (fun h => hT gx (h3 h)), h3⟩
theorem Bl.form {T : Nat → Prop} {w : World} {v : Value} {L : List (List UInt8)} (h : Bl w T v L) : ∃ a cap, v = .slice a L.length cap := by
 obtain ⟨a, cap, hv, _⟩ := h
 exact ⟨a, cap, hv⟩
theorem Bl.at {T : Nat → Prop} {w : World} {a : Option Addr} {n cap : Nat} {L : List (List UInt8)} (h : Bl w T (.slice a n cap) L) {i : Nat} {l : List UInt8} (hl : L[i]? = some l) :
  ∃ g o xa xc gx, a = some ⟨g, o, none⟩ ∧ T g ∧ g < w.heap.size ∧ w.cell? ⟨g, o + i, none⟩ = some (.slice xa l.length xc) ∧ Bw w gx (.slice xa l.length xc) l ∧ (l ≠ [] → T gx) := by
 obtain ⟨a', cap', hv, hr⟩ := h
 simp only [Value.slice.injEq] at hv
 obtain ⟨rfl, rfl, rfl⟩ := hv
 obtain ⟨g, o, ha, hg, hgq, hc⟩ := hr (by rintro rfl; simp at hl)
 obtain ⟨xa, xc, gx, h1, h2, h3⟩ := hc i l hl
 exact ⟨g, o, xa, xc, gx, ha, hg, hgq, h1, h2, h3⟩
theorem Bl.mono {T T' : Nat → Prop} {w : World} {v : Value} {L : List (List UInt8)} (h : Bl w T v L) (hT : ∀ k, T k → T' k) : Bl w T' v L := by
 obtain ⟨a, cap, hv, hr⟩ := h
 refine ⟨a, cap, hv, fun hne => ?_⟩
 obtain ⟨g, o, ha, hg, hgq, hc⟩ := hr hne
 refine ⟨g, o, ha, hT g hg, hgq, fun i l hl => ?_⟩
 obtain ⟨xa, xc, gx, h1, h2, h3⟩ := hc i l hl
 exact ⟨xa, xc, gx, h1, h2, fun h => hT gx (h3 h)⟩
theorem flat_take {L : List (List UInt8)} {k : Nat} {l : List UInt8} (h : L[k]? = some l) : (L.take (k + 1)).flatten = (L.take k).flatten ++ l := by
 rw [List.take_add_one, h]
 simp
theorem flat_take_le (L : List (List UInt8)) (k : Nat) : (L.take k).flatten.length ≤ L.flatten.length := by
 have : L.flatten = (L.take k).flatten ++ (L.drop k).flatten := by rw [← List.flatten_append, List.take_append_drop]
 rw [this, List.length_append]
 omega
def totL (L : List (List UInt8)) : Nat := L.flatten.length
theorem totL_take {L : List (List UInt8)} {k : Nat} {l : List UInt8} (h : L[k]? = some l) : totL (L.take (k + 1)) = totL (L.take k) + l.length := by
 unfold totL
 rw [flat_take h, List.length_append]
theorem totL_le (L : List (List UInt8)) (k : Nat) : totL (L.take k) ≤ totL L := flat_take_le L k
theorem totL_all (L : List (List UInt8)) : totL (L.take L.length) = totL L := by rw [List.take_length]
theorem totL_nil (L : List (List UInt8)) : totL (L.take 0) = 0 := rfl
theorem less_any (w : World) (T : Nat → Prop) (room : Int) (v : Value) (L : List (List UInt8)) (h : Bl w T v L) (h0 : 0 ≤ room) (h1 : room ≤ 4194304) (hL : L.length ≤ 1000000) (hs : totL L ≤ 1099511627776) :
  Calls Try.prog 42 #[.int .i64 room, v] w fun r w' => r = .returned (.tuple #[.int .i64 (if (totL L : Int) ≤ room then room - totL L else 0), .bool (decide ((totL L : Int) ≤ room))]) ∧ w' = w := by
 obtain ⟨a, cap, rfl⟩ := h.form
 generalize hR : (Value.tuple #[.int .i64 (if (totL L : Int) ≤ room then room - totL L else 0), .bool (decide ((totL L : Int) ≤ room))]) = R
 have HR := Lib.hid hR
 have HB := Lib.hid h
 clear h hR
 go_enter Try.func42, Try.ntmps42
 go_wp2
 go_loopw [0, 10] (fun v i wr => ∃ k : Nat, k ≤ L.length ∧ i = .int .i64 k ∧ v = .int .i64 (room - totL (L.take k)) ∧ (totL (L.take k) : Int) ≤ room ∧ w = wr) (fun _ i _ => L.length - (RowKit.intOf i).toNat)
 case atStart => exact ⟨0, Nat.zero_le _, rfl, by rw [totL_nil]; simp, by rw [totL_nil]; simpa using h0, rfl⟩
 case round =>
  obtain ⟨k, hk, rfl, rfl, hle, rfl⟩ := hrel
  by_cases hlt : k < L.length
  ·obtain ⟨l, hl⟩ := get_lt14 hlt
   obtain ⟨g, o, xa, xc, gx, rfl, hT, hgq, hc, hb, hx⟩ := HB.out.at hl
   have hlen : (totL (L.take (k + 1)) : Int) = totL (L.take k) + l.length := by rw [totL_take hl]; omega
   have HF := Lib.hid hlen
   have HF1 := Lib.hid (totL_le L (k + 1))
   have hw1 : wrap64 (room - (totL (L.take k) : Int) - (l.length : Int)) = room - (totL (L.take k) : Int) - (l.length : Int) := by have := HF1.out; unfold wrap64; omega
   clear hb hx hl hlen
   by_cases hn : room - (totL (L.take k) : Int) - (l.length : Int) < 0
   ·go_wp2
    refine bodyPost_ret (results_tmp2 rfl _ _ _) rfl ?_
    have e1 : ¬ ((totL L : Int) ≤ room) := by have := HF.out; have := HF1.out; omega
    have hR := HR.out
    rw [if_neg e1, decide_eq_false e1] at hR
    rw [← hR]
    exact ⟨rfl, rfl⟩
   ·go_wp2
    go_roundw
    case rel => exact ⟨k + 1, hlt, by go_num, by rw [HF.out, Int.sub_sub], by rw [HF.out]; omega, trivial⟩
    case measure => simp [RowKit.intOf]; omega
  ·obtain rfl : k = L.length := by omega
   rw [totL_all] at hle ⊢
   have hR := HR.out
   rw [if_pos hle, decide_eq_true hle] at hR
   have HR2 := Lib.hid hR
   clear hle hR
   go_wp2
   refine bodyPost_ret (results_tmp2 rfl _ _ _) rfl ?_
   rw [← HR2.out]
   exact ⟨rfl, rfl⟩
theorem addT_any (w : World) (T : Nat → Prop) (t : Nat) (s : Nat) (rv v : Value) (l : List UInt8) (L : List (List UInt8)) (ht : TrkAt w t rv s) (hr : Row w rv.ownBlock rv l) (h : Bl w T v L) (hT : ∀ k, T k → k ≠ t ∧ rv.ownBlock ≠ some k ∧ k < w.heap.size) (hL : L.length ≤ 1000000) (hs : l.length + totL L ≤ 1099511627776) :
  Calls Try.prog 43 #[.pointer (some ⟨t, 0, none⟩), v] w fun r w' => r = .returned (.tuple #[]) ∧ ∃ rv', TrkAt w' t rv' s ∧ Row w' rv'.ownBlock rv' (l ++ L.flatten) ∧ (rv'.ownBlock = rv.ownBlock ∨ New w rv'.ownBlock) ∧ Keeps (fun k => k = t ∨ rv.ownBlock = some k) w w' := by
 obtain ⟨a, cap, rfl⟩ := h.form
 have HB := Lib.hid h
 have HT := Lib.hid hT
 have HTR := Lib.hid ht
 have HRO := Lib.hid hr
 clear h hT ht hr
 go_enter Try.func43, Try.ntmps43
 go_wp2
 go_loopw [8] (fun i wr => ∃ (k : Nat) (rw : Value), k ≤ L.length ∧ i = .int .i64 k ∧ TrkAt wr t rw s ∧ Row wr rw.ownBlock rw (l ++ (L.take k).flatten) ∧ (rw.ownBlock = rv.ownBlock ∨ New w rw.ownBlock) ∧ Keeps (fun k => k = t ∨ rv.ownBlock = some k) w wr) (fun i _ => L.length - (RowKit.intOf i).toNat)
 case atStart => exact ⟨0, rv, Nat.zero_le _, rfl, HTR.out, by simpa using HRO.out, .inl rfl, Keeps.refl _ _⟩
 case round =>
  obtain ⟨k, r1, hk, rfl, htr, hro, hnew, hkp⟩ := hrel
  by_cases hlt : k < L.length
  ·obtain ⟨x, hx⟩ := get_lt14 hlt
   obtain ⟨g, o, xa, xc, gx, rfl, hTg, hgq, hc, hb, hTx⟩ := HB.out.at hx
   have hgT := HT.out g hTg
   have hc2 := hkp.cell (b := g) (o := o + k) (by rintro (e | e); exact hgT.1 e; exact hgT.2.1 e) hc
   have hgq2 := Nat.lt_of_lt_of_le hgq hkp.size
   have hb2 := hb.keep hkp (fun hne => by have := HT.out gx (hTx hne); rintro (e | e); exact this.1 e; exact this.2.1 e)
   have c0 := blk_cell htr 0
   have f0 := blk_soft htr 0
   have hlt0 := lt_of_block htr
   simp at c0
   have hlen := totL_take hx
   have hle := totL_le L (k + 1)
   have HLEN : Hid ((l ++ (L.take k).flatten).length + x.length ≤ 1099511627776) := by
    show _ ≤ _
    rw [List.length_append]
    have e : (L.take k).flatten.length = totL (L.take k) := rfl
    omega
   have HX := Lib.hid hx
   have HC := Lib.hid hb2
   have HTR1 := Lib.hid htr
   have HRO1 := Lib.hid hro
   have HN1 := Lib.hid hnew
   have HK1 := Lib.hid hkp
   obtain ⟨ra, rn, rc, hrv⟩ := hro.form
   subst hrv
   clear hb hTx hc hgq hx hb2 htr hro hnew hkp hlen hle hTg
   have HNE : Hid ((Value.slice ra rn rc).ownBlock ≠ some t) := row_ne HRO1.out HTR1.out ty_ne2
   go_wp2_with (at_builtin; refine wpList_app rfl (.tmp 16) (.tmp 17) 39 rfl rfl rfl HRO1.out HC.out.src HLEN.out ?_; intro v' w' g' h1 h2 h3; obtain ⟨va, vn, vc, rfl⟩ := h1.form; have htr2 : TrkAt w' t (Value.slice ra rn rc) s := (h2.block t hlt0 (fun e => HNE.out e.symm)).trans HTR1.out; clear c0 f0; have c0 := blk_cell htr2 0; simp at c0; have f0 := blk_soft htr2 0; have hlt1 := lt_of_block htr2; have HTR2 := Lib.hid htr2; have H1 := Lib.hid h1; have H2 := Lib.hid h2; have H3 := Lib.hid h3; clear h1 h2 h3 htr2)
   go_roundw
   case rel =>
    have e1 := H1.out.2
    have hr2 := H1.out
    rw [← e1] at hr2
    have hks : Keeps (fun k => k = t) w' (w'.setCell ⟨t, 0, none⟩ (.slice va vn vc)) := keeps_set _
    refine ⟨k + 1, .slice va vn vc, hlt, by go_num, blk_set HTR2.out _, ?_, ?_, ?_⟩
    ·rw [flat_take HX.out, ← List.append_assoc]
     exact hr2.keep hks (fun x hx e => by subst e; exact row_ne hr2 HTR2.out ty_ne2 hx)
    ·rw [e1]
     rcases H3.out with e | e
     ·rw [e]; exact HN1.out
     ·exact .inr (e.later HK1.out)
    ·refine (HK1.out.trans (Keeps.grown H2.out (S := fun k => (Value.slice ra rn rc).ownBlock = some k) (fun k _ e => e)) (fun x hx e => ?_)).trans hks (fun x _ e => .inl e)
     rcases HN1.out with e2 | e2
     ·rw [e2] at e; exact .inr e
     ·have := e2 x e; omega
   case measure => simp [RowKit.intOf]; omega
  ·obtain rfl : k = L.length := by omega
   go_wp2
   go_end0
   exact ⟨rfl, r1, htr, by simpa using hro, hnew, hkp⟩
end SZ
end Go.Proofs.Ytddbmibfebhmjaa
