/- small of the laws of txn. Conditions: each text takes less than 2^47 bytes. -/
import Derived.Deep.RegionHeld3
import Derived.WalkSpells
import Derived.SizedLaws
import Derived.Test.YtgipkikedacmdaaGreatMg42
import Derived.Test.YtgipkikedacmdaaGreatMg25
import Derived.Test.YtgipkikedacmdaaGreatMg33
import Derived.Test.YtgipkikedacmdaaGreatMg38
import Derived.Test.YtgipkikedacmdaaGreatMg36
set_option maxRecDepth 100000
set_option maxHeartbeats 16000000
set_option linter.unusedVariables false
set_option linter.unusedSimpArgs false
namespace Go.Proofs.YtgipkikedacmdaaGreat
open Go.Lib renaming hid → hI
open S3 SN
namespace SP
open Go.ChangeShapes Go.WideShapes Go.ChangeAt Go.RowKit Go.Joins Go.Deep
theorem pen_belowP {B b : Nat} {r r' : Option Nat} {x y : World} (h : S2.PenStep b r r' x y) (hB : B ≤ x.heap.size) (hb : B ≤ b) (hr : ∀ k, r = some k → B ≤ k) : Below B x y ∧ ∀ k, r' = some k → B ≤ k := by
 refine ⟨h.keeps.below hB fun k hk hs => ?_, fun k hk => ?_⟩
 ·rcases hs with rfl | hs
  ·omega
  ·have := hr k hs
   omega
 ·rcases h.row with e | e
  ·exact hr k (e ▸ hk)
  ·exact Nat.le_trans hB (e k hk)
theorem stepAlloc {b : Nat} {r r' : Option Nat} {w y : World} (h : S2.PenStep b r r' w y) (ob : Obj) : S2.PenStep b r r' w (y.alloc ob) := ⟨S2.kAlloc h.keeps ob, h.row⟩
def cO : Cod Opr := cI.two (cT.two (cT.two cN))
theorem cO_ok : cO.Ok := Cod.two_ok cI_ok (Cod.two_ok cT_ok (Cod.two_ok cT_ok cN_ok))
theorem cO_pos (o : Opr) : 1 ≤ (cO.lay o).length := by
 show 1 ≤ (S2.i8 _ ++ _).length
 rw [List.length_append, S2.i8_length]
 omega
def layO (o : Opr) : List UInt8 := S2.i8 o.1 ++ (S2.tx o.2.1 ++ S2.tx o.2.2.1) ++ S2.i8 (wrap64 (o.2.2.2 : Int))
theorem cO_lay : cO.lay = layO := by
 funext o
 show S2.i8 _ ++ (S2.tx _ ++ (S2.tx _ ++ S2.i8 _)) = _
 unfold layO
 simp only [List.append_assoc]
def layP (l : List Opr) : List UInt8 := S2.i8 l.length ++ l.flatMap layO
theorem cOs_lay (l : List Opr) : cO.list.lay l = layP l := by
 show S2.i8 _ ++ l.flatMap cO.lay = _
 rw [cO_lay]
 rfl
theorem layO_len (o : Opr) : (layO o).length = 24 + o.2.1.size + o.2.2.1.size := by
 unfold layO
 simp only [List.length_append, S2.i8_length, S2.tx_length]
 omega
theorem layO_len_le : ∀ (l : List Opr), (∀ o ∈ l, o.2.1.size ≤ 1000 ∧ o.2.2.1.size ≤ 1000) → (l.flatMap layO).length ≤ 2024 * l.length
 | [], _ => by simp
 | o :: l, h => by
  have h1 := layO_len_le l (fun x hx => h x (by simp [hx]))
  have h2 := h o (by simp)
  rw [List.flatMap_cons, List.length_append, layO_len, List.length_cons]
  omega
theorem layO_take {l : List Opr} {k : Nat} {o : Opr} (h : l[k]? = some o) : (l.take (k + 1)).flatMap layO = (l.take k).flatMap layO ++ layO o := by
 rw [List.take_add_one, h, List.flatMap_append]
 simp
theorem i8_oneP (x : Int) : [x].flatMap S2.i8 = S2.i8 x := by simp
theorem two_newTL (w : World) (x y : ByteArray) (b : Nat) (hb : b = w.heap.size) (W : World) (hW : W.heap = (w.alloc (.cells #[.string x, .string y] 9)).heap) : S2.TL W b (some ⟨b, 0, none⟩) [x, y] := by
 subst hb
 intro _
 refine ⟨0, rfl, fun j z hj => ?_⟩
 have hb : W.heap[w.heap.size]? = some (.cells #[.string x, .string y] 9 (0, 0)) := by
  rw [hW]
  show (w.heap.push _)[w.heap.size]? = _
  rw [Array.getElem?_push_size]
 simp only [World.cell?, hb]
 match j, hj with
 | 0, hj => simp only [List.getElem?_cons_zero, Option.some.injEq] at hj; subst hj; rfl
 | 1, hj => simp only [List.getElem?_cons_succ, List.getElem?_cons_zero, Option.some.injEq] at hj; subst hj; rfl
 | n + 2, hj => simp at hj
theorem pnum_any (w : World) (b : Nat) (r : Option Nat) (B : List UInt8) (n : Nat) (hp : S2.PenAt w b r B) (hlen : B.length ≤ 600000000) :
  Calls Tryz.prog 146 #[.pointer (some ⟨b, 0, none⟩), .int .u64 (n : Int)] w (S2.Laid w b r (B ++ S2.i8 (wrap64 (n : Int)))) := by
 have HP := hI hp
 have HLN := hI hlen
 clear hp hlen
 go_enter Tryz.func146, Tryz.ntmps146
 go_wp2_with (go_at_call 68; go_must (refine (S2.int_any _ b r B w.heap.size _ 1 [wrap64 (n : Int)] (HP.out.before (S2.kAlloc (S2.Keeps.refl _ _) _)) (S2.one_new w _ _ rfl _ rfl) (HP.out.apart (Nat.le_refl _)) (by have := HLN.out; simp only [List.length_cons, List.length_nil]; omega)).mono ?_; rw [i8_oneP]; rintro e w9 ⟨rfl, r9, hp9, hs9⟩; have HP9 := hI hp9; have HS9 := hI (hs9.before (w := w) (S2.kAlloc (S2.Keeps.refl _ _) _)); clear hp9 hs9))
 go_end0
 exact ⟨rfl, r9, HP9.out, HS9.out⟩
theorem pops_any (b : Nat) (r : Option Nat) (B : List UInt8) (va : Value) (l : List Opr) (w0 w : World) (hp : S2.PenAt w b r B) (hlen : B.length ≤ 100000000) (hl : l.length ≤ 100000) (hk : ∀ o ∈ l, o.2.1.size ≤ 1000 ∧ o.2.2.1.size ≤ 1000) (ha : SlG eO w0 va l) (hbel : Below w0.heap.size w0 w) (hb0 : w0.heap.size ≤ b) (hr0 : ∀ k, r = some k → w0.heap.size ≤ k) :
  Calls Tryz.prog 67 #[.pointer (some ⟨b, 0, none⟩), va] w (S2.Laid w b r (B ++ layP l)) := by
 obtain ⟨aS, cS, rfl⟩ := ha.form
 have HS := hI ha
 have HK := hI hk
 have HLL := hI hl
 have HLB := hI hlen
 have HP0 := hI hp
 have HB0 := hI hbel
 have HBB := hI hb0
 have HR0 := hI hr0
 clear ha hk hl hp hlen hbel hb0 hr0
 go_enter Tryz.func67, Tryz.ntmps67
 go_wp2_with (go_at_call 68; go_must (refine (S2.int_any _ b r B w.heap.size _ 1 [(l.length : Int)] (HP0.out.before (S2.kAlloc (S2.Keeps.refl _ _) _)) (S2.one_new w _ _ rfl _ rfl) (HP0.out.apart (Nat.le_refl _)) (by have := HLB.out; simp only [List.length_cons, List.length_nil]; omega)).mono ?_; rw [i8_oneP]; rintro e w1 ⟨rfl, r1, hp1, hs1⟩; have HP1 := hI hp1; have HS1 := hI (hs1.before (w := w) (S2.kAlloc (S2.Keeps.refl _ _) _)); clear hp1 hs1))
 go_loopw [15] (fun i wr => ∃ (k : Nat) (r' : Option Nat), k ≤ l.length ∧ i = .int .i64 k ∧ S2.PenAt wr b r' (B ++ S2.i8 l.length ++ (l.take k).flatMap layO) ∧ S2.PenStep b r r' w wr) (fun i _ => l.length - (RowKit.intOf i).toNat)
 case atStart => exact ⟨0, r1, Nat.zero_le _, rfl, by simpa using HP1.out, HS1.out⟩
 case round =>
  clear HP1 HS1 HP0
  obtain ⟨k, r', hk, rfl, hp, hst⟩ := hrel
  have HP := hI hp
  have HST := hI hst
  have hpb := pen_belowP (B := w0.heap.size) hst HB0.out.size HBB.out HR0.out
  have HB : Hid (Below w0.heap.size w0 wr) := HB0.out.trans hpb.1
  have HR := hI hpb.2
  have hll := HLL.out
  have HGL : Hid ((B ++ S2.i8 l.length ++ (l.take k).flatMap layO).length ≤ 400000000) := by
   show _ ≤ _
   have h1 := layO_len_le (l.take k) (fun o ho => HK.out o (List.mem_of_mem_take ho))
   have := HLB.out
   rw [List.length_take] at h1
   rw [List.length_append, List.length_append, S2.i8_length]
   omega
  clear hp hst hpb
  by_cases hlt : k < l.length
  ·obtain ⟨⟨kd, key, to_, nm⟩, hx⟩ := at_lt hlt
   obtain ⟨g, o, hA, hg, d0, d1, d2, d3⟩ := ops_at HS.out hx
   simp only at d0 d1 d2 d3
   have c0 := cell_in HB.out hg d0
   have c1 := cell_in HB.out hg d1
   have c2 := cell_in HB.out hg d2
   have c3 := cell_in HB.out hg d3
   have hk1 : (k : Int) < (l.length : Int) := by omega
   have hk0 : (0 : Int) ≤ (k : Int) := by omega
   have hdk : decide ((k : Int) < (l.length : Int)) = true := decide_eq_true hk1
   have hdn : decide (k < l.length) = true := decide_eq_true hlt
   have HFT := hI (layO_take hx)
   have HKx := hI (HK.out _ (List.mem_of_getElem? hx))
   simp only [Hid] at HKx
   have HKx := hI HKx
   clear hx d0 d1 d2 d3
   subst hA
   generalize hG : B ++ S2.i8 l.length ++ (l.take k).flatMap layO = G at *
   have HGE := hI hG
   clear hG
   have hob : (wr.alloc (.cells #[.int .i64 kd, .string key, .string to_, .int .u64 (nm : Int)] 79)).heap[wr.heap.size]? = some (.cells #[.int .i64 kd, .string key, .string to_, .int .u64 (nm : Int)] 79 (0, 0)) := by
    show (wr.heap.push _)[wr.heap.size]? = _
    rw [Array.getElem?_push_size]
   have HOB := hI (cells_four hob)
   have HPA : Hid (S2.PenAt (wr.alloc (.cells #[.int .i64 kd, .string key, .string to_, .int .u64 (nm : Int)] 79)) b r' G) := hI (HP.out.before (S2.kAlloc (S2.Keeps.refl (fun _ => False) wr) _))
   have HPX : Hid (¬ S2.PenS b r' wr.heap.size) := HP.out.apart (Nat.le_refl _)
   have HSA : Hid (S2.PenStep b r r' w (wr.alloc (.cells #[.int .i64 kd, .string key, .string to_, .int .u64 (nm : Int)] 79))) := stepAlloc HST.out _
   clear hob
   go_wp2_with fail
   go_region_held3 (fun Y => Y.cell? ⟨wr.heap.size, 0, none⟩ = some (.int .i64 kd))
    (first | exact b0 | exact HOB.out.1 | exact S2.alloc_cell HOB.out.1 _)
    (first | (go_at_call 68; go_must (refine (S2.int_any _ b r' G (wr.heap.size + 1) _ 1 [kd] (HPA.out.before (S2.kDrew (S2.kAlloc (S2.Keeps.refl _ _) _))) (S2.one_new (wr.alloc (.cells #[.int .i64 kd, .string key, .string to_, .int .u64 (nm : Int)] 79)) _ _ (by simp) _ rfl) (HPA.out.apart (by simp)) (by have := HGL.out; simp only [List.length_cons, List.length_nil]; omega)).mono ?_; rw [i8_oneP]; rintro e w5 ⟨rfl, r5, hp5, hs5⟩; have HP5 := hI hp5; have hs6 := hs5.before (w := (wr.alloc (.cells #[.int .i64 kd, .string key, .string to_, .int .u64 (nm : Int)] 79))) (S2.kDrew (S2.kAlloc (S2.Keeps.refl _ _) _)); have HS5 := hI (HSA.out.trans hs6); have b0 := hs6.keeps.cell HPX.out HOB.out.1; have b1 := hs6.keeps.cell HPX.out HOB.out.2.1; have b2 := hs6.keeps.cell HPX.out HOB.out.2.2.1; have b3 := hs6.keeps.cell HPX.out HOB.out.2.2.2; have HPY := hI (hs6.free HPX.out (by simp)); clear hp5 hs5 hs6)))
   go_wp2_with fail
   go_region_held3 (fun Y => Y.cell? ⟨wr.heap.size, 1, none⟩ = some (.string key) ∧ Y.cell? ⟨wr.heap.size, 2, none⟩ = some (.string to_))
    (first | exact ⟨e1, e2⟩ | exact ⟨b1, b2⟩ | exact ⟨S2.alloc_cell b1 _, S2.alloc_cell b2 _⟩)
    (first | (go_at_call 145; go_must (refine (S2.text_any _ b r5 (G ++ S2.i8 kd) w5.heap.size _ 2 [key, to_] (HP5.out.before (S2.kDrew (S2.kAlloc (S2.Keeps.refl _ _) _))) (two_newTL w5 key to_ _ rfl _ rfl) (HP5.out.apart (Nat.le_refl _)) (fun j s hs => by have := HKx.out; match j, hs with | 0, hs => simp at hs; subst hs; omega | 1, hs => simp at hs; subst hs; omega | n + 2, hs => simp at hs) (by simp) (by have := HGL.out; have := HKx.out; rw [List.length_append, S2.i8_length]; simp only [S2.txSum]; omega)).mono ?_; rintro e w7 ⟨rfl, r7, hp7, hs7⟩; have HP7 := hI hp7; have hs8 := hs7.before (w := w5) (S2.kDrew (S2.kAlloc (S2.Keeps.refl _ _) _)); have HS7 := hI (HS5.out.trans hs8); have e1 := hs8.keeps.cell HPY.out b1; have e2 := hs8.keeps.cell HPY.out b2; have e3 := hs8.keeps.cell HPY.out b3; clear hp7 hs7 hs8)))
   go_wp2_with (go_at_call 146; go_must (refine (pnum_any w7 b r7 (G ++ S2.i8 kd ++ [key, to_].flatMap S2.tx) nm HP7.out (by have := HGL.out; have := HKx.out; rw [List.length_append, List.length_append, S2.i8_length, S2.tx_sum]; simp only [S2.txSum]; omega)).mono ?_; rintro e w9 ⟨rfl, r9, hp9, hs9⟩; have HP9 := hI hp9; have HS9 := hI (HS7.out.trans hs9); clear hp9 hs9))
   go_roundw
   case rel =>
    refine ⟨k + 1, r9, hlt, by go_num, ?_, HS9.out⟩
    have h9 := HP9.out
    have e : G ++ S2.i8 kd ++ [key, to_].flatMap S2.tx ++ S2.i8 (wrap64 (nm : Int)) = B ++ S2.i8 l.length ++ (l.take (k + 1)).flatMap layO := by
     rw [HFT.out, ← HGE.out]
     unfold layO
     simp [List.append_assoc]
    rw [← e]
    exact h9
   case measure => simp [RowKit.intOf]; omega
  ·have hge : ¬ (k : Int) < (l.length : Int) := by omega
   have hdk : decide ((k : Int) < (l.length : Int)) = false := decide_eq_false hge
   have hdn : decide (k < l.length) = false := decide_eq_false hlt
   have HT : Hid (B ++ S2.i8 l.length ++ (l.take k).flatMap layO = B ++ layP l) := by
    show _ = _
    rw [List.take_of_length_le (by omega), List.append_assoc]
    rfl
   rw [HT.out] at HP HGL
   go_wp2
   go_end0
   exact ⟨rfl, r', HP.out, HST.out⟩

theorem op_block {w : World} {x y z t : Value} {k : Nat} {T : TypeId} (h : w.heap[k]? = some (.cells #[x, y, z, t] T (0, 0))) (u0 u1 u2 u3 : Value) :
  ((((w.setCell ⟨k, 0, none⟩ u0).setCell ⟨k, 1, none⟩ u1).setCell ⟨k, 2, none⟩ u2).setCell ⟨k, 3, none⟩ u3).heap[k]? = some (.cells #[u0, u1, u2, u3] T (0, 0)) ∧ w.grownBy ((((w.setCell ⟨k, 0, none⟩ u0).setCell ⟨k, 1, none⟩ u1).setCell ⟨k, 2, none⟩ u2).setCell ⟨k, 3, none⟩ u3) (some k) := by
 have hk := lt_of_block h
 refine ⟨?_, rfl, rfl, rfl, by simp [World.setCell], fun j hj hne => ?_⟩
 ·simp only [World.setCell]
  rw [Array.getElem?_modify, if_pos rfl, Array.getElem?_modify, if_pos rfl, Array.getElem?_modify, if_pos rfl, Array.getElem?_modify, if_pos rfl, h]
  rfl
 ·have e : j ≠ k := fun e => hne (by rw [e])
  rw [Go.Deep.blk_setCell_other _ _ _ _ e, Go.Deep.blk_setCell_other _ _ _ _ e, Go.Deep.blk_setCell_other _ _ _ _ e, Go.Deep.blk_setCell_other _ _ _ _ e]
theorem frozen_four {Y : World} {k : Nat} {x0 x1 x2 x3 : Value} {T : TypeId} (h : Y.heap[k]? = some (.cells #[x0, x1, x2, x3] T (0, 0))) :
  Y.frozen? ⟨k, 0, none⟩ = false ∧ Y.frozen? ⟨k, 1, none⟩ = false ∧ Y.frozen? ⟨k, 2, none⟩ = false ∧ Y.frozen? ⟨k, 3, none⟩ = false := by
 simp only [World.frozen?, h]
 exact ⟨rfl, rfl, rfl, rfl⟩
theorem snum_any {w : World} {s b g : Nat} {c : Cur} (he : EyeS w s b g c) : Calls Tryz.prog 202 #[.pointer (some ⟨s, 0, none⟩)] w (SeeS cN (fun x => .int .u64 (x : Int)) w s b g c) := by
 have HE := hI he
 have p0 := he.ptr
 clear he
 have HU : Hid (((cN.val c : Nat) : Int) = IntKind.u64.wrap (cI.val c)) := u64_int _
 unfold SeeS
 dsimp only
 rw [HU.out]
 go_enter Tryz.func202, Tryz.ntmps202
 go_wp2_with (go_at_call 103; go_must (refine (sint_any HE.out).mono ?_; rintro e w2 ⟨rfl, h1, h2⟩; have HE2 := hI h1; have HK2 := hI h2; clear h1 h2))
 go_ret
 exact ⟨rfl, HE2.out, HK2.out⟩
theorem sop_any {w : World} {s b g : Nat} {c : Cur} (he : EyeS w s b g c) : Calls Tryz.prog 173 #[.pointer (some ⟨s, 0, none⟩)] w (SeeS cO opV w s b g c) := by
 have HE := hI he
 have HLT := hI he.lt
 have HAB : Hid ((w.alloc (.cells #[.int .i64 0, .string ⟨#[]⟩, .string ⟨#[]⟩, .int .u64 0] 79)).heap[w.heap.size]? = some (.cells #[.int .i64 0, .string ⟨#[]⟩, .string ⟨#[]⟩, .int .u64 0] 79 (0, 0))) := by
  show (w.heap.push _)[w.heap.size]? = _
  rw [Array.getElem?_push_size]
 have HK0 : Hid (S2.Keeps (S2.Only b) w (w.alloc (.cells #[.int .i64 0, .string ⟨#[]⟩, .string ⟨#[]⟩, .int .u64 0] 79))) := S2.kAlloc (S2.Keeps.refl _ _) _
 have HE0 : Hid (EyeS (w.alloc (.cells #[.int .i64 0, .string ⟨#[]⟩, .string ⟨#[]⟩, .int .u64 0] 79)) s b g c) := he.before (S2.kAlloc (S2.Keeps.refl _ _) _)
 have HNB : Hid (¬ S2.Only b w.heap.size) := fun e => by have e2 : w.heap.size = b := e; have := he.lt; omega
 have p0 := HE0.out.ptr
 clear he
 have HV : Hid (cO.val c = (cI.val c, cT.val (cI.fin c), cT.val (cT.fin (cI.fin c)), cN.val (cT.fin (cT.fin (cI.fin c))))) := rfl
 have HF : Hid (cO.fin c = cN.fin (cT.fin (cT.fin (cI.fin c)))) := rfl
 have HLN : Hid ((cO.fin c).1.length ≤ c.1.length) := cO_ok.len c
 unfold SeeS opV
 rw [HV.out]
 simp only
 go_enter Tryz.func173, Tryz.ntmps173
 go_wp2_with (first
  | (have htok := HE3; clear htok; go_at_call 202; go_must (refine (snum_any HE3.out).mono ?_; rintro e w5 ⟨rfl, h1, h2⟩; have HE4 := hI h1; have HK4 := hI (HK3.out.then h2); have hb4 := (HK4.out.block w.heap.size HSZ.out HNB.out).trans HAB.out; have HAB5 := hI hb4; obtain ⟨f0, f1, f2, f3⟩ := frozen_four hb4; obtain ⟨a0, a1, a2, a3⟩ := cells_four hb4; have hrs := lt_of_block hb4; clear h1 h2 hb4))
  | (have htok := HE2; clear htok; go_at_call 201; go_must (refine (stext_any HE2.out).mono ?_; rintro e w4 ⟨rfl, h1, h2⟩; have HE3 := hI h1; have p3 := h1.ptr; have HK3 := hI (HK2.out.then h2); clear h1 h2))
  | (have htok := HE1; clear htok; go_at_call 201; go_must (refine (stext_any HE1.out).mono ?_; rintro e w3 ⟨rfl, h1, h2⟩; have HE2 := hI h1; have p2 := h1.ptr; have HK2 := hI (HK1.out.then h2); clear h1 h2))
  | (go_at_call 103; go_must (refine (sint_any HE0.out).mono ?_; rintro e w2 ⟨rfl, h1, h2⟩; have HE1 := hI h1; have p1 := h1.ptr; have HK1 := hI h2; have HSZ : Hid (w.heap.size < (w.alloc (.cells #[.int .i64 0, .string ⟨#[]⟩, .string ⟨#[]⟩, .int .u64 0] 79)).heap.size) := (by show _ < _; simp); clear h1 h2)))
 have hE := op_block HAB5.out (.int .i64 (cI.val c)) (.string (cT.val (cI.fin c))) (.string (cT.val (cT.fin (cI.fin c)))) (.int .u64 ((cN.val (cT.fin (cT.fin (cI.fin c))) : Nat) : Int))
 obtain ⟨z0, z1, z2, z3⟩ := cells_four hE.1
 have HK5 := hI (keeps_after (HK0.out.then HK4.out) hE.2 (Nat.le_refl _))
 have HE5 := hI (HE4.out.grown hE.2 (fun k hk => by
  have e2 := Option.some.inj hk
  have h1 := HLT.out.1
  have h2 := HLT.out.2.1
  refine .inr ⟨by omega, by omega, fun hne e => ?_⟩
  have := HLT.out.2.2 (fun e3 => hne (List.eq_nil_of_length_eq_zero (by have h5 := HLN.out; rw [HF.out, e3] at h5; simpa using h5)))
  omega))
 clear hE
 generalize (((w5.setCell ⟨w.heap.size, 0, none⟩ (.int .i64 (cI.val c))).setCell ⟨w.heap.size, 1, none⟩ (.string (cT.val (cI.fin c)))).setCell ⟨w.heap.size, 2, none⟩ (.string (cT.val (cT.fin (cI.fin c))))).setCell ⟨w.heap.size, 3, none⟩ (.int .u64 ((cN.val (cT.fin (cT.fin (cI.fin c))) : Nat) : Int)) = w6 at *
 refine bodyPost_ret (v := .agg #[.int .i64 (cI.val c), .string (cT.val (cI.fin c)), .string (cT.val (cT.fin (cI.fin c))), .int .u64 ((cN.val (cT.fin (cT.fin (cI.fin c))) : Nat) : Int)]) (by simp [results, Tryz.results173, go_sem, z0, z1, z2, z3]) rfl ?_
 exact ⟨rfl, HE5.out, HK5.out⟩
theorem ownG_keep {α : Type} {E : Enc α} {T : TypeId} {w w' : World} {base b : Nat} {v : Value} {F : List α} (h : OwnG E T w base v F) (hb : b < base) (k : S2.Keeps (S2.Only b) w w') : OwnG E T w' base v F := by
 obtain ⟨h1, h2 | ⟨g, cap, cur, hv, hg, hh, r⟩⟩ := h
 ·exact ⟨h1, .inl h2⟩
 ·exact ⟨h1, .inr ⟨g, cap, cur, hv, hg, (k.block g (lt_of_block hh) (fun e => by have e2 : g = b := e; omega)).trans hh, r⟩⟩
def SeeL {α : Type} (E : Enc α) (T : TypeId) (k : Cod (List α)) (w : World) (s b g : Nat) (c : Cur) (e : Ending) (w' : World) : Prop := ∃ v, e = .returned v ∧ OwnG E T w' w.heap.size v (k.val c) ∧ EyeS w' s b g (k.fin c) ∧ S2.Keeps (Both s b) w w'
theorem slistO_any {w : World} {s b g : Nat} {c : Cur} (he : EyeS w s b g c) (hlen : c.1.length ≤ 1000000) :
  Calls Tryz.prog 172 #[.pointer (some ⟨s, 0, none⟩), .func (.func 173) #[] #[]] w (SeeL eO 79 cO.list w s b g c) := by
 have HE := hI he
 have HLC := hI hlen
 have p0 := he.ptr
 have HLT0 := hI he.lt
 clear he hlen
 generalize hN : cI.val c = N
 have HLV : Hid (cO.list.val c = (many cO N.toNat (said c)).1) := by rw [← hN]; exact hI rfl
 have HLF : Hid (cO.list.fin c = (many cO N.toNat (said c)).2) := by rw [← hN]; exact hI rfl
 have HSD : Hid (said c = ((cI.fin c).1, (cI.fin c).2.1, c.2.2 || decide (N < 0))) := by rw [← hN]; exact hI rfl
 have HI : Hid (Calls Tryz.prog 103 #[.pointer (some ⟨b, 0, none⟩)] w fun e w' => e = .returned (.int .i64 N) ∧ EyeS w' s b g (cI.fin c) ∧ S2.Keeps (S2.Only b) w w') := by
  rw [← hN]
  exact hI (sint_any HE.out)
 clear hN
 go_enter Tryz.func172, Tryz.ntmps172
 by_cases h0 : N < 0
 ·have hd0 : decide (N < 0) = true := decide_eq_true h0
  have hd1 : decide ((0 : Int) < N) = false := decide_eq_false (by omega)
  rw [hd0, Bool.or_true] at HSD
  go_wp2_with (go_at_call 103; go_must (refine HI.out.mono ?_; rintro e w1 ⟨rfl, h1, h2⟩; have HE1 := hI h1; have HK1 := hI (both_of (s := s) h2); have p1 := h1.ptr; have l1 := h1.lie; have fz := frozen_of_row w1 s 1 _ _ h1.1; clear h1 h2))
  have HE2 : Hid (EyeS (w1.setCell ⟨s, 1, none⟩ (.bool true)) s b g (said c)) := by
   rw [HSD.out]
   exact hI HE1.out.lieSet
  have HK2 : Hid (S2.Keeps (Both s b) w (w1.setCell ⟨s, 1, none⟩ (.bool true))) := hI (S2.kSet (p := ⟨s, 1, none⟩) HK1.out (Or.inl (show Both s b s from .inl rfl)) _)
  generalize w1.setCell ⟨s, 1, none⟩ (.bool true) = w2 at *
  have HG2 : Hid (c.1 ≠ [] → g < w2.heap.size) := fun h => Nat.lt_of_lt_of_le (HLT0.out.2.2 h) HK2.out.size
  have HSB : Hid (s < w2.heap.size ∧ b < w2.heap.size ∧ True) := hI ⟨Nat.lt_of_lt_of_le HLT0.out.1 HK2.out.size, Nat.lt_of_lt_of_le HLT0.out.2.1 HK2.out.size, trivial⟩
  go_loopw [6, 20] (fun v i wr => ∃ (F : List Opr) (cc : Cur), F.length ≤ N.toNat ∧ i = .int .i64 F.length ∧ OwnG eO 79 wr w2.heap.size v F ∧ EyeS wr s b g cc ∧ F ++ (many cO (N.toNat - F.length) cc).1 = cO.list.val c ∧ (many cO (N.toNat - F.length) cc).2 = cO.list.fin c ∧ F.length + cc.1.length ≤ c.1.length ∧ w2.heap.size ≤ wr.heap.size ∧ S2.Keeps (Both s b) w wr) (fun _ i _ => N.toNat - (RowKit.intOf i).toNat)
  case atStart => exact ⟨[], said c, Nat.zero_le _, rfl, OwnG.nil _ _, HE2.out, HLV.out.symm, HLF.out.symm, by rw [List.length_nil, Nat.zero_add]; exact said_len c, Nat.le_refl _, HK2.out⟩
  case round =>
   obtain ⟨F, cc, hk, rfl, ho, he, hv, hf, hln, hs, hkp⟩ := hrel
   have HO := hI ho
   have HE := hI he
   have HV := hI hv
   have HF := hI hf
   have HLN := hI hln
   have HS := hI hs
   have HKP := hI hkp
   have pr := he.ptr
   obtain ⟨av, cv, rfl⟩ := ho.form
   clear ho he hv hf hln hs hkp
   by_cases hlt : F.length < N.toNat
   ·exact absurd hlt (by omega)
   ·have hge : ¬ ((F.length : Nat) : Int) < N := by omega
    have hdk : decide (((F.length : Nat) : Int) < N) = false := decide_eq_false hge
    have h0m : N.toNat - F.length = 0 := by omega
    go_wp2
    go_ret
    have hv : cO.list.val c = F := by have h := HV.out; rw [h0m] at h; simpa [many] using h.symm
    have hf : cO.list.fin c = cc := by have h := HF.out; rw [h0m] at h; exact h.symm
    exact ⟨_, rfl, by rw [hv]; exact HO.out.mono HK2.out.size, by rw [hf]; exact HE.out, HKP.out⟩
 ·have hd0 : decide (N < 0) = false := decide_eq_false h0
  rw [hd0, Bool.or_false] at HSD
  go_wp2_with (go_at_call 103; go_must (refine HI.out.mono ?_; rintro e w1 ⟨rfl, h1, h2⟩; have HE1 := hI h1; have HK1 := hI (both_of (s := s) h2); have p1 := h1.ptr; have l1 := h1.lie; have fz := frozen_of_row w1 s 1 _ _ h1.1; clear h1 h2))
  have HE2 : Hid (EyeS w1 s b g (said c)) := by
   rw [HSD.out]
   exact hI HE1.out
  have HK2 := HK1
  have HG2 : Hid (c.1 ≠ [] → g < w1.heap.size) := fun h => Nat.lt_of_lt_of_le (HLT0.out.2.2 h) HK2.out.size
  have HSB : Hid (s < w1.heap.size ∧ b < w1.heap.size ∧ True) := hI ⟨Nat.lt_of_lt_of_le HLT0.out.1 HK2.out.size, Nat.lt_of_lt_of_le HLT0.out.2.1 HK2.out.size, trivial⟩
  generalize w1 = w2 at *
  go_loopw [6, 20] (fun v i wr => ∃ (F : List Opr) (cc : Cur), F.length ≤ N.toNat ∧ i = .int .i64 F.length ∧ OwnG eO 79 wr w2.heap.size v F ∧ EyeS wr s b g cc ∧ F ++ (many cO (N.toNat - F.length) cc).1 = cO.list.val c ∧ (many cO (N.toNat - F.length) cc).2 = cO.list.fin c ∧ F.length + cc.1.length ≤ c.1.length ∧ w2.heap.size ≤ wr.heap.size ∧ S2.Keeps (Both s b) w wr) (fun _ i _ => N.toNat - (RowKit.intOf i).toNat)
  case atStart => exact ⟨[], said c, Nat.zero_le _, rfl, OwnG.nil _ _, HE2.out, HLV.out.symm, HLF.out.symm, by rw [List.length_nil, Nat.zero_add]; exact said_len c, Nat.le_refl _, HK2.out⟩
  case round =>
   obtain ⟨F, cc, hk, rfl, ho, he, hv, hf, hln, hs, hkp⟩ := hrel
   have HO := hI ho
   have HE := hI he
   have HV := hI hv
   have HF := hI hf
   have HLN := hI hln
   have HS := hI hs
   have HKP := hI hkp
   have pr := he.ptr
   obtain ⟨av, cv, rfl⟩ := ho.form
   clear ho he hv hf hln hs hkp
   by_cases hlt : F.length < N.toNat
   ·have hk1 : ((F.length : Nat) : Int) < N := by omega
    have hk0 : (0 : Int) ≤ ((F.length : Nat) : Int) := by omega
    have hdk : decide (((F.length : Nat) : Int) < N) = true := decide_eq_true hk1
    obtain ⟨m, hm⟩ : ∃ m, N.toNat - F.length = m + 1 := ⟨N.toNat - F.length - 1, by omega⟩
    have HM : Hid (many cO (N.toNat - F.length) cc = if (cO.fin cc).1.length = cc.1.length then ([], cO.fin cc) else (cO.val cc :: (many cO m (cO.fin cc)).1, (many cO m (cO.fin cc)).2)) := by
     show _ = _
     rw [hm]
     rfl
    have HMM := hI hm
    have HFL := hI (cO_ok.len cc)
    have HLT : Hid (cc.1.length ≤ 1000000 ∧ F.length ≤ 1000000) := by
     have := HLN.out
     have := HLC.out
     exact ⟨by omega, by omega⟩
    have hF6 : F.length ≤ 1000000 := HLT.out.2
    have HSP : Hid (Calls Tryz.prog 173 #[.pointer (some ⟨s, 0, none⟩)] wr fun e w' => e = .returned (opV (cO.val cc)) ∧ EyeS w' s b g (cO.fin cc) ∧ S2.Keeps (S2.Only b) wr w') := hI (sop_any HE.out)
    have HGG : Hid (cc.1 ≠ [] → g < w2.heap.size) := fun h => HG2.out (fun e => h (List.eq_nil_of_length_eq_zero (by have h1 := HLN.out; have h2 : c.1.length = 0 := (by rw [e]; rfl); omega)))
    clear hm
    by_cases hq : (cO.fin cc).1.length = cc.1.length
    ·rw [if_pos hq] at HM
     have hqd : ((((cO.fin cc).1.length : Nat) : Int) == ((cc.1.length : Nat) : Int)) = true := by simp [hq]
     clear hq
     generalize cO.val cc = x at *
     generalize hcf : cO.fin cc = cf at *
     clear hcf
     go_wp2_with (first
      | (have htok := HE5; clear htok; go_at_call 102; go_must (refine (S2.left_any _ b g cf.1 cf.2.1 (HE5.out.before (S2.kAlloc (S2.Keeps.refl _ _) _)).2.1).mono ?_; rintro e w6 ⟨rfl, rfl⟩))
      | (go_at_call 173; go_must (refine HSP.out.mono ?_; rintro e w5 ⟨rfl, h1, h2⟩; have HE5 := hI h1; have HK5 := hI h2; have HO5 := hI (ownG_keep HO.out HSB.out.2.1 h2); have p5 := S2.alloc_cell h1.ptr (.cells #[.int .i64 x.1, .string x.2.1, .string x.2.2.1, .int .u64 (x.2.2.2 : Int)] 79); clear h1 h2; unfold opV))
      | (go_at_call 102; go_must (refine (S2.left_any wr b g cc.1 cc.2.1 HE.out.2.1).mono ?_; rintro e w4 ⟨rfl, rfl⟩)))
     go_ret
     have hv : cO.list.val c = F := by have h := HV.out; rw [HM.out] at h; simpa using h.symm
     have hf : cO.list.fin c = cf := by have h := HF.out; rw [HM.out] at h; exact h.symm
     exact ⟨_, rfl, by rw [hv]; exact (HO5.out.later (blAlloc (Below.refl _ _) _)).mono HK2.out.size, by rw [hf]; exact HE5.out.before (S2.kAlloc (S2.Keeps.refl _ _) _), S2.kAlloc (HKP.out.then (both_of HK5.out)) _⟩
    ·rw [if_neg hq] at HM
     have HQ := hI hq
     have hqd : ((((cO.fin cc).1.length : Nat) : Int) == ((cc.1.length : Nat) : Int)) = false := by simpa using (fun e => hq (by omega))
     clear hq
     generalize cO.val cc = x at *
     generalize hcf : cO.fin cc = cf at *
     clear hcf
     go_wp2_with (first
      | (have htok := HE5; clear htok; go_at_call 102; go_must (refine (S2.left_any _ b g cf.1 cf.2.1 (HE5.out.before (S2.kAlloc (S2.Keeps.refl _ _) _)).2.1).mono ?_; rintro e w6 ⟨rfl, rfl⟩))
      | (go_at_call 173; go_must (refine HSP.out.mono ?_; rintro e w5 ⟨rfl, h1, h2⟩; have HE5 := hI h1; have HK5 := hI h2; have HO5 := hI (ownG_keep HO.out HSB.out.2.1 h2); have p5 := S2.alloc_cell h1.ptr (.cells #[.int .i64 x.1, .string x.2.1, .string x.2.2.1, .int .u64 (x.2.2.2 : Int)] 79); clear h1 h2; unfold opV))
      | (go_at_call 102; go_must (refine (S2.left_any wr b g cc.1 cc.2.1 HE.out.2.1).mono ?_; rintro e w4 ⟨rfl, rfl⟩))
      | (at_builtin; go_must (refine append_G 24 _ 48 info_op Tryz.underlying24 rfl (by decide) rfl _ _ rfl w2.heap.size _ F rfl (HO5.out.later (blAlloc (blAlloc (Below.refl _ _) _) _)) _ [x] rfl (one_G eO _ _ x _ _ rfl (World.size_alloc _ _)) (by have := HLT.out; simp only [List.length_cons, List.length_nil]; omega) (Nat.le_trans HS.out (Nat.le_trans HK5.out.size (blAlloc (blAlloc (Below.refl w5.heap.size w5) _) _).size)) ?_; intro v7 w7 h1 h2; have HO7 := hI h1; have HG7 := hI h2; clear h1 h2)))
     have HOB := hI (HO5.out.later (blAlloc (blAlloc (Below.refl _ _) (.cells #[.int .i64 x.1, .string x.2.1, .string x.2.2.1, .int .u64 (x.2.2.2 : Int)] 79)) (.cells #[.int .i64 x.1, .string x.2.1, .string x.2.2.1, .int .u64 (x.2.2.2 : Int)] 79)))
     have HE7 : Hid (EyeS w7 s b g cf) := hI ((HE5.out.before (S2.kAlloc (S2.kAlloc (S2.Keeps.refl _ _) _) _)).grown HG7.out (fun k hk => by
      have h1 := (HOB.out.block k hk).1
      have h2 := HSB.out
      refine .inr ⟨by omega, by omega, fun hne => ?_⟩
      have h3 := HGG.out (fun e => hne (List.eq_nil_of_length_eq_zero (by have h4 := HFL.out; rw [e] at h4; simpa using h4)))
      omega))
     have HK7 : Hid (S2.Keeps (Both s b) w w7) := hI (keeps_afterO (S2.kAlloc (S2.kAlloc (HKP.out.then (both_of HK5.out)) _) _) HG7.out (fun k hk => Nat.le_trans HK2.out.size (HOB.out.block k hk).1))
     have HS7 : Hid (w2.heap.size ≤ w7.heap.size) := hI (Nat.le_trans HS.out (Nat.le_trans HK5.out.size (Nat.le_trans (blAlloc (blAlloc (Below.refl w5.heap.size w5) (.cells #[.int .i64 x.1, .string x.2.1, .string x.2.2.1, .int .u64 (x.2.2.2 : Int)] 79)) (.cells #[.int .i64 x.1, .string x.2.1, .string x.2.2.1, .int .u64 (x.2.2.2 : Int)] 79)).size HG7.out.size)))
     have hm2 : N.toNat - (F ++ [x]).length = m := by have := HMM.out; rw [List.length_append, List.length_singleton]; omega
     clear HOB HG7
     go_roundw
     case rel =>
      refine ⟨F ++ [x], cf, by rw [List.length_append, List.length_singleton]; omega, by rw [List.length_append, List.length_singleton]; go_num, HO7.out, HE7.out, ?_, ?_, ?_, HS7.out, HK7.out⟩
      ·rw [hm2, List.append_assoc]
       have h := HV.out
       rw [HM.out] at h
       exact h
      ·rw [hm2]
       have h := HF.out
       rw [HM.out] at h
       exact h
      ·have h1 := HLN.out
       have h2 := HFL.out
       have h3 := HQ.out
       rw [List.length_append, List.length_singleton]
       omega
     case measure => simp [RowKit.intOf]; omega
   ·have hge : ¬ ((F.length : Nat) : Int) < N := by omega
    have hdk : decide (((F.length : Nat) : Int) < N) = false := decide_eq_false hge
    have h0m : N.toNat - F.length = 0 := by omega
    go_wp2
    go_ret
    have hv : cO.list.val c = F := by have h := HV.out; rw [h0m] at h; simpa [many] using h.symm
    have hf : cO.list.fin c = cc := by have h := HF.out; rw [h0m] at h; exact h.symm
    exact ⟨_, rfl, by rw [hv]; exact HO.out.mono HK2.out.size, by rw [hf]; exact HE.out, HKP.out⟩
theorem sops_any {w : World} {s b g : Nat} {c : Cur} (he : EyeS w s b g c) (hlen : c.1.length ≤ 1000000) :
  Calls Tryz.prog 124 #[.pointer (some ⟨s, 0, none⟩)] w (SeeL eO 79 cO.list w s b g c) := by
 have HI := hI (slistO_any he hlen)
 clear he hlen
 go_enter Tryz.func124, Tryz.ntmps124
 go_wp2_with (go_at_call 172; go_must (refine HI.out.mono ?_; rintro e w1 ⟨v, rfl, h1, h2, h3⟩; have H1 := hI h1; have H2 := hI h2; have H3 := hI h3; clear h1 h2 h3))
 go_ret
 exact ⟨v, rfl, H1.out, H2.out, H3.out⟩

theorem nat8 {a : Int} (h : (Lit.int .u64 a).wf = true) : ∃ n : Nat, n < 18446744073709551616 ∧ a = (n : Int) := by
 have h1 : (0 : Int) ≤ a ∧ a ≤ 18446744073709551615 := by simpa [Lit.wf, IntKind.min, IntKind.max, IntKind.signed, IntKind.bits] using h
 exact ⟨a.toNat, by omega, by omega⟩
theorem slG_of {α : Type} {E : Enc α} {w : World} {a : Addr} {len cap : Nat} {P : Nat → α → Prop} (h : ∀ i, i < len → ∃ q : α, P i q ∧ ∀ (j : Nat) u, (E.enc q)[j]? = some u → w.cell? ((a.add (i * E.K)).add j) = some u) :
  ∃ l : List α, l.length = len ∧ SlG E w (.slice (some a) len cap) l ∧ ∀ q ∈ l, ∃ i, i < len ∧ P i q := by
 let f : Fin len → α := fun i => Classical.choose (h i.1 i.2)
 have hf : ∀ i : Fin len, P i.1 (f i) ∧ ∀ (j : Nat) u, (E.enc (f i))[j]? = some u → w.cell? ((a.add (i.1 * E.K)).add j) = some u := fun i => Classical.choose_spec (h i.1 i.2)
 have hl : (List.ofFn f).length = len := List.length_ofFn
 refine ⟨List.ofFn f, hl, ⟨some a, cap, by rw [hl], fun h => (by cases h), fun hne => ?_⟩, fun q hq => ?_⟩
 ·have h0 : 0 < len := by
   rcases Nat.eq_zero_or_pos len with h | h
   ·exact absurd (List.eq_nil_of_length_eq_zero (hl.trans h)) hne
   ·exact h
  have hlt : 0 < (E.enc (f ⟨0, h0⟩)).length := by rw [E.len]; exact E.pos
  have h00 := (hf ⟨0, h0⟩).2 0 _ (List.getElem?_eq_getElem hlt)
  have e : (a.add (0 * E.K)).add 0 = a := by rw [Nat.zero_mul]; unfold Addr.add; split <;> simp_all
  rw [e] at h00
  obtain ⟨b, o, rfl⟩ := addr_plain h00
  refine ⟨b, o, rfl, World.block_lt_of_cell? _ _ h00, fun i x hx j u hu => ?_⟩
  obtain ⟨hi, rfl⟩ := List.getElem?_eq_some_iff.1 hx
  rw [hl] at hi
  rw [List.getElem_ofFn] at hu
  have := (hf ⟨i, hi⟩).2 j u hu
  rwa [Go.WideShapes.add_plain, Go.WideShapes.add_plain] at this
 ·obtain ⟨i, hi, rfl⟩ := List.getElem_of_mem hq
  rw [List.getElem_ofFn]
  exact ⟨_, by omega, (hf _).1⟩
theorem cellsPr : Tryz.prog.cellsOf 86 = 2 := by kernel_rfl
theorem cellsOp : Tryz.prog.cellsOf 79 = 4 := by kernel_rfl
theorem cellsNm : Tryz.prog.cellsOf 77 = 1 := by kernel_rfl
theorem cellsIt : Tryz.prog.cellsOf 3 = 1 := by kernel_rfl
section
variable {H : Type} {enc : TypeId × Value → H}
def InW (t : TypeId) (d : DataW H) (k : ByteArray) : Prop := ∃ n ∈ d.weights Tryz.prog t, k.size ≤ n
end

theorem wrap_in64 {x : Int} (h1 : 0 ≤ x) (h2 : x < 9223372036854775808) : IntKind.i64.wrap x = x := by
 have e : x % 18446744073709551616 = x := Int.emod_eq_of_lt h1 (by omega)
 unfold IntKind.wrap
 simp only [IntKind.bits, IntKind.signed]
 first
  | (simp [e]; omega)
  | (simp; omega)
  | (split <;> simp_all <;> omega)
end SP
end Go.Proofs.YtgipkikedacmdaaGreat
