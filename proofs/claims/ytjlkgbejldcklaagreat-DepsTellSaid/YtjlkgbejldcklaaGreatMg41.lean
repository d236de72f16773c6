/- The program's Parse of Deps. Conditions: at most a hundred thousand bytes. -/
import Derived.Deep.RegionHeld3
import Derived.WalkSpells
import Derived.Test.YtjlkgbejldcklaaGreatMg38
import Derived.Test.YtjlkgbejldcklaaGreatMg36
import Derived.Test.YtjlkgbejldcklaaGreatMg14
import Derived.Test.YtjlkgbejldcklaaGreatMg35
import Derived.Test.YtjlkgbejldcklaaGreatMg19
import Derived.Test.YtjlkgbejldcklaaGreatMg23
/- The program's Put of Deps, and the sheet's pen for dependencies. Conditions: lists of at most a million, with a million stamps in all. -/
set_option linter.unusedVariables false
set_option linter.unusedSimpArgs false
namespace Go.Proofs.YtjlkgbejldcklaaGreat
open S1
namespace SD
open Go.RowKit

theorem pen_below {B b : Nat} {r r' : Option Nat} {x y : World} (h : S2.PenStep b r r' x y) (hB : B ≤ x.heap.size) (hb : B ≤ b) (hr : ∀ k, r = some k → B ≤ k) : Below B x y ∧ ∀ k, r' = some k → B ≤ k := by
  refine ⟨h.keeps.below hB fun k hk hs => ?_, fun k hk => ?_⟩
  · rcases hs with rfl | hs
    · omega
    · have := hr k hs
      omega
  · rcases h.row with e | e
    · exact hr k (e ▸ hk)
    · exact Nat.le_trans hB (e k hk)
theorem sl_pen {w0 w : World} {a : Option Addr} {xs : List (Int × Int)} (h : SL w0 a xs) (hb : Below w0.heap.size w0 w) {pb : Nat} {r : Option Nat} (hp : w0.heap.size ≤ pb) (hr : ∀ k, r = some k → w0.heap.size ≤ k) (q : Nat) (hq : q < w.heap.size) (hq2 : ¬ S2.PenS pb r q) :
    ∃ g, S2.SL w g a xs ∧ ¬ S2.PenS pb r g ∧ g < w.heap.size := by
  by_cases hne : xs = []
  · exact ⟨q, fun h => absurd hne h, hq2, hq⟩
  · obtain ⟨b, o, ha, hlt, hl⟩ := h hne
    refine ⟨b, fun _ => ⟨o, ha, fun j x y hx => ⟨cell_in hb hlt (hl j x y hx).1, cell_in hb hlt (hl j x y hx).2⟩⟩, fun hs => ?_, Nat.lt_of_lt_of_le hlt hb.size⟩
    rcases hs with e | e
    · omega
    · have := hr b e
      omega
theorem i8_one (x : Int) : [x].flatMap S2.i8 = S2.i8 x := by simp
theorem layD_len (d : Dd) : (layD d).length = 8 + (layF d).length := by
  unfold layD
  rw [List.length_append, S2.i8_length]

set_option maxRecDepth 100000 in
set_option maxHeartbeats 4000000 in
theorem pdeps_any (b : Nat) (r : Option Nat) (B : List UInt8) (a : Option Addr) (c : Nat) (l : List Dp) (w0 w : World) (hp : S2.PenAt w b r B) (hlen : B.length ≤ 1000000000) (hf : FewD l) (hn : idsN (toD l) ≤ 1000000) (hl : Dl w0 a l) (hbel : Below w0.heap.size w0 w) (hb0 : w0.heap.size ≤ b) (hr0 : ∀ k, r = some k → w0.heap.size ≤ k) :
    Calls Tryz.prog 105 #[.pointer (some ⟨b, 0, none⟩), .slice a l.length c] w (S2.Laid w b r (B ++ layD (toD l))) := by
  have HL := Lib.hid hl
  have HF := Lib.hid hf
  have HNN := Lib.hid hn
  have HLB := Lib.hid hlen
  have HP0 := Lib.hid hp
  have HB0 := Lib.hid hbel
  have HBB := Lib.hid hb0
  have HR0 := Lib.hid hr0
  have hlen6 := hf.1
  clear hl hf hp hlen hbel hb0 hr0
  go_enter Tryz.func105, Tryz.ntmps105
  go_wp2_with (go_at_call 165; go_must (refine (S2.int_any _ b r B w.heap.size _ 1 [(l.length : Int)] (HP0.out.before (S2.kAlloc (S2.Keeps.refl _ _) _)) (S2.one_new w _ _ rfl _ rfl) (HP0.out.apart (Nat.le_refl _)) (by have := HLB.out; simp only [List.length_cons, List.length_nil]; omega)).mono ?_; rw [i8_one]; rintro e w1 ⟨rfl, r1, hp1, hs1⟩; have HP1 := Lib.hid hp1; have HS1 := Lib.hid (hs1.before (w := w) (S2.kAlloc (S2.Keeps.refl _ _) _)); clear hp1 hs1))
  go_loopw [15] (fun i wr => ∃ (k : Nat) (r' : Option Nat), k ≤ l.length ∧ i = .int .i64 k ∧ S2.PenAt wr b r' (B ++ S2.i8 l.length ++ layF ((toD l).take k)) ∧ S2.PenStep b r r' w wr) (fun i _ => l.length - (intOf i).toNat)
  case atStart => exact ⟨0, r1, Nat.zero_le _, rfl, by simpa [layF] using HP1.out, HS1.out⟩
  case round =>
    clear HP1 HS1 HP0
    obtain ⟨k, r', hk, rfl, hp, hst⟩ := hrel
    have HP := Lib.hid hp
    have HST := Lib.hid hst
    have hpb := pen_below (B := w0.heap.size) hst HB0.out.size HBB.out HR0.out
    have HB : Hid (Below w0.heap.size w0 wr) := HB0.out.trans hpb.1
    have HR := Lib.hid hpb.2
    clear hp hst hpb
    by_cases hlt : k < l.length
    · obtain ⟨s, hs⟩ := at_ltD hlt
      obtain ⟨b2, o, rfl, hbg, hx, hy, hi⟩ := (HL.out.later HB.out).at hs
      have hk1 : (k : Int) < (l.length : Int) := by omega
      have hk0 : (0 : Int) ≤ (k : Int) := by omega
      have hdk : decide ((k : Int) < (l.length : Int)) = true := decide_eq_true hk1
      have HSI := Lib.hid (HL.out.1 s (List.mem_of_getElem? hs)).1
      have HFT := Lib.hid (layF_take hs)
      have HLN : Hid ((B ++ S2.i8 l.length ++ layF ((toD l).take k)).length + 16 * s.ids.length + 100 ≤ 1099511627776) := by
        show _ ≤ _
        have h1 := layF_len ((toD l).take k)
        have h2 := idsN_take_le (toD l) k
        have h3 := HNN.out
        have h4 := idsN_le (List.mem_of_getElem? hs)
        have h5 := HLB.out
        rw [List.length_append, List.length_append, S2.i8_length, h1, List.length_take, toD_length]
        omega
      unfold ilD at hy
      clear hs hi
      generalize hG : B ++ S2.i8 l.length ++ layF ((toD l).take k) = G at *
      have HGE := Lib.hid hG
      clear hG
      have HL1 : Hid (G.length + 8 * [s.sh].length ≤ 1099511627776) := by have := HLN.out; show _ ≤ _; simp only [List.length_cons, List.length_nil]; omega
      have HL2 : Hid ((G ++ S2.i8 s.sh).length + 16 * s.ids.length + 16 ≤ 1099511627776) := by have := HLN.out; show _ ≤ _; rw [List.length_append, S2.i8_length]; omega
      clear HLN
      have hob : (wr.alloc (.cells #[.int .i64 s.sh, .slice s.ia s.ids.length s.ic] 26)).heap[wr.heap.size]? = some (.cells #[.int .i64 s.sh, .slice s.ia s.ids.length s.ic] 26 (0, 0)) := by
        show (wr.heap.push _)[wr.heap.size]? = _
        rw [Array.getElem?_push_size]
      have HC0 : Hid ((wr.alloc (.cells #[.int .i64 s.sh, .slice s.ia s.ids.length s.ic] 26)).cell? ⟨wr.heap.size, 0, none⟩ = some (.int .i64 s.sh)) := by
        show _ = _
        simp only [World.cell?, hob]
        rfl
      have HC1 : Hid ((wr.alloc (.cells #[.int .i64 s.sh, .slice s.ia s.ids.length s.ic] 26)).cell? ⟨wr.heap.size, 1, none⟩ = some (.slice s.ia s.ids.length s.ic)) := by
        show _ = _
        simp only [World.cell?, hob]
        rfl
      have HPA : Hid (S2.PenAt (wr.alloc (.cells #[.int .i64 s.sh, .slice s.ia s.ids.length s.ic] 26)) b r' G) := Lib.hid (HP.out.before (S2.kAlloc (S2.Keeps.refl (fun _ => False) wr) _))
      have HPX : Hid (¬ S2.PenS b r' wr.heap.size) := HP.out.apart (Nat.le_refl _)
      have HSA : Hid (S2.PenStep b r r' w (wr.alloc (.cells #[.int .i64 s.sh, .slice s.ia s.ids.length s.ic] 26))) := Lib.hid ⟨S2.kAlloc HST.out.keeps _, HST.out.row⟩
      clear hob
      go_wp2_with fail
      go_region_held3 (fun Y => Y.cell? ⟨wr.heap.size, 0, none⟩ = some (.int .i64 s.sh))
        (first | exact b0 | exact HC0.out | exact S2.alloc_cell HC0.out _)
        (first | (go_at_call 165; go_must (refine (S2.int_any _ b r' G (wr.heap.size + 1) _ 1 [s.sh] (HPA.out.before (S2.kDrew (S2.kAlloc (S2.Keeps.refl _ _) _))) (S2.one_new (wr.alloc (.cells #[.int .i64 s.sh, .slice s.ia s.ids.length s.ic] 26)) _ _ (by simp) _ rfl) (HPA.out.apart (by simp)) HL1.out).mono ?_; rw [i8_one]; rintro e w5 ⟨rfl, r5, hp5, hs5⟩; have HP5 := Lib.hid hp5; have hs6 := hs5.before (w := (wr.alloc (.cells #[.int .i64 s.sh, .slice s.ia s.ids.length s.ic] 26))) (S2.kDrew (S2.kAlloc (S2.Keeps.refl _ _) _)); have HS5 := Lib.hid (HSA.out.trans hs6); have b0 := hs6.keeps.cell HPX.out HC0.out; have b1 := hs6.keeps.cell HPX.out HC1.out; have HPY := Lib.hid (hs6.free HPX.out (by simp)); have hsz5 : wr.heap.size < w5.heap.size := Nat.lt_of_lt_of_le (by simp) hs6.keeps.size; clear hp5 hs5 hs6)))
      have hpb5 := pen_below (B := w0.heap.size) HS5.out HB0.out.size HBB.out HR0.out
      have HB5 : Hid (Below w0.heap.size w0 w5) := Lib.hid (HB0.out.trans hpb5.1)
      have HR5 := Lib.hid hpb5.2
      clear hpb5
      go_wp2_with fail
      go_region_held3 (fun Y => Y.cell? ⟨wr.heap.size, 1, none⟩ = some (.slice s.ia s.ids.length s.ic))
        (first | exact e1 | exact b1)
        (first | (go_at_call 195; go_must (obtain ⟨q, hq1, hq2, hq3⟩ := sl_pen (w := w5.drew) HSI.out HB5.out.drew HBB.out HR5.out wr.heap.size hsz5 HPY.out; refine (S2.stamps_any _ b r5 _ q _ _ s.ids (HP5.out.before (S2.kDrew (S2.Keeps.refl _ _))) hq1 hq2 hq3 HL2.out).mono ?_; rintro e w7 ⟨rfl, r7, hp7, hs7⟩; have HP7 := Lib.hid hp7; have hs8 := hs7.before (w := w5) (S2.kDrew (S2.Keeps.refl _ _)); have HS7 := Lib.hid (HS5.out.trans hs8); have e1 := hs8.keeps.cell HPY.out b1; clear hp7 hs7 hs8)))
      go_wp2
      go_roundw
      case rel =>
        refine ⟨k + 1, r7, hlt, by go_num, ?_, HS7.out⟩
        have h := HP7.out
        rw [HFT.out, ← List.append_assoc, HGE.out, ← List.append_assoc]
        exact h
      case measure => simp [intOf]; omega
    · have hge : ¬ (k : Int) < (l.length : Int) := by omega
      have hdk : decide ((k : Int) < (l.length : Int)) = false := decide_eq_false hge
      have HT : Hid (B ++ S2.i8 l.length ++ layF ((toD l).take k) = B ++ layD (toD l)) := by
        show _ = _
        rw [List.take_of_length_le (by rw [toD_length]; omega), List.append_assoc]
        unfold layD
        rw [toD_length]
      rw [HT.out] at HP
      go_wp2
      go_end0
      exact ⟨rfl, r', HP.out, HST.out⟩
set_option maxRecDepth 100000 in
set_option maxHeartbeats 2000000 in
theorem put_any (a : Option Addr) (c : Nat) (l : List Dp) (w : World) (hf : FewD l) (hn : idsN (toD l) ≤ 1000000) (hl : Dl w a l) :
    Calls Tryz.prog 21 #[.slice a l.length c] w (S2.Made w (layD (toD l))) := by
  have HL := Lib.hid hl
  have HF := Lib.hid hf
  have HNN := Lib.hid hn
  have HP0 : Hid (S2.PenAt (w.alloc (.cells #[.slice none 0 0] 151)) w.heap.size none []) := S2.pen_newT w _
  have HB0 : Hid (Below w.heap.size w (w.alloc (.cells #[.slice none 0 0] 151))) := blAlloc (Below.refl _ _) _
  have HLD : Hid ((layD (toD l)).length ≤ 1099511627776) := by
    show _ ≤ _
    rw [layD_len, layF_len, toD_length]
    have := hf.1
    omega
  clear hl hf hn
  go_enter Tryz.func21, Tryz.ntmps21
  go_wp2_with (first
    | (have htok := HP1; clear htok; go_at_call 106; go_must (refine (S2.bytes_any _ w.heap.size r1 _ HP1.out HLD.out).mono ?_; rintro e w6 ⟨v, g, rfl, h1, h2, h3⟩; have H1 := Lib.hid h1; have H2 := Lib.hid h2; have H3 := Lib.hid h3; clear h1 h2 h3))
    | (go_at_call 105; go_must (refine (pdeps_any w.heap.size none [] a c l w _ HP0.out (by decide) HF.out HNN.out HL.out HB0.out (Nat.le_refl _) (fun k hk => by cases hk)).mono ?_; rintro e w1 ⟨rfl, r1, hp1, hs1⟩; rw [List.nil_append] at hp1; have HP1 := Lib.hid hp1; have hpb := pen_below (B := w.heap.size) hs1 HB0.out.size (Nat.le_refl _) (fun k hk => by cases hk); have HB1 : Hid (Below w.heap.size w w1) := HB0.out.trans hpb.1; clear hp1 hs1 hpb)))
  go_ret
  exact ⟨v, g, rfl, H1.out, fun k hk => Nat.le_trans HB1.out.size (H2.out k hk), blThen HB1.out H3.out⟩

end SD
end Go.Proofs.YtjlkgbejldcklaaGreat

/- The program's Parse of Deps. Conditions: at most a hundred thousand bytes. -/
set_option linter.unusedVariables false
set_option linter.unusedSimpArgs false
namespace Go.Proofs.YtjlkgbejldcklaaGreat
open S1 SP
namespace SD
open Go.RowKit

/-- What Stamps of an eye comes to; the slice's room too. -/
def SeenC (w : World) (b g : Nat) (bl : Bool) (s : List (Int × Int)) (l' : List UInt8) (e : Ending) (w' : World) : Prop :=
  ∃ a c, e = .returned (.slice a s.length c) ∧ SL w' a s ∧ (a = none → c = 0) ∧ s.length ≤ c ∧ (∀ b' o, a = some ⟨b', o, none⟩ → w.heap.size ≤ b') ∧ (∀ p, a = some p → w.heap.size ≤ p.block) ∧ S2.EyeAt w' b g l' bl ∧ S2.Keeps (S2.Only b) w w'
theorem ownL_at {w : World} {base : Nat} {v : Value} {l : List (Int × Int)} (h : OwnL w base v l) : ∃ a cap, v = .slice a l.length cap ∧ SL w a l ∧ (a = none → cap = 0) ∧ (∀ b o, a = some ⟨b, o, none⟩ → base ≤ b) ∧ l.length ≤ cap ∧ (∀ p, a = some p → base ≤ p.block) := by
  obtain ⟨a, cap, h1, h2, h3, h4, h5⟩ := h.sl
  refine ⟨a, cap, h1, h2, h3, h4, h5, fun p hp => ?_⟩
  obtain ⟨_, ⟨e, _⟩ | ⟨g, c2, cur, e, hg, _⟩⟩ := h
  · rw [e] at h1
    obtain ⟨rfl, _⟩ := Value.slice.inj h1
    cases hp
  · rw [e] at h1
    obtain ⟨rfl, _⟩ := Value.slice.inj h1
    obtain rfl := Option.some.inj hp
    exact hg
set_option maxHeartbeats 1000000 in
theorem eyeStampsC_see (w : World) (b g : Nat) (l L : List UInt8) (V : List (Int × Int)) (he : S2.EyeAt w b g l false)
    (hin : ∀ W, S2.Keeps (fun _ => False) w W → Calls Tryz.prog 289 #[.pointer (some ⟨b, 0, none⟩)] W fun e w' => ∃ v, e = .returned v ∧ (S2.OwnL w' W.heap.size v V ∧ S2.EyeAt w' b g L false) ∧ S2.Keeps (S2.Only b) W w') :
    Calls Tryz.prog 256 #[.pointer (some ⟨b, 0, none⟩)] w (SeenC w b g false V L) := by
  have HE := Lib.hid he
  have KEY := Lib.hid hin
  clear he hin
  go_enter Tryz.func256, Tryz.ntmps256
  go_wp2_with (go_at_call 288; go_must (refine (S2.look59_yes _ b g l (fun W v w' => S2.OwnL w' W.heap.size v V ∧ S2.EyeAt w' b g L false) HE.out KEY.out).mono ?_; rintro e w1 ⟨W, v, rfl, hW, ⟨ho, he1⟩, hk1⟩; obtain ⟨a, c, rfl, hs, hn, hx, hc, hx2⟩ := ownL_at (show OwnL _ _ _ _ from ho); have HS := Lib.hid hs; have HN := Lib.hid hn; have HC := Lib.hid hc; have HX := Lib.hid (fun b' o h => Nat.le_trans hW.size (hx b' o h)); have HX2 := Lib.hid (fun p h => Nat.le_trans hW.size (hx2 p h)); have HE1 := Lib.hid he1; have HK1 := Lib.hid hk1; clear ho he1 hk1 hs hn hx hc hx2 hW))
  go_ret
  exact ⟨a, c, rfl, HS.out, HN.out, HC.out, HX.out, HX2.out, HE1.out, HK1.out⟩
theorem seenC_none {w : World} {b g : Nat} {l : List UInt8} {e : Ending} {w' : World} (h : S2.SeenSl w b g true [] l e w') (he : e = .returned (.slice none 0 0)) : SeenC w b g true [] l e w' := by
  obtain ⟨a, c, q, h1, _, _, h4, h5⟩ := h
  exact ⟨none, 0, he, SL.nil_ok _ _, fun _ => rfl, Nat.le_refl _, fun _ _ h => (by cases h), fun _ h => (by cases h), h4, h5⟩
set_option maxHeartbeats 1000000 in
theorem eyeStampsC_no (w : World) (b g : Nat) (l : List UInt8) (he : S2.EyeAt w b g l false)
    (hin : ∀ W, S2.Keeps (fun _ => False) w W → Calls Tryz.prog 289 #[.pointer (some ⟨b, 0, none⟩)] W (S2.Blinded W b g false)) :
    Calls Tryz.prog 256 #[.pointer (some ⟨b, 0, none⟩)] w (SeenC w b g true [] l) := by
  have HE := Lib.hid he
  have KEY := Lib.hid hin
  clear he hin
  go_enter Tryz.func256, Tryz.ntmps256
  go_wp2_with (go_at_call 288; refine (S2.look59_no _ b g l HE.out KEY.out).mono ?_; rintro e w1 ⟨rfl, he1, hk1⟩; have HE1 := Lib.hid he1; have HK1 := Lib.hid hk1; clear he1 hk1)
  go_ret
  exact ⟨none, 0, rfl, SL.nil_ok _ _, fun _ => rfl, Nat.le_refl _, fun _ _ h => (by cases h), fun _ h => (by cases h), HE1.out, HK1.out⟩
set_option maxHeartbeats 1000000 in
theorem eyeStampsC_blind (w : World) (b g : Nat) (l : List UInt8) (he : S2.EyeAt w b g l true) : Calls Tryz.prog 256 #[.pointer (some ⟨b, 0, none⟩)] w (SeenC w b g true [] l) := by
  have HE := Lib.hid he
  clear he
  go_enter Tryz.func256, Tryz.ntmps256
  go_wp2_with (go_at_call 288; refine (S2.look59_blind _ b g l HE.out _).mono ?_; rintro e w1 ⟨rfl, hk1⟩; have HE1 := Lib.hid (HE.out.before hk1); have HK1 := Lib.hid hk1; clear hk1)
  go_ret
  exact ⟨none, 0, rfl, SL.nil_ok _ _, fun _ => rfl, Nat.le_refl _, fun _ _ h => (by cases h), fun _ h => (by cases h), HE1.out, HK1.out.mono fun _ _ h => h.elim⟩
theorem behind_no (k : Nat) (l : List UInt8) : S2.behind false k l = l := by simp [S2.behind]
theorem eyeStampsC_any (w : World) (b g : Nat) (l : List UInt8) (bl : Bool) (he : S2.EyeAt w b g l bl) (hlen : l.length ≤ 1000000) :
    Calls Tryz.prog 256 #[.pointer (some ⟨b, 0, none⟩)] w (SeenC w b g (!S2.okL l bl) (S2.valL l bl) (S2.behind (S2.okL l bl) (8 + 16 * (S2.rd l).toNat) l)) := by
  cases bl
  · by_cases h : S2.hasL l
    · have hok : S2.okL l false = true := by simp [S2.okL, h]
      rw [hok, valL_yes hok, behind_ok rfl]
      refine eyeStampsC_see w b g l _ _ he fun W hW => ?_
      refine (S2.stampsIn_any W b g l false (he.before hW) hlen).mono fun e w' hh => ?_
      rcases hh with ⟨_, v, h1, h2, h3, h4⟩ | ⟨hn, _⟩
      · exact ⟨v, h1, ⟨h2, h3⟩, h4⟩
      · exact absurd h hn
    · have hok : S2.okL l false = false := by simp [S2.okL, h]
      have hv : S2.valL l false = [] := by simp [S2.valL, hok]
      rw [hok, hv, behind_no]
      refine eyeStampsC_no w b g l he fun W hW => ?_
      refine (S2.stampsIn_any W b g l false (he.before hW) hlen).mono fun e w' hh => ?_
      rcases hh with ⟨hn, _⟩ | ⟨_, hn⟩
      · exact absurd hn h
      · exact hn
  · have hok : S2.okL l true = false := by simp [S2.okL]
    have hv : S2.valL l true = [] := by simp [S2.valL, hok]
    rw [hok, hv, behind_no]
    exact eyeStampsC_blind w b g l he

/-! ### What an eye's reading leaves as it was -/
theorem ownD_keep {w w' : World} {base b : Nat} {v : Value} {F : List Dp} (h : OwnD w base v F) (hb : b < base) (k : S2.Keeps (S2.Only b) w w') : OwnD w' base v F := by
  obtain ⟨h1, h2 | ⟨g, cap, cur, hv, hg, hh, r⟩⟩ := h
  · exact ⟨h1, .inl h2⟩
  · exact ⟨h1, .inr ⟨g, cap, cur, hv, hg, (k.block g (lt_of_block hh) (fun e => by have e2 : g = b := e; omega)).trans hh, r⟩⟩
theorem sl_keep {w w' : World} {b : Nat} {a : Option Addr} {l : List (Int × Int)} (h : SL w a l) (hb : ∀ p, a = some p → p.block ≠ b) (k : S2.Keeps (S2.Only b) w w') : SL w' a l := by
  intro hne
  obtain ⟨g, o, ha, hg, hl⟩ := h hne
  have hgb : ¬ S2.Only b g := fun e => hb _ ha e
  exact ⟨g, o, ha, Nat.lt_of_lt_of_le hg k.size, fun i x y hi => ⟨k.cell hgb (hl i x y hi).1, k.cell hgb (hl i x y hi).2⟩⟩
theorem hasG_keep {w w' : World} {b : Nat} {v : Value} {F : List Dp} (h : HasG w v F) (hb : ∀ s ∈ F, ∀ p, s.ia = some p → p.block ≠ b) (k : S2.Keeps (S2.Only b) w w') : HasG w' v F :=
  fun s hs => ⟨⟨sl_keep (h s hs).1.1 (hb s hs) k, (h s hs).1.2⟩, (h s hs).2⟩
theorem eye_grown {w w' : World} {b g : Nat} {l : List UInt8} {bl : Bool} {r : Option Nat} (h : S2.EyeAt w b g l bl) (hg : w.grownBy w' r) (h1 : r ≠ some b) (h2 : l ≠ [] → r ≠ some g) : S2.EyeAt w' b g l bl :=
  h.keep (S2.Keeps.grown (S := fun x => r = some x) hg fun _ _ e => e) h1 h2
/-- What Parse comes to. -/
def ParseR (w : World) (B : List UInt8) (e : Ending) (w' : World) : Prop := ∃ a c l, e = .returned (.tuple #[.slice a l.length c, .int .i64 (if (parseD B).isSome = true then 0 else 60)]) ∧ toD l = (parseD B).getD [] ∧ Dl w' a l ∧ (a = none → c = 0) ∧ l.length ≤ c ∧ Below w.heap.size w w'
theorem parse_none_ret {w w' : World} {B : List UInt8} (h : parseD B = none) (hb : Below w.heap.size w w') : ParseR w B (.returned (.tuple #[.slice none 0 0, .int .i64 60])) w' :=
  ⟨none, 0, [], by rw [h]; rfl, by rw [h]; rfl, Dl.nil _ _, fun _ => rfl, Nat.le_refl _, hb⟩
theorem nil_of_le {α : Type} {a b : List α} (h : a.length ≤ b.length) (e : b = []) : a = [] := List.eq_nil_of_length_eq_zero (by rw [e] at h; simpa using h)
theorem idsN_le8 {d : Dd} {m : Nat} (h : ∀ x ∈ d, x.2.length ≤ m) : idsN d ≤ d.length * m := by
  induction d with
  | nil => simp [idsN]
  | cons x r ih =>
    rw [idsN_cons, List.length_cons, Nat.add_mul, Nat.one_mul]
    have h1 := h x (by simp)
    have h2 := ih fun y hy => h y (by simp [hy])
    omega


/-! ### One behind the other, by the sheet -/
def cD : SP.Cod (Int × List (Int × Int)) := SP.cI.two SP.cL
theorem cD_ok : cD.Ok := SP.Cod.two_ok SP.cI_ok SP.cL_ok
theorem cD_pos (x : Int × List (Int × Int)) : 1 ≤ (cD.lay x).length := by
  show 1 ≤ (S2.i8 _ ++ _).length
  rw [List.length_append, S2.i8_length]
  omega
theorem cD_lay : cD.lay = lay1 := rfl
theorem cD_layD (d : Dd) : cD.list.lay d = layD d := by
  rw [SP.list_lay, cD_lay]
  rfl
theorem cD_good {d : Dd} (h : checkD d = 0) : cD.list.good d := by
  obtain ⟨h1, _, _⟩ := checkD_ok.1 h
  exact ⟨by omega, fun x hx => ⟨(check_wf h x hx).1, (check_wf h x hx).2⟩⟩
theorem parse_eq (B : List UInt8) : SP.parseK cD.list checkD B = parseD B := by
  have h1 : ∀ d, SP.parseK cD.list checkD B = some d ↔ parseD B = some d := fun d => by
    rw [SP.parseK_iff (SP.Cod.list_ok cD_ok cD_pos) (fun x hx => cD_good hx), cD_layD]
    constructor
    · rintro ⟨h, hc⟩
      have h2 := parse_front hc []
      rw [List.append_nil, if_pos rfl, h] at h2
      exact h2
    · exact parse_some
  cases h : parseD B with
  | some d => exact (h1 d).2 h
  | none =>
    cases h2 : SP.parseK cD.list checkD B with
    | none => rfl
    | some d => rw [(h1 d).1 h2] at h; cases h
theorem cL_cost (c : SP.Cur) : (SP.cL.val c).length + (SP.cL.fin c).1.length ≤ c.1.length := by
  show (S2.valL c.1 c.2.1).length + (S2.behind (S2.okL c.1 c.2.1) (8 + 16 * (S2.rd c.1).toNat) c.1).length ≤ _
  by_cases h : S2.okL c.1 c.2.1 = true
  · rw [valL_yes h, behind_ok h, S2.rdL_length, List.length_drop]
    unfold S2.okL at h
    simp only [Bool.and_eq_true, decide_eq_true_eq] at h
    obtain ⟨_, _, _, h3⟩ := h
    omega
  · have h2 : S2.okL c.1 c.2.1 = false := by simpa using h
    have h3 : S2.valL c.1 c.2.1 = [] := by unfold S2.valL; rw [if_neg h]
    rw [h2, h3, behind_no]
    simp
theorem cD_cost (c : SP.Cur) : (cD.val c).2.length + (cD.fin c).1.length ≤ c.1.length := Nat.le_trans (cL_cost (SP.cI.fin c)) (SP.cI_ok.len c)
theorem many_cost (n : Nat) : ∀ c, idsN (SP.many cD n c).1 + (SP.many cD n c).2.1.length ≤ c.1.length := by
  induction n with
  | zero => intro c; show idsN [] + c.1.length ≤ _; simp [idsN]
  | succ n ih =>
    intro c
    have h1 := cD_cost c
    have h2 := ih (cD.fin c)
    unfold SP.many
    split
    · show idsN [] + (cD.fin c).1.length ≤ _
      have : idsN [] = 0 := rfl
      omega
    · show idsN (cD.val c :: (SP.many cD n (cD.fin c)).1) + (SP.many cD n (cD.fin c)).2.1.length ≤ _
      rw [idsN_cons]
      omega
theorem list_cost (c : SP.Cur) : idsN (cD.list.val c) ≤ c.1.length := by
  rw [SP.list_val]
  have h1 := many_cost (SP.cI.val c).toNat (SP.said c)
  have h2 := SP.said_len c
  omega
theorem few_cost {F : List Dp} {n m : Nat} (h1 : (toD F).length + m ≤ n) (h2 : idsN (toD F) ≤ n) (hn : n ≤ 100000) : FewD F ∧ idsN (toD F) ≤ 1000000 := by
  rw [toD_length] at h1
  refine ⟨⟨by omega, fun s hs => ?_⟩, by omega⟩
  have h3 := idsN_le hs
  omega
/-- What an eye's dependency comes to. -/
def SeeDp (w : World) (s b g : Nat) (c : SP.Cur) (x : Int × List (Int × Int)) (cf : SP.Cur) (e : Ending) (w' : World) : Prop :=
  ∃ xa xc, e = .returned (.agg #[.int .i64 x.1, .slice xa x.2.length xc]) ∧ SL w' xa x.2 ∧ (xa = none → xc = 0) ∧ x.2.length ≤ xc ∧ (∀ b' o, xa = some ⟨b', o, none⟩ → w.heap.size ≤ b') ∧ (∀ p, xa = some p → w.heap.size ≤ p.block) ∧ SP.EyeS w' s b g cf ∧ S2.Keeps (S2.Only b) w w'
theorem sstamps_any {w : World} {s b g : Nat} {c : SP.Cur} (he : SP.EyeS w s b g c) (hlen : c.1.length ≤ 1000000) : Calls Tryz.prog 256 #[.pointer (some ⟨b, 0, none⟩)] w fun e w' =>
    ∃ xa xc, e = .returned (.slice xa (SP.cL.val c).length xc) ∧ SL w' xa (SP.cL.val c) ∧ (xa = none → xc = 0) ∧ (SP.cL.val c).length ≤ xc ∧ (∀ b' o, xa = some ⟨b', o, none⟩ → w.heap.size ≤ b') ∧ (∀ p, xa = some p → w.heap.size ≤ p.block) ∧ SP.EyeS w' s b g (SP.cL.fin c) ∧ S2.Keeps (S2.Only b) w w' :=
  (eyeStampsC_any w b g c.1 c.2.1 he.2.1 hlen).mono fun e w' h => by
    obtain ⟨a, cc, h1, h2, h3, h4, h5, h6, h7, h8⟩ := h
    exact ⟨a, cc, h1, h2, h3, h4, h5, h6, he.next h7 rfl (SP.cL_ok.len c) h8, h8⟩
theorem dep_block {w : World} {x y : Value} {k : Nat} {T : TypeId} (h : w.heap[k]? = some (.cells #[x, y] T (0, 0))) (u0 u1 : Value) :
    ((w.setCell ⟨k, 0, none⟩ u0).setCell ⟨k, 1, none⟩ u1).heap[k]? = some (.cells #[u0, u1] T (0, 0)) ∧ w.grownBy ((w.setCell ⟨k, 0, none⟩ u0).setCell ⟨k, 1, none⟩ u1) (some k) := by
  have hk := lt_of_block h
  refine ⟨?_, rfl, rfl, rfl, by simp [World.setCell], fun j hj hne => ?_⟩
  · simp only [World.setCell]
    rw [Array.getElem?_modify, if_pos rfl, Array.getElem?_modify, if_pos rfl, h]
    rfl
  · have e : j ≠ k := fun e => hne (by rw [e])
    rw [Go.Deep.blk_setCell_other _ _ _ _ e, Go.Deep.blk_setCell_other _ _ _ _ e]
theorem cells_two {Y : World} {k : Nat} {x0 x1 : Value} {T : TypeId} (h : Y.heap[k]? = some (.cells #[x0, x1] T (0, 0))) : Y.cell? ⟨k, 0, none⟩ = some x0 ∧ Y.cell? ⟨k, 1, none⟩ = some x1 ∧ Y.frozen? ⟨k, 0, none⟩ = false ∧ Y.frozen? ⟨k, 1, none⟩ = false := by
  simp only [World.cell?, World.frozen?, h]
  exact ⟨rfl, rfl, rfl, rfl⟩
theorem sl_after {w w' : World} {k : Nat} {a : Option Addr} {l : List (Int × Int)} (h : SL w a l) (hg : w.grownBy w' (some k)) (hb : ∀ p, a = some p → p.block ≠ k) : SL w' a l := by
  intro hne
  obtain ⟨g, o, ha, hgl, hl⟩ := h hne
  have hk := hg.block g hgl (fun e => hb _ ha (Option.some.inj e))
  refine ⟨g, o, ha, Nat.lt_of_lt_of_le hgl hg.size, fun i x y hi => ?_⟩
  have h2 := hl i x y hi
  simp only [World.cell?] at h2 ⊢
  rw [hk]
  exact h2
set_option maxRecDepth 100000 in
set_option maxHeartbeats 4000000 in
theorem sdep_any {w : World} {s b g : Nat} {c : SP.Cur} (he : SP.EyeS w s b g c) (hlen : c.1.length ≤ 1000000) : Calls Tryz.prog 191 #[.pointer (some ⟨s, 0, none⟩)] w (SeeDp w s b g c (cD.val c) (cD.fin c)) := by
  have HLT := Lib.hid he.lt
  have HAB : Hid ((w.alloc (.cells #[.int .i64 0, .slice none 0 0] 26)).heap[w.heap.size]? = some (.cells #[.int .i64 0, .slice none 0 0] 26 (0, 0))) := by
    show (w.heap.push _)[w.heap.size]? = _
    rw [Array.getElem?_push_size]
  have HK0 : Hid (S2.Keeps (S2.Only b) w (w.alloc (.cells #[.int .i64 0, .slice none 0 0] 26))) := S2.kAlloc (S2.Keeps.refl _ _) _
  have HE0 : Hid (SP.EyeS (w.alloc (.cells #[.int .i64 0, .slice none 0 0] 26)) s b g c) := he.before (S2.kAlloc (S2.Keeps.refl _ _) _)
  have HNB : Hid (¬ S2.Only b w.heap.size) := fun e => by have e2 : w.heap.size = b := e; have := he.lt; omega
  have p0 := HE0.out.ptr
  have HLC := Lib.hid hlen
  clear he hlen
  have HV : Hid (cD.val c = (SP.cI.val c, SP.cL.val (SP.cI.fin c))) := rfl
  have HF : Hid (cD.fin c = SP.cL.fin (SP.cI.fin c)) := rfl
  have HLN : Hid ((cD.fin c).1.length ≤ c.1.length) := cD_ok.len c
  have HLI : Hid ((SP.cI.fin c).1.length ≤ c.1.length) := SP.cI_ok.len c
  rw [HV.out]
  unfold SeeDp
  go_enter Tryz.func191, Tryz.ntmps191
  go_wp2_with (first
    | (have htok := HE1; clear htok; go_at_call 256; go_must (refine (sstamps_any HE1.out (by have := HLC.out; have := HLI.out; omega)).mono ?_; rintro e w3 ⟨xa, xc, rfl, h1, h2, h3, h4, h5, h6, h7⟩; have HE2 := Lib.hid h6; have HK2 := Lib.hid (HK1.out.then h7); have HS1 := Lib.hid h1; have HS2 := Lib.hid h2; have HS3 := Lib.hid h3; have HS5 := Lib.hid (fun p hp => Nat.lt_of_lt_of_le HSZ.out (Nat.le_trans HK1.out.size (h5 p hp))); have hb4 := (HK2.out.block w.heap.size HSZ.out HNB.out).trans HAB.out; have HAB5 := Lib.hid hb4; obtain ⟨a0, a1, f0, f1⟩ := cells_two hb4; have hrs := lt_of_block hb4; clear h1 h2 h3 h4 h5 h6 h7 hb4))
    | (go_at_call 231; go_must (refine (SP.sint_any HE0.out).mono ?_; rintro e w2 ⟨rfl, h1, h2⟩; have HE1 := Lib.hid h1; have p1 := h1.ptr; have HK1 := Lib.hid h2; have HSZ : Hid (w.heap.size < (w.alloc (.cells #[.int .i64 0, .slice none 0 0] 26)).heap.size) := (by show _ < _; simp); clear h1 h2)))
  have hE := dep_block HAB5.out (.int .i64 (SP.cI.val c)) (.slice xa (SP.cL.val (SP.cI.fin c)).length xc)
  obtain ⟨z0, z1, _, _⟩ := cells_two hE.1
  have HK5 := Lib.hid (SP.keeps_after (HK0.out.then HK2.out) hE.2 (Nat.le_refl _))
  have HE5 := Lib.hid (HE2.out.grown hE.2 (fun k hk => by
    have e2 := Option.some.inj hk
    have h1 := HLT.out.1
    have h2 := HLT.out.2.1
    refine .inr ⟨by omega, by omega, fun hne e => ?_⟩
    have := HLT.out.2.2 (fun e3 => hne (List.eq_nil_of_length_eq_zero (by have h5 := HLN.out; rw [HF.out, e3] at h5; simpa using h5)))
    omega))
  have HS6 := Lib.hid (sl_after HS1.out hE.2 (fun p hp => by have := HS5.out p hp; omega))
  clear hE
  generalize (w3.setCell ⟨w.heap.size, 0, none⟩ (.int .i64 (SP.cI.val c))).setCell ⟨w.heap.size, 1, none⟩ (.slice xa (SP.cL.val (SP.cI.fin c)).length xc) = w6 at *
  refine bodyPost_ret (v := .agg #[.int .i64 (SP.cI.val c), .slice xa (SP.cL.val (SP.cI.fin c)).length xc]) (by simp [results, Tryz.results191, go_sem, z0, z1]) rfl ?_
  exact ⟨xa, xc, rfl, HS6.out, HS2.out, HS3.out, fun b' o h => Nat.le_of_lt (HS5.out _ h), fun p hp => Nat.le_of_lt (HS5.out p hp), HE5.out, HK5.out⟩
theorem ownD_mono {w : World} {base B : Nat} {v : Value} {d : List Dp} (h : OwnD w B v d) (hb : base ≤ B) : OwnD w base v d := by
  obtain ⟨h1, h2 | ⟨g, cap, cur, hv, hg, rest⟩⟩ := h
  · exact ⟨h1, .inl h2⟩
  · exact ⟨h1, .inr ⟨g, cap, cur, hv, Nat.le_trans hb hg, rest⟩⟩
/-- What a list of dependencies comes to. -/
def SeeLD (w : World) (s b g : Nat) (c : SP.Cur) (e : Ending) (w' : World) : Prop := ∃ v F, e = .returned v ∧ toD F = cD.list.val c ∧ OwnD w' w.heap.size v F ∧ HasG w' v F ∧ SP.EyeS w' s b g (cD.list.fin c) ∧ S2.Keeps (SP.Both s b) w w'
set_option maxRecDepth 100000 in
set_option maxHeartbeats 8000000 in
theorem slistD_any {w : World} {s b g : Nat} {c : SP.Cur} (he : SP.EyeS w s b g c) (hlen : c.1.length ≤ 1000000) :
    Calls Tryz.prog 190 #[.pointer (some ⟨s, 0, none⟩), .func (.func 191) #[] #[]] w (SeeLD w s b g c) := by
  have HE := Lib.hid he
  have HLC := Lib.hid hlen
  have p0 := he.ptr
  have HLT0 := Lib.hid he.lt
  clear he hlen
  generalize hN : SP.cI.val c = N
  have HLV : Hid (cD.list.val c = (SP.many cD N.toNat (SP.said c)).1) := by rw [← hN]; exact Lib.hid rfl
  have HLF : Hid (cD.list.fin c = (SP.many cD N.toNat (SP.said c)).2) := by rw [← hN]; exact Lib.hid rfl
  have HSD : Hid (SP.said c = ((SP.cI.fin c).1, (SP.cI.fin c).2.1, c.2.2 || decide (N < 0))) := by rw [← hN]; exact Lib.hid rfl
  have HI : Hid (Calls Tryz.prog 231 #[.pointer (some ⟨b, 0, none⟩)] w fun e w' => e = .returned (.int .i64 N) ∧ SP.EyeS w' s b g (SP.cI.fin c) ∧ S2.Keeps (S2.Only b) w w') := by
    rw [← hN]
    exact Lib.hid (SP.sint_any HE.out)
  clear hN
  go_enter Tryz.func190, Tryz.ntmps190
  by_cases h0 : N < 0
  · have hd0 : decide (N < 0) = true := decide_eq_true h0
    have hd1 : decide ((0 : Int) < N) = false := decide_eq_false (by omega)
    rw [hd0, Bool.or_true] at HSD
    go_wp2_with (go_at_call 231; go_must (refine HI.out.mono ?_; rintro e w1 ⟨rfl, h1, h2⟩; have HE1 := Lib.hid h1; have HK1 := Lib.hid (SP.both_of (s := s) h2); have p1 := h1.ptr; have l1 := h1.lie; have fz := frozen_of_row w1 s 1 _ _ h1.1; clear h1 h2))
    have HE2 : Hid (SP.EyeS (w1.setCell ⟨s, 1, none⟩ (.bool true)) s b g (SP.said c)) := by
      rw [HSD.out]
      exact Lib.hid HE1.out.lieSet
    have HK2 : Hid (S2.Keeps (SP.Both s b) w (w1.setCell ⟨s, 1, none⟩ (.bool true))) := Lib.hid (S2.kSet (p := ⟨s, 1, none⟩) HK1.out (Or.inl (show SP.Both s b s from .inl rfl)) _)
    generalize w1.setCell ⟨s, 1, none⟩ (.bool true) = w2 at *
    have HG2 : Hid (c.1 ≠ [] → g < w2.heap.size) := fun h => Nat.lt_of_lt_of_le (HLT0.out.2.2 h) HK2.out.size
    have HSB : Hid (s < w2.heap.size ∧ b < w2.heap.size ∧ True) := Lib.hid ⟨Nat.lt_of_lt_of_le HLT0.out.1 HK2.out.size, Nat.lt_of_lt_of_le HLT0.out.2.1 HK2.out.size, trivial⟩
    go_loopw [6, 20] (fun v i wr => ∃ (F : List Dp) (cc : SP.Cur), F.length ≤ N.toNat ∧ i = .int .i64 F.length ∧ OwnD wr w2.heap.size v F ∧ HasG wr v F ∧ (∀ s' ∈ F, ∀ p, s'.ia = some p → p.block ≠ b) ∧ SP.EyeS wr s b g cc ∧ toD F ++ (SP.many cD (N.toNat - F.length) cc).1 = cD.list.val c ∧ (SP.many cD (N.toNat - F.length) cc).2 = cD.list.fin c ∧ F.length + cc.1.length ≤ c.1.length ∧ w2.heap.size ≤ wr.heap.size ∧ S2.Keeps (SP.Both s b) w wr) (fun _ i _ => N.toNat - (intOf i).toNat)
    case atStart => exact ⟨[], SP.said c, Nat.zero_le _, rfl, OwnD.nil _ _, HasG.nil _ _, fun s' hs => (by cases hs), HE2.out, HLV.out.symm, HLF.out.symm, by rw [List.length_nil, Nat.zero_add]; exact SP.said_len c, Nat.le_refl _, HK2.out⟩
    case round =>
      obtain ⟨F, cc, hk, rfl, ho, hg, hqb, he, hv, hf, hln, hs, hkp⟩ := hrel
      have HO := Lib.hid ho
      have HG := Lib.hid hg
      have HQB := Lib.hid hqb
      have HE := Lib.hid he
      have HV := Lib.hid hv
      have HF := Lib.hid hf
      have HLN := Lib.hid hln
      have HS := Lib.hid hs
      have HKP := Lib.hid hkp
      have pr := he.ptr
      obtain ⟨av, cv, rfl, _⟩ := ho.row
      clear ho hg hqb he hv hf hln hs hkp
      by_cases hlt : F.length < N.toNat
      · exact absurd hlt (by omega)
      · have hge : ¬ ((F.length : Nat) : Int) < N := by omega
        have hdk : decide (((F.length : Nat) : Int) < N) = false := decide_eq_false hge
        have h0m : N.toNat - F.length = 0 := by omega
        go_wp2
        go_ret
        have hv : cD.list.val c = toD F := by have h := HV.out; rw [h0m] at h; simpa [SP.many] using h.symm
        have hf : cD.list.fin c = cc := by have h := HF.out; rw [h0m] at h; exact h.symm
        exact ⟨_, F, rfl, by rw [hv], ownD_mono HO.out HK2.out.size, HG.out, by rw [hf]; exact HE.out, HKP.out⟩
  · have hd0 : decide (N < 0) = false := decide_eq_false h0
    rw [hd0, Bool.or_false] at HSD
    go_wp2_with (go_at_call 231; go_must (refine HI.out.mono ?_; rintro e w1 ⟨rfl, h1, h2⟩; have HE1 := Lib.hid h1; have HK1 := Lib.hid (SP.both_of (s := s) h2); have p1 := h1.ptr; have l1 := h1.lie; have fz := frozen_of_row w1 s 1 _ _ h1.1; clear h1 h2))
    have HE2 : Hid (SP.EyeS w1 s b g (SP.said c)) := by
      rw [HSD.out]
      exact Lib.hid HE1.out
    have HK2 := HK1
    have HG2 : Hid (c.1 ≠ [] → g < w1.heap.size) := fun h => Nat.lt_of_lt_of_le (HLT0.out.2.2 h) HK2.out.size
    have HSB : Hid (s < w1.heap.size ∧ b < w1.heap.size ∧ True) := Lib.hid ⟨Nat.lt_of_lt_of_le HLT0.out.1 HK2.out.size, Nat.lt_of_lt_of_le HLT0.out.2.1 HK2.out.size, trivial⟩
    generalize w1 = w2 at *
    go_loopw [6, 20] (fun v i wr => ∃ (F : List Dp) (cc : SP.Cur), F.length ≤ N.toNat ∧ i = .int .i64 F.length ∧ OwnD wr w2.heap.size v F ∧ HasG wr v F ∧ (∀ s' ∈ F, ∀ p, s'.ia = some p → p.block ≠ b) ∧ SP.EyeS wr s b g cc ∧ toD F ++ (SP.many cD (N.toNat - F.length) cc).1 = cD.list.val c ∧ (SP.many cD (N.toNat - F.length) cc).2 = cD.list.fin c ∧ F.length + cc.1.length ≤ c.1.length ∧ w2.heap.size ≤ wr.heap.size ∧ S2.Keeps (SP.Both s b) w wr) (fun _ i _ => N.toNat - (intOf i).toNat)
    case atStart => exact ⟨[], SP.said c, Nat.zero_le _, rfl, OwnD.nil _ _, HasG.nil _ _, fun s' hs => (by cases hs), HE2.out, HLV.out.symm, HLF.out.symm, by rw [List.length_nil, Nat.zero_add]; exact SP.said_len c, Nat.le_refl _, HK2.out⟩
    case round =>
      obtain ⟨F, cc, hk, rfl, ho, hg, hqb, he, hv, hf, hln, hs, hkp⟩ := hrel
      have HO := Lib.hid ho
      have HG := Lib.hid hg
      have HQB := Lib.hid hqb
      have HE := Lib.hid he
      have HV := Lib.hid hv
      have HF := Lib.hid hf
      have HLN := Lib.hid hln
      have HS := Lib.hid hs
      have HKP := Lib.hid hkp
      have pr := he.ptr
      obtain ⟨av, cv, rfl, _⟩ := ho.row
      clear ho hg hqb he hv hf hln hs hkp
      by_cases hlt : F.length < N.toNat
      · have hk1 : ((F.length : Nat) : Int) < N := by omega
        have hk0 : (0 : Int) ≤ ((F.length : Nat) : Int) := by omega
        have hdk : decide (((F.length : Nat) : Int) < N) = true := decide_eq_true hk1
        obtain ⟨m, hm⟩ : ∃ m, N.toNat - F.length = m + 1 := ⟨N.toNat - F.length - 1, by omega⟩
        have HM : Hid (SP.many cD (N.toNat - F.length) cc = if (cD.fin cc).1.length = cc.1.length then ([], cD.fin cc) else (cD.val cc :: (SP.many cD m (cD.fin cc)).1, (SP.many cD m (cD.fin cc)).2)) := by
          show _ = _
          rw [hm]
          rfl
        have HMM := Lib.hid hm
        have HFL := Lib.hid (cD_ok.len cc)
        have HLT : Hid (cc.1.length ≤ 1000000 ∧ F.length ≤ 1000000) := by
          have := HLN.out
          have := HLC.out
          exact ⟨by omega, by omega⟩
        have hF6 : F.length ≤ 1000000 := HLT.out.2
        have HSP := Lib.hid (sdep_any HE.out HLT.out.1)
        have HGG : Hid (cc.1 ≠ [] → g < w2.heap.size) := fun h => HG2.out (fun e => h (List.eq_nil_of_length_eq_zero (by have h1 := HLN.out; have h2 : c.1.length = 0 := (by rw [e]; rfl); omega)))
        clear hm
        by_cases hq : (cD.fin cc).1.length = cc.1.length
        · rw [if_pos hq] at HM
          have hqd : ((((cD.fin cc).1.length : Nat) : Int) == ((cc.1.length : Nat) : Int)) = true := by simp [hq]
          clear hq
          generalize cD.val cc = x at *
          generalize hcf : cD.fin cc = cf at *
          clear hcf
          go_wp2_with (first
            | (have htok := HE5; clear htok; go_at_call 255; go_must (refine (S2.left_any _ b g cf.1 cf.2.1 (HE5.out.before (S2.kAlloc (S2.Keeps.refl _ _) _)).2.1).mono ?_; rintro e w6 ⟨rfl, rfl⟩))
            | (go_at_call 191; go_must (refine HSP.out.mono ?_; rintro e w5 ⟨xa, xc, rfl, h1, h2, h3, h4, h5, h6, h7⟩; have HE5 := Lib.hid h6; have HK5 := Lib.hid h7; have HM1 := Lib.hid h1; have HM2 := Lib.hid h2; have HM3 := Lib.hid h3; have HM5 := Lib.hid h5; have HO5 := Lib.hid (ownD_keep HO.out HSB.out.2.1 h7); have HG5 := Lib.hid (hasG_keep HG.out HQB.out h7); have HMV := Lib.hid (apart_g HO.out h1 h4 (Nat.le_refl _)); have p5 := S2.alloc_cell h6.ptr (.cells #[.int .i64 x.1, .slice xa x.2.length xc] 26); clear h1 h2 h3 h4 h5 h6 h7))
            | (go_at_call 255; go_must (refine (S2.left_any wr b g cc.1 cc.2.1 HE.out.2.1).mono ?_; rintro e w4 ⟨rfl, rfl⟩)))
          go_ret
          have hv : cD.list.val c = toD F := by have h := HV.out; rw [HM.out] at h; simpa using h.symm
          have hf : cD.list.fin c = cf := by have h := HF.out; rw [HM.out] at h; exact h.symm
          exact ⟨_, F, rfl, by rw [hv], ownD_mono (HO5.out.later (blAlloc (Below.refl _ _) _)) HK2.out.size, HG5.out.later (blAlloc (Below.refl _ _) _), by rw [hf]; exact HE5.out.before (S2.kAlloc (S2.Keeps.refl _ _) _), S2.kAlloc (HKP.out.then (SP.both_of HK5.out)) _⟩
        · rw [if_neg hq] at HM
          have HQ := Lib.hid hq
          have hqd : ((((cD.fin cc).1.length : Nat) : Int) == ((cc.1.length : Nat) : Int)) = false := by simpa using (fun e => hq (by omega))
          clear hq
          generalize cD.val cc = x at *
          generalize hcf : cD.fin cc = cf at *
          clear hcf
          go_wp2_with (first
            | (have htok := HE5; clear htok; go_at_call 255; go_must (refine (S2.left_any _ b g cf.1 cf.2.1 (HE5.out.before (S2.kAlloc (S2.Keeps.refl _ _) _)).2.1).mono ?_; rintro e w6 ⟨rfl, rfl⟩))
            | (go_at_call 191; go_must (refine HSP.out.mono ?_; rintro e w5 ⟨xa, xc, rfl, h1, h2, h3, h4, h5, h6, h7⟩; have HE5 := Lib.hid h6; have HK5 := Lib.hid h7; have HM1 := Lib.hid h1; have HM2 := Lib.hid h2; have HM3 := Lib.hid h3; have HM5 := Lib.hid h5; have HO5 := Lib.hid (ownD_keep HO.out HSB.out.2.1 h7); have HG5 := Lib.hid (hasG_keep HG.out HQB.out h7); have HMV := Lib.hid (apart_g HO.out h1 h4 (Nat.le_refl _)); have p5 := S2.alloc_cell h6.ptr (.cells #[.int .i64 x.1, .slice xa x.2.length xc] 26); clear h1 h2 h3 h4 h5 h6 h7))
            | (go_at_call 255; go_must (refine (S2.left_any wr b g cc.1 cc.2.1 HE.out.2.1).mono ?_; rintro e w4 ⟨rfl, rfl⟩))
            | (at_builtin; go_must (refine append_dp1 rfl (.tmp 37) (.tmp 39) rfl w2.heap.size (v := .slice av F.length cv) (d := F) (ad := ⟨w5.heap.size + 1, 0, none⟩) (cap := 1) (m := ⟨x.1, xa, xc, x.2⟩) rfl rfl (HO5.out.later (blAlloc (blAlloc (Below.refl _ _) _) _)) (dp_one (w0 := w5.alloc (.cells #[.int .i64 x.1, .slice xa x.2.length xc] 26)) (m := ⟨x.1, xa, xc, x.2⟩) (by simp) rfl) (by have := HLT.out; omega) (Nat.le_trans HS.out (Nat.le_trans HK5.out.size (blAlloc (blAlloc (Below.refl w5.heap.size w5) (.cells #[.int .i64 x.1, .slice xa x.2.length xc] 26)) (.cells #[.int .i64 x.1, .slice xa x.2.length xc] 26)).size)) ?_; intro v7 w7 h1 h2 h3; have HO7 := Lib.hid h1; have HG7 := Lib.hid h2; have HGG7 := Lib.hid ((HG5.out.later (blAlloc (blAlloc (Below.refl _ _) (.cells #[.int .i64 x.1, .slice xa x.2.length xc] 26)) (.cells #[.int .i64 x.1, .slice xa x.2.length xc] 26))).push (m := ⟨x.1, xa, xc, x.2⟩) (show IdsAt _ _ from ⟨HM1.out.later (blAlloc (blAlloc (Below.refl _ _) (.cells #[.int .i64 x.1, .slice xa x.2.length xc] 26)) (.cells #[.int .i64 x.1, .slice xa x.2.length xc] 26)), HM2.out, HM3.out⟩) HMV.out h2 h3); clear h1 h2 h3)))
          have HOB := Lib.hid (HO5.out.later (blAlloc (blAlloc (Below.refl _ _) (.cells #[.int .i64 x.1, .slice xa x.2.length xc] 26)) (.cells #[.int .i64 x.1, .slice xa x.2.length xc] 26)))
          have HE7 : Hid (SP.EyeS w7 s b g cf) := Lib.hid ((HE5.out.before (S2.kAlloc (S2.kAlloc (S2.Keeps.refl _ _) _) _)).grown HG7.out (fun k hk => by
            have h1 := (HOB.out.block k hk).1
            have h2 := HSB.out
            refine .inr ⟨by omega, by omega, fun hne => ?_⟩
            have h3 := HGG.out (fun e => hne (List.eq_nil_of_length_eq_zero (by have h4 := HFL.out; rw [e] at h4; simpa using h4)))
            omega))
          have HK7 : Hid (S2.Keeps (SP.Both s b) w w7) := Lib.hid (SP.keeps_afterO (S2.kAlloc (S2.kAlloc (HKP.out.then (SP.both_of HK5.out)) _) _) HG7.out (fun k hk => Nat.le_trans HK2.out.size (HOB.out.block k hk).1))
          have HS7 : Hid (w2.heap.size ≤ w7.heap.size) := Lib.hid (Nat.le_trans HS.out (Nat.le_trans HK5.out.size (Nat.le_trans (blAlloc (blAlloc (Below.refl w5.heap.size w5) (.cells #[.int .i64 x.1, .slice xa x.2.length xc] 26)) (.cells #[.int .i64 x.1, .slice xa x.2.length xc] 26)).size HG7.out.size)))
          have HQ7 : Hid (∀ s' ∈ F ++ [(⟨x.1, xa, xc, x.2⟩ : Dp)], ∀ p, s'.ia = some p → p.block ≠ b) := Lib.hid (by
            intro s' hs p hp
            rcases List.mem_append.1 hs with hs | hs
            · exact HQB.out s' hs p hp
            · rw [List.mem_singleton] at hs
              subst hs
              have := HM5.out p hp
              have := HS.out
              have := HSB.out.2.1
              omega)
          have hm2 : N.toNat - (F ++ [(⟨x.1, xa, xc, x.2⟩ : Dp)]).length = m := by have := HMM.out; rw [List.length_append, List.length_singleton]; omega
          clear HOB HG7
          go_roundw
          case rel =>
            refine ⟨F ++ [(⟨x.1, xa, xc, x.2⟩ : Dp)], cf, by rw [List.length_append, List.length_singleton]; omega, by rw [List.length_append, List.length_singleton]; go_num, HO7.out, HGG7.out, HQ7.out, HE7.out, ?_, ?_, ?_, HS7.out, HK7.out⟩
            · have e : toD (F ++ [(⟨x.1, xa, xc, x.2⟩ : Dp)]) = toD F ++ [x] := by unfold toD; rw [List.map_append]; rfl
              rw [hm2, e, List.append_assoc]
              have h := HV.out
              rw [HM.out] at h
              exact h
            · rw [hm2]
              have h := HF.out
              rw [HM.out] at h
              exact h
            · have h1 := HLN.out
              have h2 := HFL.out
              have h3 := HQ.out
              rw [List.length_append, List.length_singleton]
              omega
          case measure => simp [intOf]; omega
      · have hge : ¬ ((F.length : Nat) : Int) < N := by omega
        have hdk : decide (((F.length : Nat) : Int) < N) = false := decide_eq_false hge
        have h0m : N.toNat - F.length = 0 := by omega
        go_wp2
        go_ret
        have hv : cD.list.val c = toD F := by have h := HV.out; rw [h0m] at h; simpa [SP.many] using h.symm
        have hf : cD.list.fin c = cc := by have h := HF.out; rw [h0m] at h; exact h.symm
        exact ⟨_, F, rfl, by rw [hv], ownD_mono HO.out HK2.out.size, HG.out, by rw [hf]; exact HE.out, HKP.out⟩

set_option maxRecDepth 100000 in
set_option maxHeartbeats 2000000 in
theorem sdeps_any {w : World} {s b g : Nat} {c : SP.Cur} (he : SP.EyeS w s b g c) (hlen : c.1.length ≤ 1000000) : Calls Tryz.prog 96 #[.pointer (some ⟨s, 0, none⟩)] w (SeeLD w s b g c) := by
  have HI := Lib.hid (slistD_any he hlen)
  clear he hlen
  go_enter Tryz.func96, Tryz.ntmps96
  go_wp2_with (go_at_call 190; go_must (refine HI.out.mono ?_; rintro e w1 ⟨v, F, rfl, h1, h2, h3, h4, h5⟩; have H1 := Lib.hid h1; have H2 := Lib.hid h2; have H3 := Lib.hid h3; have H4 := Lib.hid h4; have H5 := Lib.hid h5; clear h1 h2 h3 h4 h5))
  go_ret
  exact ⟨v, F, rfl, H1.out, H2.out, H3.out, H4.out, H5.out⟩
set_option maxRecDepth 100000 in
set_option maxHeartbeats 4000000 in
theorem parse_any (gv : Nat) (av : Option Addr) (nv cv : Nat) (B : List UInt8) (w : World) (hB : S2.Bw w gv (.slice av nv cv) B) (hlen : B.length ≤ 100000) :
    Calls Tryz.prog 15 #[.slice av nv cv] w (ParseR w B) := by
  have HBS := Lib.hid hB
  have HLB := Lib.hid hlen
  clear hB hlen
  have HLL := Lib.hid (SP.list_len cD_ok (B, false, false))
  have HID := Lib.hid (list_cost (B, false, false))
  have HPI : Hid (parseD B = if SP.doneC (cD.list.fin (B, false, false)) = 0 ∧ checkD (cD.list.val (B, false, false)) = 0 then some (cD.list.val (B, false, false)) else none) := Lib.hid ((parse_eq B).symm.trans rfl)
  go_enter Tryz.func15, Tryz.ntmps15
  go_wp2_with (first
    | (have htok := HE1; clear htok; go_at_call 96; go_must (refine (sdeps_any HE1.out (by have := HLB.out; simp only; omega)).mono ?_; rintro e w2 ⟨v2, F, rfl, hF, h1, h2, h3, h4⟩; have HFE := Lib.hid hF; have HO2 := Lib.hid (ownD_mono h1 HB1.out.size); have HG2 := Lib.hid h2; have HE2 := Lib.hid h3; have HB2 : Hid (Below w.heap.size w w2) := Lib.hid (HB1.out.trans (h4.below HB1.out.size (fun x hx e => by have := HSB.out; rcases e with e | e <;> omega))); clear hF h1 h2 h3 h4))
    | (go_at_call 95; go_must (refine (SP.sopen_any gv _ B w HBS.out (by have := HLB.out; omega)).mono ?_; rintro e w1 ⟨s, b, g, rfl, h1, h2, h3, h4, h5⟩; have HE1 := Lib.hid h1; have HSB : Hid (w.heap.size ≤ s ∧ w.heap.size ≤ b) := Lib.hid ⟨h2, h3⟩; have HB1 := Lib.hid h5; clear h1 h2 h3 h4 h5)))
  have HDN := Lib.hid (SP.sdone_any HE2.out)
  clear HE1 HE2
  obtain ⟨av2, cv2, hv2, hz1, hz2, hdl⟩ := HO2.out.dl fun s hs => (HG2.out s hs).1
  subst hv2
  have HDL := Lib.hid hdl
  have HZ := Lib.hid (And.intro hz1 hz2)
  rw [← HFE.out] at HPI HLL HID
  have HFW := Lib.hid (few_cost HLL.out HID.out HLB.out)
  clear hz1 hz2 hdl HFE HLL HID
  generalize SP.doneC (cD.list.fin (B, false, false)) = D at *
  by_cases hdn : D = 0
  · by_cases hck : checkD (toD F) = 0
    · have HPS : Hid (parseD B = some (toD F)) := HPI.out.trans (if_pos ⟨hdn, hck⟩)
      subst hdn
      go_wp2_with (first
        | (go_at_call 97; go_must (refine HDN.out.mono ?_; rintro e w5 ⟨rfl, rfl⟩))
        | (go_at_call 18; go_must (refine (pcheck_any av2 cv2 F w2 HFW.out.1 HFW.out.2 HDL.out).mono ?_; rintro e w6 ⟨rfl, h5⟩; rw [hck]; have HB6 := Lib.hid h5; clear h5)))
      go_ret2
      exact ⟨av2, cv2, F, by rw [HPS.out]; rfl, by rw [HPS.out]; rfl, HDL.out.later HB6.out, HZ.out.1, HZ.out.2, blThen HB2.out HB6.out⟩
    · have HPN : Hid (parseD B = none) := HPI.out.trans (if_neg fun h => hck h.2)
      have hck2 : ((checkD (toD F) == 0) = false) := by simpa using hck
      have hck3 : ((checkD (toD F) != 0) = true) := by simpa using hck
      subst hdn
      go_wp2_with (first
        | (go_at_call 97; go_must (refine HDN.out.mono ?_; rintro e w5 ⟨rfl, rfl⟩))
        | (go_at_call 18; go_must (refine (pcheck_any av2 cv2 F w2 HFW.out.1 HFW.out.2 HDL.out).mono ?_; rintro e w6 ⟨rfl, h5⟩; have HB6 := Lib.hid h5; clear h5)))
      go_ret2
      exact parse_none_ret HPN.out (blThen HB2.out HB6.out)
  · have HPN : Hid (parseD B = none) := HPI.out.trans (if_neg fun h => hdn h.1)
    have hdn2 : ((D == 0) = false) := by simpa using hdn
    have hdn3 : ((D != 0) = true) := by simpa using hdn
    go_wp2_with (go_at_call 97; go_must (refine HDN.out.mono ?_; rintro e w5 ⟨rfl, rfl⟩))
    go_ret2
    exact parse_none_ret HPN.out HB2.out

end SD
end Go.Proofs.YtjlkgbejldcklaaGreat
