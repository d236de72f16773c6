/- The program's Parse of Deps. Conditions: at most a hundred thousand bytes. -/
import Derived.WalkSpells
import Derived.Test.YthgbioajmdbbbaaGreatMg38
import Derived.Test.YthgbioajmdbbbaaGreatMg36
import Derived.Test.YthgbioajmdbbbaaGreatMg14
import Derived.Test.YthgbioajmdbbbaaGreatMg35
import Derived.Test.YthgbioajmdbbbaaGreatMg19
/- The program's Put of Deps. Conditions: lists of at most a million, with a million stamps in all. -/
set_option linter.unusedVariables false
namespace Go.Proofs.YthgbioajmdbbbaaGreat
open S1
namespace SD
open Go.RowKit

theorem pen_below {B b : Nat} {r r' : Option Nat} {x y : World} (h : S2.PenStep b r r' x y) (hB : B ≤ x.heap.size) (hb : B ≤ b) (hr : ∀ k, r = some k → B ≤ k) : Below B x y ∧ ∀ k, r' = some k → B ≤ k := by
  refine ⟨h.keeps.below hB fun k hk hs => ?_, fun k hk => ?_⟩
  · rcases hs with rfl | hs
    · omega
    · have := hr k hs
      omega
  · rcases h.row with e | e
    · exact hr k (e ▸ hk)
    · exact Nat.le_trans hB (e k hk)
theorem sl_pen {w0 w : World} {a : Option Addr} {xs : List (Int × Int)} (h : SL w0 a xs) (hb : Below w0.heap.size w0 w) {pb : Nat} {r : Option Nat} (hp : w0.heap.size ≤ pb) (hr : ∀ k, r = some k → w0.heap.size ≤ k) (q : Nat) (hq : q < w.heap.size) (hq2 : ¬ S2.PenS pb r q) :
    ∃ g, S2.SL w g a xs ∧ ¬ S2.PenS pb r g ∧ g < w.heap.size := by
  by_cases hne : xs = []
  · exact ⟨q, fun h => absurd hne h, hq2, hq⟩
  · obtain ⟨b, o, ha, hlt, hl⟩ := h hne
    refine ⟨b, fun _ => ⟨o, ha, fun j x y hx => ⟨cell_in hb hlt (hl j x y hx).1, cell_in hb hlt (hl j x y hx).2⟩⟩, fun hs => ?_, Nat.lt_of_lt_of_le hlt hb.size⟩
    rcases hs with e | e
    · omega
    · have := hr b e
      omega
theorem i8_one (x : Int) : [x].flatMap S2.i8 = S2.i8 x := by simp

set_option maxRecDepth 100000 in
set_option maxHeartbeats 2000000 in
theorem put_any (a : Option Addr) (c : Nat) (l : List Dp) (w : World) (hf : FewD l) (hn : idsN (toD l) ≤ 1000000) (hl : Dl w a l) :
    Calls Tryz.prog 25 #[.slice a l.length c] w (S2.Made w (layD (toD l))) := by
  have HL := Lib.hid hl
  have HF := Lib.hid hf
  have HNN := Lib.hid hn
  have hlen6 := hf.1
  have HP0 : Hid (S2.PenAt (w.alloc (.cells #[.slice none 0 0] 85)) w.heap.size none []) := S2.pen_new w
  have HB0 : Hid (Below w.heap.size w (w.alloc (.cells #[.slice none 0 0] 85))) := blAlloc (Below.refl _ _) _
  clear hl hf
  go_enter Tryz.func25, Tryz.ntmps25
  go_wp2_with (go_at_call 55; go_must (refine (S2.int_any _ w.heap.size none [] (w.heap.size + 1) _ 1 [(l.length : Int)] (HP0.out.before (S2.kAlloc (S2.Keeps.refl _ _) _)) (S2.one_new (w.alloc (.cells #[.slice none 0 0] 85)) _ _ (by simp) _ rfl) (HP0.out.apart (by simp)) (by simp)).mono ?_; rintro e w1 ⟨rfl, r1, hp1, hs1⟩; have HP1 := Lib.hid hp1; have hpb := pen_below (B := w.heap.size) (hs1.before (w := w.alloc (.cells #[.slice none 0 0] 85)) (S2.kAlloc (S2.Keeps.refl _ _) _)) (by simp) (Nat.le_refl _) (fun k hk => by cases hk); have HB1 : Hid (Below w.heap.size w w1) := HB0.out.trans hpb.1; have HR1 := Lib.hid hpb.2; clear hp1 hs1 hpb))
  go_loopw [15] (fun i wr => ∃ (k : Nat) (r' : Option Nat), k ≤ l.length ∧ i = .int .i64 k ∧ S2.PenAt wr w.heap.size r' (S2.i8 l.length ++ layF ((toD l).take k)) ∧ (∀ x, r' = some x → w.heap.size ≤ x) ∧ Below w.heap.size w wr) (fun i _ => l.length - (intOf i).toNat)
  case atStart => exact ⟨0, r1, Nat.zero_le _, rfl, by simpa [layF] using HP1.out, HR1.out, HB1.out⟩
  case round =>
    clear HP1 HB1 HR1 HP0 HB0
    obtain ⟨k, r', hk, rfl, hp, hr, hb⟩ := hrel
    have HP := Lib.hid hp
    have HR := Lib.hid hr
    have HB := Lib.hid hb
    clear hp hr hb
    by_cases hlt : k < l.length
    · obtain ⟨s, hs⟩ := at_ltD hlt
      obtain ⟨b, o, rfl, hbg, hx, hy, hi⟩ := (HL.out.later HB.out).at hs
      have hk1 : (k : Int) < (l.length : Int) := by omega
      have hk0 : (0 : Int) ≤ (k : Int) := by omega
      have hdk : decide ((k : Int) < (l.length : Int)) = true := decide_eq_true hk1
      have HSI := Lib.hid (HL.out.1 s (List.mem_of_getElem? hs)).1
      have HFT := Lib.hid (layF_take hs)
      have HLN : Hid ((S2.i8 l.length ++ layF ((toD l).take k)).length + 16 * s.ids.length + 100 ≤ 1099511627776) := by
        show _ ≤ _
        have h1 := layF_len ((toD l).take k)
        have h2 := idsN_take_le (toD l) k
        have h3 := HNN.out
        have h4 := idsN_le (List.mem_of_getElem? hs)
        rw [List.length_append, S2.i8_length, h1, List.length_take, toD_length]
        omega
      unfold ilD at hy
      clear hs hi
      generalize hG : S2.i8 l.length ++ layF ((toD l).take k) = G at *
      have HGE := Lib.hid hG
      clear hG
      have HL1 : Hid (G.length + 8 * [s.sh].length ≤ 1099511627776) := by have := HLN.out; show _ ≤ _; simp only [List.length_cons, List.length_nil]; omega
      have HL2 : Hid ((G ++ [s.sh].flatMap S2.i8).length + 16 * s.ids.length + 16 ≤ 1099511627776) := by have := HLN.out; show _ ≤ _; rw [i8_one, List.length_append, S2.i8_length]; omega
      clear HLN
      have HNB := Lib.hid (dep_new wr (.int .i64 s.sh) (.slice s.ia s.ids.length s.ic))
      have HPA := Lib.hid (HP.out.before (S2.kAlloc (S2.Keeps.refl (fun _ => False) wr) (.cells #[.int .i64 s.sh, .slice s.ia s.ids.length s.ic] 51)))
      have HPX : Hid (¬ S2.PenS w.heap.size r' wr.heap.size) := HP.out.apart (Nat.le_refl _)
      go_wp2_with (first
        | (go_at_call 55; go_must (refine (S2.int_any _ w.heap.size r' G (wr.heap.size + 1) _ 1 [s.sh] (HPA.out.before (S2.kAlloc (S2.Keeps.refl _ _) _)) (S2.one_new (wr.alloc (.cells #[.int .i64 s.sh, .slice s.ia s.ids.length s.ic] 51)) _ _ (by simp) _ rfl) (HPA.out.apart (by simp)) HL1.out).mono ?_; rintro e w5 ⟨rfl, r5, hp5, hs5⟩; have HP5 := Lib.hid hp5; have hs6 := hs5.before (w := wr.alloc (.cells #[.int .i64 s.sh, .slice s.ia s.ids.length s.ic] 51)) (S2.kAlloc (S2.Keeps.refl _ _) _); have hpb := pen_below (B := w.heap.size) hs6 (by have := HB.out.size; simp; omega) (Nat.le_refl _) HR.out; have HB5 : Hid (Below w.heap.size w w5) := (HB.out.trans ((blAlloc (Below.refl wr.heap.size wr) (.cells #[.int .i64 s.sh, .slice s.ia s.ids.length s.ic] 51)).mono HB.out.size)).trans hpb.1; have HR5 := Lib.hid hpb.2; have c0 := hs6.keeps.cell HPX.out HNB.out.1; have c1 := hs6.keeps.cell HPX.out HNB.out.2; have hsz5 : wr.heap.size < w5.heap.size := Nat.lt_of_lt_of_le (by simp) hs6.keeps.size; have HPY := Lib.hid (hs6.free HPX.out (by simp)); clear hp5 hs5 hs6 hpb))
        | (go_at_call 56; go_must (obtain ⟨q, hq1, hq2, hq3⟩ := sl_pen (w := w5) HSI.out HB5.out (Nat.le_refl _) HR5.out wr.heap.size hsz5 HPY.out; refine (S2.stamps_any _ w.heap.size r5 _ q _ _ s.ids HP5.out hq1 hq2 hq3 HL2.out).mono ?_; rintro e w7 ⟨rfl, r7, hp7, hs7⟩; have HP7 := Lib.hid hp7; have hpb := pen_below (B := w.heap.size) hs7 HB5.out.size (Nat.le_refl _) HR5.out; have HB7 := Lib.hid (HB5.out.trans hpb.1); have HR7 := Lib.hid hpb.2; clear hp7 hs7 hpb hq1 hq2 hq3)))
      go_roundw
      case rel => exact ⟨k + 1, r7, hlt, by go_num, by rw [HFT.out, ← List.append_assoc, HGE.out, ← List.append_assoc, ← i8_one s.sh]; exact HP7.out, HR7.out, HB7.out⟩
      case measure => simp [intOf]; omega
    · have hge : ¬ (k : Int) < (l.length : Int) := by omega
      have hdk : decide ((k : Int) < (l.length : Int)) = false := decide_eq_false hge
      have HT : Hid (S2.i8 l.length ++ layF ((toD l).take k) = layD (toD l)) := by
        show _ = _
        rw [List.take_of_length_le (by rw [toD_length]; omega)]
        unfold layD
        rw [toD_length]
      rw [HT.out] at HP
      have HLD : Hid ((layD (toD l)).length ≤ 1099511627776) := by
        show _ ≤ _
        unfold layD
        rw [List.length_append, S2.i8_length, layF_len, toD_length]
        have := HNN.out
        omega
      go_wp2_with (go_at_call 57; refine (S2.bytes_any _ w.heap.size r' _ HP.out HLD.out).mono ?_; rintro e w6 ⟨v, g, rfl, h1, h2, h3⟩; have H1 := Lib.hid h1; have H2 := Lib.hid h2; have H3 := Lib.hid h3; clear h1 h2 h3)
      go_ret
      exact ⟨v, g, rfl, H1.out, fun k hk => Nat.le_trans HB.out.size (H2.out k hk), blThen HB.out H3.out⟩

end SD
end Go.Proofs.YthgbioajmdbbbaaGreat

/- The program's Parse of Deps. Conditions: at most a hundred thousand bytes. -/
set_option linter.unusedVariables false
namespace Go.Proofs.YthgbioajmdbbbaaGreat
open S1
namespace SD
open Go.RowKit

/-- What Stamps of an eye comes to; the slice's room too. -/
def SeenC (w : World) (b g : Nat) (bl : Bool) (s : List (Int × Int)) (l' : List UInt8) (e : Ending) (w' : World) : Prop :=
  ∃ a c, e = .returned (.slice a s.length c) ∧ SL w' a s ∧ (a = none → c = 0) ∧ s.length ≤ c ∧ (∀ b' o, a = some ⟨b', o, none⟩ → w.heap.size ≤ b') ∧ (∀ p, a = some p → w.heap.size ≤ p.block) ∧ S2.EyeAt w' b g l' bl ∧ S2.Keeps (S2.Only b) w w'
theorem ownL_at {w : World} {base : Nat} {v : Value} {l : List (Int × Int)} (h : OwnL w base v l) : ∃ a cap, v = .slice a l.length cap ∧ SL w a l ∧ (a = none → cap = 0) ∧ (∀ b o, a = some ⟨b, o, none⟩ → base ≤ b) ∧ l.length ≤ cap ∧ (∀ p, a = some p → base ≤ p.block) := by
  obtain ⟨a, cap, h1, h2, h3, h4, h5⟩ := h.sl
  refine ⟨a, cap, h1, h2, h3, h4, h5, fun p hp => ?_⟩
  obtain ⟨_, ⟨e, _⟩ | ⟨g, c2, cur, e, hg, _⟩⟩ := h
  · rw [e] at h1
    obtain ⟨rfl, _⟩ := Value.slice.inj h1
    cases hp
  · rw [e] at h1
    obtain ⟨rfl, _⟩ := Value.slice.inj h1
    obtain rfl := Option.some.inj hp
    exact hg
set_option maxHeartbeats 1000000 in
theorem eyeStampsC_see (w : World) (b g : Nat) (l L : List UInt8) (V : List (Int × Int)) (he : S2.EyeAt w b g l false)
    (hin : ∀ W, S2.Keeps (fun _ => False) w W → Calls Tryz.prog 73 #[.pointer (some ⟨b, 0, none⟩)] W fun e w' => ∃ v, e = .returned v ∧ (S2.OwnL w' W.heap.size v V ∧ S2.EyeAt w' b g L false) ∧ S2.Keeps (S2.Only b) W w') :
    Calls Tryz.prog 53 #[.pointer (some ⟨b, 0, none⟩)] w (SeenC w b g false V L) := by
  have HE := Lib.hid he
  have KEY := Lib.hid hin
  clear he hin
  go_enter Tryz.func53, Tryz.ntmps53
  go_wp2_with (go_at_call 72; go_must (refine (S2.look59_yes _ b g l (fun W v w' => S2.OwnL w' W.heap.size v V ∧ S2.EyeAt w' b g L false) HE.out KEY.out).mono ?_; rintro e w1 ⟨W, v, rfl, hW, ⟨ho, he1⟩, hk1⟩; obtain ⟨a, c, rfl, hs, hn, hx, hc, hx2⟩ := ownL_at (show OwnL _ _ _ _ from ho); have HS := Lib.hid hs; have HN := Lib.hid hn; have HC := Lib.hid hc; have HX := Lib.hid (fun b' o h => Nat.le_trans hW.size (hx b' o h)); have HX2 := Lib.hid (fun p h => Nat.le_trans hW.size (hx2 p h)); have HE1 := Lib.hid he1; have HK1 := Lib.hid hk1; clear ho he1 hk1 hs hn hx hc hx2 hW))
  go_ret
  exact ⟨a, c, rfl, HS.out, HN.out, HC.out, HX.out, HX2.out, HE1.out, HK1.out⟩
theorem seenC_none {w : World} {b g : Nat} {l : List UInt8} {e : Ending} {w' : World} (h : S2.SeenSl w b g true [] l e w') (he : e = .returned (.slice none 0 0)) : SeenC w b g true [] l e w' := by
  obtain ⟨a, c, q, h1, _, _, h4, h5⟩ := h
  exact ⟨none, 0, he, SL.nil_ok _ _, fun _ => rfl, Nat.le_refl _, fun _ _ h => (by cases h), fun _ h => (by cases h), h4, h5⟩
set_option maxHeartbeats 1000000 in
theorem eyeStampsC_no (w : World) (b g : Nat) (l : List UInt8) (he : S2.EyeAt w b g l false)
    (hin : ∀ W, S2.Keeps (fun _ => False) w W → Calls Tryz.prog 73 #[.pointer (some ⟨b, 0, none⟩)] W (S2.Blinded W b g false)) :
    Calls Tryz.prog 53 #[.pointer (some ⟨b, 0, none⟩)] w (SeenC w b g true [] l) := by
  have HE := Lib.hid he
  have KEY := Lib.hid hin
  clear he hin
  go_enter Tryz.func53, Tryz.ntmps53
  go_wp2_with (go_at_call 72; refine (S2.look59_no _ b g l HE.out KEY.out).mono ?_; rintro e w1 ⟨rfl, he1, hk1⟩; have HE1 := Lib.hid he1; have HK1 := Lib.hid hk1; clear he1 hk1)
  go_ret
  exact ⟨none, 0, rfl, SL.nil_ok _ _, fun _ => rfl, Nat.le_refl _, fun _ _ h => (by cases h), fun _ h => (by cases h), HE1.out, HK1.out⟩
set_option maxHeartbeats 1000000 in
theorem eyeStampsC_blind (w : World) (b g : Nat) (l : List UInt8) (he : S2.EyeAt w b g l true) : Calls Tryz.prog 53 #[.pointer (some ⟨b, 0, none⟩)] w (SeenC w b g true [] l) := by
  have HE := Lib.hid he
  clear he
  go_enter Tryz.func53, Tryz.ntmps53
  go_wp2_with (go_at_call 72; refine (S2.look59_blind _ b g l HE.out _).mono ?_; rintro e w1 ⟨rfl, hk1⟩; have HE1 := Lib.hid (HE.out.before hk1); have HK1 := Lib.hid hk1; clear hk1)
  go_ret
  exact ⟨none, 0, rfl, SL.nil_ok _ _, fun _ => rfl, Nat.le_refl _, fun _ _ h => (by cases h), fun _ h => (by cases h), HE1.out, HK1.out.mono fun _ _ h => h.elim⟩
theorem behind_no (k : Nat) (l : List UInt8) : S2.behind false k l = l := by simp [S2.behind]
theorem eyeStampsC_any (w : World) (b g : Nat) (l : List UInt8) (bl : Bool) (he : S2.EyeAt w b g l bl) (hlen : l.length ≤ 1000000) :
    Calls Tryz.prog 53 #[.pointer (some ⟨b, 0, none⟩)] w (SeenC w b g (!S2.okL l bl) (S2.valL l bl) (S2.behind (S2.okL l bl) (8 + 16 * (S2.rd l).toNat) l)) := by
  cases bl
  · by_cases h : S2.hasL l
    · have hok : S2.okL l false = true := by simp [S2.okL, h]
      rw [hok, valL_yes hok, behind_ok rfl]
      refine eyeStampsC_see w b g l _ _ he fun W hW => ?_
      refine (S2.stampsIn_any W b g l false (he.before hW) hlen).mono fun e w' hh => ?_
      rcases hh with ⟨_, v, h1, h2, h3, h4⟩ | ⟨hn, _⟩
      · exact ⟨v, h1, ⟨h2, h3⟩, h4⟩
      · exact absurd h hn
    · have hok : S2.okL l false = false := by simp [S2.okL, h]
      have hv : S2.valL l false = [] := by simp [S2.valL, hok]
      rw [hok, hv, behind_no]
      refine eyeStampsC_no w b g l he fun W hW => ?_
      refine (S2.stampsIn_any W b g l false (he.before hW) hlen).mono fun e w' hh => ?_
      rcases hh with ⟨hn, _⟩ | ⟨_, hn⟩
      · exact absurd hn h
      · exact hn
  · have hok : S2.okL l true = false := by simp [S2.okL]
    have hv : S2.valL l true = [] := by simp [S2.valL, hok]
    rw [hok, hv, behind_no]
    exact eyeStampsC_blind w b g l he

/-! ### What an eye's reading leaves as it was -/
theorem ownD_keep {w w' : World} {base b : Nat} {v : Value} {F : List Dp} (h : OwnD w base v F) (hb : b < base) (k : S2.Keeps (S2.Only b) w w') : OwnD w' base v F := by
  obtain ⟨h1, h2 | ⟨g, cap, cur, hv, hg, hh, r⟩⟩ := h
  · exact ⟨h1, .inl h2⟩
  · exact ⟨h1, .inr ⟨g, cap, cur, hv, hg, (k.block g (lt_of_block hh) (fun e => by have e2 : g = b := e; omega)).trans hh, r⟩⟩
theorem sl_keep {w w' : World} {b : Nat} {a : Option Addr} {l : List (Int × Int)} (h : SL w a l) (hb : ∀ p, a = some p → p.block ≠ b) (k : S2.Keeps (S2.Only b) w w') : SL w' a l := by
  intro hne
  obtain ⟨g, o, ha, hg, hl⟩ := h hne
  have hgb : ¬ S2.Only b g := fun e => hb _ ha e
  exact ⟨g, o, ha, Nat.lt_of_lt_of_le hg k.size, fun i x y hi => ⟨k.cell hgb (hl i x y hi).1, k.cell hgb (hl i x y hi).2⟩⟩
theorem hasG_keep {w w' : World} {b : Nat} {v : Value} {F : List Dp} (h : HasG w v F) (hb : ∀ s ∈ F, ∀ p, s.ia = some p → p.block ≠ b) (k : S2.Keeps (S2.Only b) w w') : HasG w' v F :=
  fun s hs => ⟨⟨sl_keep (h s hs).1.1 (hb s hs) k, (h s hs).1.2⟩, (h s hs).2⟩
theorem eye_grown {w w' : World} {b g : Nat} {l : List UInt8} {bl : Bool} {r : Option Nat} (h : S2.EyeAt w b g l bl) (hg : w.grownBy w' r) (h1 : r ≠ some b) (h2 : l ≠ [] → r ≠ some g) : S2.EyeAt w' b g l bl :=
  h.keep (S2.Keeps.grown (S := fun x => r = some x) hg fun _ _ e => e) h1 h2
/-- What Parse comes to. -/
def ParseR (w : World) (B : List UInt8) (e : Ending) (w' : World) : Prop := ∃ a c l, e = .returned (.tuple #[.slice a l.length c, .int .i64 (if (parseD B).isSome = true then 0 else 60)]) ∧ toD l = (parseD B).getD [] ∧ Dl w' a l ∧ (a = none → c = 0) ∧ l.length ≤ c ∧ Below w.heap.size w w'
theorem parse_none_ret {w w' : World} {B : List UInt8} (h : parseD B = none) (hb : Below w.heap.size w w') : ParseR w B (.returned (.tuple #[.slice none 0 0, .int .i64 60])) w' :=
  ⟨none, 0, [], by rw [h]; rfl, by rw [h]; rfl, Dl.nil _ _, fun _ => rfl, Nat.le_refl _, hb⟩
theorem parse_is {B : List UInt8} {n : Nat} {N : Int} (hN : S2.valI B false = N) (hn : N.toNat = n) (h0 : ¬ N < 0) (h8 : ¬ 8 < N) :
    parseD B = if S2.doneN (manyD n (r1 B false) (!S2.okI B false)).2.1 (manyD n (r1 B false) (!S2.okI B false)).2.2 = 0 ∧ checkD (manyD n (r1 B false) (!S2.okI B false)).1 = 0 then some (manyD n (r1 B false) (!S2.okI B false)).1 else none := by
  subst hn
  subst hN
  unfold parseD
  rw [if_neg (by omega)]
theorem nil_of_le {α : Type} {a b : List α} (h : a.length ≤ b.length) (e : b = []) : a = [] := List.eq_nil_of_length_eq_zero (by rw [e] at h; simpa using h)
theorem idsN_le8 {d : Dd} {m : Nat} (h : ∀ x ∈ d, x.2.length ≤ m) : idsN d ≤ d.length * m := by
  induction d with
  | nil => simp [idsN]
  | cons x r ih =>
    rw [idsN_cons, List.length_cons, Nat.add_mul, Nat.one_mul]
    have h1 := h x (by simp)
    have h2 := ih fun y hy => h y (by simp [hy])
    omega

set_option maxRecDepth 100000 in
set_option maxHeartbeats 4000000 in
theorem parse_any (gv : Nat) (av : Option Addr) (nv cv : Nat) (B : List UInt8) (w : World) (hB : S2.Bw w gv (.slice av nv cv) B) (hlen : B.length ≤ 100000) :
    Calls Tryz.prog 24 #[.slice av nv cv] w (ParseR w B) := by
  have HBS := Lib.hid hB
  clear hB
  generalize hN : S2.valI B false = N
  have HNV := Lib.hid hN
  have HPI : Hid (∀ (h0 : ¬ N < 0) (h8 : ¬ 8 < N), parseD B = _) := fun h0 h8 => parse_is HNV.out rfl h0 h8
  have HLOW : Hid (N < 0 ∨ 8 < N → parseD B = none) := fun h => by unfold parseD; rw [HNV.out, if_pos h]
  clear hN
  go_enter Tryz.func24, Tryz.ntmps24
  go_wp2_with fail
  refine (S2.open_w _ gv _ B HBS.out (by omega)).mono ?_
  rintro e w1 ⟨b, g, rfl, he, hb1, hg1, hbel⟩
  have HE1 := Lib.hid he
  have HB1 := Lib.hid hbel
  have HBG : Hid (w.heap.size ≤ b ∧ b < w1.heap.size ∧ (B ≠ [] → w.heap.size ≤ g ∧ g < w1.heap.size)) := ⟨hb1, he.lt, fun h => ⟨hg1 h, he.lt2 h⟩⟩
  clear he hb1 hg1 hbel
  go_wp2_with fail
  refine (S2.eyeInt_any w1 b g B false HE1.out).mono ?_
  rintro e w2 ⟨rfl, he2, hk2⟩
  rw [HNV.out]
  have HE2 : Hid (S2.EyeAt w2 b g (r1 B false) (!S2.okI B false)) := he2
  have HB2 : Hid (Below w.heap.size w w2) := HB1.out.trans (hk2.below HB1.out.size fun x hx e => by have e2 : x = b := e; have := HBG.out.1; omega)
  have HS2 := Lib.hid hk2.size
  clear he2 hk2 HE1 HB1
  by_cases h0 : N < 0
  · have hd0 : decide (N < 0) = true := decide_eq_true h0
    have HPN := Lib.hid (HLOW.out (.inl h0))
    go_wp2
    go_ret2
    exact parse_none_ret HPN.out HB2.out
  · have hd0 : decide (N < 0) = false := decide_eq_false h0
    by_cases h8 : 8 < N
    · have hd8 : decide (8 < N) = true := decide_eq_true h8
      have HPN := Lib.hid (HLOW.out (.inr h8))
      go_wp2
      go_ret2
      exact parse_none_ret HPN.out HB2.out
    · have hd8 : decide (8 < N) = false := decide_eq_false h8
      have HP := Lib.hid (HPI.out (by omega) (by omega))
      obtain ⟨n, rfl⟩ : ∃ n : Nat, N = (n : Int) := ⟨N.toNat, by omega⟩
      have hn8 : n ≤ 8 := by omega
      have hnl : Hid ((r1 B false).length ≤ 100000) := Nat.le_trans (r1_len B false) hlen
      have HBG2 : Hid (w.heap.size ≤ b ∧ b < w1.heap.size ∧ (r1 B false ≠ [] → w.heap.size ≤ g ∧ g < w1.heap.size)) := ⟨HBG.out.1, HBG.out.2.1, fun h => HBG.out.2.2 (fun e => h (nil_of_le (r1_len B false) e))⟩
      rw [Int.toNat_natCast] at HP
      generalize r1 B false = R at *
      generalize (!S2.okI B false) = bl0 at *
      clear HPI HLOW HNV HBG
      go_wp2
      go_loopw [6, 19] (fun v i wr => ∃ (k : Nat) (F : List Dp), k ≤ n ∧ i = .int .i64 k ∧ toD F = (manyD k R bl0).1 ∧ OwnD wr w1.heap.size v F ∧ HasG wr v F ∧ (∀ s ∈ F, ∀ p, s.ia = some p → p.block ≠ b) ∧ S2.EyeAt wr b g (manyD k R bl0).2.1 (manyD k R bl0).2.2 ∧ w1.heap.size ≤ wr.heap.size ∧ Below w.heap.size w wr) (fun _ i _ => n - (intOf i).toNat)
      case atStart => exact ⟨0, [], Nat.zero_le _, rfl, rfl, OwnD.nil _ _, HasG.nil _ _, fun s hs => (by cases hs), HE2.out, HS2.out, HB2.out⟩
      case round =>
        clear HE2 HB2 HS2
        obtain ⟨k, F, hk, rfl, hF, ho, hg, hq, he, hs, hb⟩ := hrel
        have HB := Lib.hid hb
        have HO := Lib.hid ho
        have HG := Lib.hid hg
        have HQ := Lib.hid hq
        have HE := Lib.hid he
        have HS := Lib.hid hs
        have HFE := Lib.hid hF
        obtain ⟨av2, cv2, rfl, _⟩ := ho.row
        have HML := Lib.hid (many_len k R bl0)
        have HFN : Hid (F.length = k) := by
          have h := congrArg List.length hF
          rw [toD_length, (many_len k R bl0).1] at h
          exact h
        clear hb ho hg hq he hs hF
        by_cases hlt : k < n
        · have hk1 : (k : Int) < (n : Int) := by omega
          have hk0 : (0 : Int) ≤ (k : Int) := by omega
          have hdk : decide ((k : Int) < (n : Int)) = true := decide_eq_true hk1
          have HMS : Hid (manyD (k + 1) R bl0 = ((manyD k R bl0).1 ++ [one1 (manyD k R bl0).2.1 (manyD k R bl0).2.2], rest1 (manyD k R bl0).2.1 (manyD k R bl0).2.2, dim1 (manyD k R bl0).2.1 (manyD k R bl0).2.2)) := rfl
          have HRL : Hid ((manyD k R bl0).2.1.length ≤ 100000) := Nat.le_trans HML.out.2.1 hnl.out
          have HRN : Hid ((manyD k R bl0).2.1 ≠ [] → R ≠ []) := fun h e => h (nil_of_le HML.out.2.1 e)
          generalize (manyD k R bl0).2.1 = rr at *
          generalize (manyD k R bl0).2.2 = bb at *
          go_wp2_with (first
            | (go_at_call 52; go_must (refine (S2.eyeInt_any wr b g rr bb HE.out).mono ?_; rintro e w5 ⟨rfl, he5, hk5⟩; have HE5 : Hid (S2.EyeAt w5 b g (r1 rr bb) (!S2.okI rr bb)) := he5; have HK5 := Lib.hid hk5; clear he5 hk5))
            | (go_at_call 53; go_must (refine (eyeStampsC_any w5 b g (r1 rr bb) (!S2.okI rr bb) HE5.out (Nat.le_trans (r1_len _ _) (Nat.le_trans HRL.out (by decide)))).mono ?_; rintro e w6 ⟨xa, xc, rfl, h1, h2, h3, h4, h5, he6, hk6⟩; have HE6 : Hid (S2.EyeAt w6 b g (rest1 rr bb) (dim1 rr bb)) := he6; have hkk := HK5.out.then hk6; have HKK := Lib.hid hkk; have HM1 := Lib.hid h1; have HM2 := Lib.hid h2; have HM3 := Lib.hid h3; have HM5 := Lib.hid h5; have HO6 := Lib.hid (ownD_keep HO.out HBG2.out.2.1 hkk); have HG6 := Lib.hid (hasG_keep HG.out HQ.out hkk); have HMV := Lib.hid (apart_g HO.out h1 h4 HK5.out.size); have HB6 : Hid (Below w.heap.size w w6) := HB.out.trans (hkk.below HB.out.size fun x hx e => by have e2 : x = b := e; have := HBG2.out.1; omega); have HS6 := Lib.hid (Nat.le_trans HS.out hkk.size); clear h1 h2 h3 h4 h5 he6 hk6 hkk))
            | (at_builtin; go_must (refine append_dp1 rfl (.tmp 23) (.tmp 28) rfl w1.heap.size (v := .slice av2 F.length cv2) (d := F) (ad := ⟨w6.heap.size, 0, none⟩) (cap := 1) (m := ⟨S2.valI rr bb, xa, xc, S2.valL (r1 rr bb) (!S2.okI rr bb)⟩) rfl rfl (HO6.out.later (blAlloc (Below.refl _ _) _)) (dp_one (w0 := w6) rfl rfl) (by have := HFN.out; omega) (by have := HS6.out; simp; omega) ?_; intro v' w' h1 h2 h3; have HO7 := Lib.hid h1; have HG7 := Lib.hid ((HG6.out.later (blAlloc (Below.refl _ _) _)).push (m := ⟨S2.valI rr bb, xa, xc, S2.valL (r1 rr bb) (!S2.okI rr bb)⟩) (show IdsAt _ _ from ⟨HM1.out.later (blAlloc (Below.refl _ _) _), HM2.out, HM3.out⟩) HMV.out h2 h3); have HB7 := Lib.hid (grown_belowD (x := w) (B := w.heap.size) (blAlloc HB6.out _) ((HO6.out.later (blAlloc (Below.refl _ _) _)).mono (Nat.le_trans HBG2.out.1 (Nat.le_of_lt HBG2.out.2.1))) (Nat.le_refl _) (by have := HB6.out.size; simp; omega) h2); have HE7 := Lib.hid (eye_grown (HE6.out.before (S2.kAlloc (S2.Keeps.refl _ _) _)) h2 (fun e => by have := (HO6.out.block b e).1; have := HBG2.out.2.1; omega) (fun hne e => by have := (HO6.out.block g e).1; have := (HBG2.out.2.2 (HRN.out (fun e2 => hne (nil_of_le (rest1_len rr bb) e2)))).2; omega)); have HS7 : Hid (w1.heap.size ≤ w'.heap.size) := Nat.le_trans HS6.out (Nat.le_trans (by simp) h2.size); have HQ7 : Hid (∀ s ∈ F ++ [⟨S2.valI rr bb, xa, xc, S2.valL (r1 rr bb) (!S2.okI rr bb)⟩], ∀ p, s.ia = some p → p.block ≠ b) := (by intro s hs p hp; rcases List.mem_append.1 hs with hs | hs; exact HQ.out s hs p hp; rw [List.mem_singleton] at hs; subst hs; have := HM5.out p hp; have := HS.out; have := HK5.out.size; have := HBG2.out.2.1; omega); clear h1 h2 h3)))
          go_roundw
          case rel => exact ⟨k + 1, _, hlt, by go_num, by rw [HMS.out]; show _ = (manyD k R bl0).1 ++ [one1 rr bb]; rw [← HFE.out]; unfold toD; rw [List.map_append]; rfl, HO7.out, HG7.out, HQ7.out, by rw [HMS.out]; exact HE7.out, HS7.out, HB7.out⟩
          case measure => simp [intOf]; omega
        · have hge : ¬ (k : Int) < (n : Int) := by omega
          have hdk : decide ((k : Int) < (n : Int)) = false := decide_eq_false hge
          obtain rfl : k = n := by omega
          have HFW : Hid (FewD F ∧ idsN (toD F) ≤ 1000000) := by
            have h3 : ∀ x ∈ toD F, x.2.length ≤ 100000 := fun x hx => Nat.le_trans (HML.out.2.2 x (by rw [← HFE.out]; exact hx)) hnl.out
            refine ⟨⟨by have := HFN.out; omega, fun s hs => Nat.le_trans (h3 s.d (List.mem_map.2 ⟨s, hs, rfl⟩)) (by decide)⟩, ?_⟩
            have := idsN_le8 h3
            rw [toD_length, HFN.out] at this
            omega
          have HDL : Hid (Dl wr av2 F) := by
            obtain ⟨a2, c2, hv, h1, h2, h3⟩ := HO.out.dl fun s hs => (HG.out s hs).1
            obtain ⟨rfl, _⟩ := Value.slice.inj hv
            exact h3
          have HZ : Hid ((av2 = none → cv2 = 0) ∧ F.length ≤ cv2) := by
            obtain ⟨a2, c2, hv, h1, h2, h3⟩ := HO.out.row
            obtain ⟨rfl, _, rfl⟩ := Value.slice.inj hv
            exact ⟨h1, h2⟩
          rw [← HFE.out] at HP
          generalize (manyD k R bl0).2.1 = rr at *
          generalize (manyD k R bl0).2.2 = bb at *
          by_cases hdn : S2.doneN rr bb = 0
          · rw [hdn] at HP
            by_cases hck : checkD (toD F) = 0
            · have HPS : Hid (parseD B = some (toD F)) := HP.out.trans (if_pos ⟨rfl, hck⟩)
              go_wp2_with (first
                | (go_at_call 54; go_must (refine (S2.done_any wr b g rr bb HE.out).mono ?_; rintro e w5 ⟨rfl, rfl⟩; rw [hdn]))
                | (go_at_call 27; go_must (refine (pcheck_any av2 cv2 F _ HFW.out.1 HFW.out.2 HDL.out).mono ?_; rintro e w6 ⟨rfl, h5⟩; rw [hck]; have HB6 := Lib.hid h5; clear h5)))
              go_ret2
              exact ⟨av2, cv2, F, by rw [HPS.out]; rfl, by rw [HPS.out]; rfl, HDL.out.later HB6.out, HZ.out.1, HZ.out.2, blThen HB.out HB6.out⟩
            · have HPN : Hid (parseD B = none) := HP.out.trans (if_neg fun h => hck h.2)
              have hck2 : ((checkD (toD F) == 0) = false) := by simpa using hck
              go_wp2_with (first
                | (go_at_call 54; go_must (refine (S2.done_any wr b g rr bb HE.out).mono ?_; rintro e w5 ⟨rfl, rfl⟩; rw [hdn]))
                | (go_at_call 27; go_must (refine (pcheck_any av2 cv2 F _ HFW.out.1 HFW.out.2 HDL.out).mono ?_; rintro e w6 ⟨rfl, h5⟩; have HB6 := Lib.hid h5; clear h5)))
              go_ret2
              exact parse_none_ret HPN.out (blThen HB.out HB6.out)
          · have HPN : Hid (parseD B = none) := HP.out.trans (if_neg fun h => hdn h.1)
            have hdn2 : ((S2.doneN rr bb == 0) = false) := by simpa using hdn
            go_wp2_with (go_at_call 54; go_must (refine (S2.done_any wr b g rr bb HE.out).mono ?_; rintro e w5 ⟨rfl, rfl⟩))
            go_ret2
            exact parse_none_ret HPN.out HB.out

end SD
end Go.Proofs.YthgbioajmdbbbaaGreat
