/- A list of acts that came in. Conditions: none. -/
import Derived.Deep.RegionHeld3
import Derived.WalkSpells
import Derived.Deep.QuietTactic
import Derived.BigQuiet
import Derived.SizedLaws
import Derived.Deep.CutBlock
import Derived.Deep.DeepCutAuto
import Derived.Test.YtgipkikedacmdaaGreatMg48
import Derived.Test.YtgipkikedacmdaaGreatMg49
import Derived.Test.YtgipkikedacmdaaGreatMg50
import Derived.Test.YtgipkikedacmdaaGreatMg39
import Derived.Test.YtgipkikedacmdaaGreatMg21
import Derived.Test.YtgipkikedacmdaaGreatMg09
import Derived.Test.YtgipkikedacmdaaGreatMg47
import Derived.Test.YtgipkikedacmdaaGreatMg41
import Derived.Test.YtgipkikedacmdaaGreatMg20
import Derived.Test.YtgipkikedacmdaaGreatMg00
import Derived.Test.YtgipkikedacmdaaGreatMg36
import Derived.Test.YtgipkikedacmdaaGreatMg38
import Derived.Test.YtgipkikedacmdaaGreatMg11
set_option maxRecDepth 100000
set_option maxHeartbeats 16000000
set_option linter.unusedVariables false
set_option linter.unusedSimpArgs false
namespace Go.Proofs.YtgipkikedacmdaaGreat
open S3 SN SP
namespace SC
open Go.ChangeShapes Go.WideShapes Go.ChangeAt Go.RowKit Go.Joins Go.Deep
theorem st_fl1 (x : Int × Int) : [x].flatMap S2.st = S2.st x := by simp
theorem sl_pen1 (w : World) (x y : Int) (b : Nat) (hb : b = w.heap.size) (W : World) (hW : W.heap = (w.alloc (.cells #[.int .i64 x, .int .i64 y] 23)).heap) : S2.SL W b (some ⟨b, 0, none⟩) [(x, y)] := by
 subst hb
 have h : W.heap[w.heap.size]? = some (.cells #[.int .i64 x, .int .i64 y] 23 (0, 0)) := by rw [hW]; exact new_blockC w _ _
 intro _
 refine ⟨0, rfl, fun j a c hz => ?_⟩
 match j, hz with
 | 0, hz => simp only [List.getElem?_cons_zero, Option.some.injEq, Prod.mk.injEq] at hz; obtain ⟨rfl, rfl⟩ := hz; exact ⟨cell_row h 0 _ rfl, cell_row h 1 _ rfl⟩
 | n + 1, hz => simp at hz
theorem layD_le {d : SD.Dd} (h : FewV d) : (SD.layD d).length ≤ 2000000 := by
 have h1 := SD.layD_len d
 have h2 := SD.layF_len d
 have := h.1
 have := h.2
 omega
theorem pV_any (b : Nat) (r : Option Nat) (B : List UInt8) (v : Vlu) (vd : Value) (w0 w : World) (hp : S2.PenAt w b r B) (hlen : B.length ≤ 100000000) (hd : DlV w0 vd v.2.2) (hf : FewV v.2.2) (hbel : Below w0.heap.size w0 w) (hb0 : w0.heap.size ≤ b) (hr0 : ∀ k, r = some k → w0.heap.size ≤ k) :
  Calls Tryz.prog 71 #[.pointer (some ⟨b, 0, none⟩), vlV v vd] w (S2.Laid w b r (B ++ cV.lay v)) := by
 obtain ⟨gone, ⟨t1, t2⟩, deps⟩ := v
 obtain ⟨da, dc, dF, rfl, h1, h2, h3⟩ := hd
 simp only at h2 hf
 subst h2
 have HFW := hH (few_v rfl hf)
 have HFD := hH hf
 have HD := hH h1
 unfold vlV
 simp only
 have HP0 : Hid (S2.PenAt (w.alloc (.cells #[.bool gone, .int .i64 t1, .int .i64 t2, .slice da dF.length dc] 27)) b r B) := hH (hp.before (S2.kAlloc (S2.Keeps.refl (fun _ => False) w) _))
 have HS0 : Hid (S2.PenStep b r r w (w.alloc (.cells #[.bool gone, .int .i64 t1, .int .i64 t2, .slice da dF.length dc] 27))) := hH (stepAlloc (S2.PenStep.refl b r w) _)
 have HX0 : Hid (¬ S2.PenS b r w.heap.size) := hp.apart (Nat.le_refl _)
 have HK0 : Hid ((w.alloc (.cells #[.bool gone, .int .i64 t1, .int .i64 t2, .slice da dF.length dc] 27)).heap[w.heap.size]? = some (.cells #[.bool gone, .int .i64 t1, .int .i64 t2, .slice da dF.length dc] 27 (0, 0))) := hH (new_blockC w _ _)
 have HZ0 : Hid (w.heap.size < (w.alloc (.cells #[.bool gone, .int .i64 t1, .int .i64 t2, .slice da dF.length dc] 27)).heap.size) := hH (by simp)
 have HB0 : Hid (Below w0.heap.size w0 (w.alloc (.cells #[.bool gone, .int .i64 t1, .int .i64 t2, .slice da dF.length dc] 27))) := hH (hbel.trans ((blAlloc (Below.refl _ _) _ : Below w.heap.size w _).mono hbel.size))
 have HBB := hH hb0
 have HR0 := hH hr0
 have HL0 : Hid (B.length ≤ 100000000) := hH hlen
 clear hp hlen hbel hb0 hr0 hf h1 h3
 go_enter Tryz.func71, Tryz.ntmps71
 have c0_0 := cell_row HK0.out 0 _ rfl
 go_wp2_with fail
 go_region_held3 (fun Y => Y.cell? ⟨w.heap.size, 0, none⟩ = some (.bool gone)) (first | exact c0_1 | exact c0_0 | exact S2.alloc_cell c0_0 _) (first | (go_at_call 69; go_must (refine (S2.bool_any _ b r B gone (HP0.out.before (S2.kDrew (S2.Keeps.refl _ _))) (by have := HL0.out; omega)).mono ?_; intro e w1 h; unfold S2.Laid at h; obtain ⟨rfl, r1, hp1, hs1⟩ := h; have hs6 := hs1.before (w := (w.alloc (.cells #[.bool gone, .int .i64 t1, .int .i64 t2, .slice da dF.length dc] 27))) (S2.kDrew (S2.Keeps.refl _ _)); obtain ⟨G1, hG⟩ : ∃ g, g = B ++ S2.tb gone := ⟨_, rfl⟩; rw [← hG] at hp1; have HE1 := hH hG; have HL1 : Hid (G1.length ≤ 100000001) := hH (show G1.length ≤ 100000001 from by have z1 := HL0.out; have z2 := bool_len gone; rw [hG]; simp only [List.length_append]; omega); have HP1 := hH hp1; have HK1 := hH ((hs6.keeps.block w.heap.size HZ0.out HX0.out).trans HK0.out); have HX1 := hH (hs6.free HX0.out HZ0.out); have HZ1 : Hid (w.heap.size < w1.heap.size) := hH (Nat.lt_of_lt_of_le HZ0.out hs6.keeps.size); have hpb := pen_belowP (B := w0.heap.size) hs6 HB0.out.size HBB.out HR0.out; have HB1 : Hid (Below w0.heap.size w0 w1) := hH (HB0.out.trans hpb.1); have HR1 := hH hpb.2; clear hpb; have HS1 := hH (HS0.out.trans hs6); have c0_1 := cell_row HK1.out 0 _ rfl; clear hp1 hs1 hs6 hG)))
 clear c0_0 c0_1
 have c1_1 := cell_row HK1.out 1 _ rfl
 have c2_1 := cell_row HK1.out 2 _ rfl
 go_wp2_with fail
 go_region_held3 (fun Y => Y.cell? ⟨w.heap.size, 1, none⟩ = some (.int .i64 t1) ∧ Y.cell? ⟨w.heap.size, 2, none⟩ = some (.int .i64 t2)) (first | exact ⟨c1_2, c2_2⟩ | exact ⟨c1_1, c2_1⟩ | exact ⟨S2.alloc_cell c1_1 _, S2.alloc_cell c2_1 _⟩) (first | (go_at_call 66; go_must (refine (S2.stamp_any _ b r1 G1 w1.heap.size _ 1 [(t1, t2)] (HP1.out.before (S2.kDrew (S2.kAlloc (S2.Keeps.refl _ _) _))) (sl_pen1 w1 t1 t2 _ rfl _ rfl) (HP1.out.apart (Nat.le_refl _)) (by have := HL1.out; simp only [List.length_cons, List.length_nil]; omega)).mono ?_; rw [st_fl1]; intro e w2 h; unfold S2.Laid at h; obtain ⟨rfl, r2, hp1, hs1⟩ := h; have hs6 := hs1.before (w := w1) (S2.kDrew (S2.kAlloc (S2.Keeps.refl _ _) _)); obtain ⟨G2, hG⟩ : ∃ g, g = G1 ++ S2.st (t1, t2) := ⟨_, rfl⟩; rw [← hG] at hp1; have HE2 := hH hG; have HL2 : Hid (G2.length ≤ 100000017) := hH (show G2.length ≤ 100000017 from by have z1 := HL1.out; have z2 := S2.st_length (t1, t2); rw [hG]; simp only [List.length_append]; omega); have HP2 := hH hp1; have HK2 := hH ((hs6.keeps.block w.heap.size HZ1.out HX1.out).trans HK1.out); have hpb := pen_belowP (B := w0.heap.size) hs6 HB1.out.size HBB.out HR1.out; have HB2 : Hid (Below w0.heap.size w0 w2) := hH (HB1.out.trans hpb.1); have HR2 := hH hpb.2; clear hpb; have HS2 := hH (HS1.out.trans hs6); have c1_2 := cell_row HK2.out 1 _ rfl; have c2_2 := cell_row HK2.out 2 _ rfl; clear hp1 hs1 hs6 hG)))
 clear c1_1 c1_2 c2_1 c2_2
 go_wp2_with (first | go_skip | ((with_reducible refine atC w2 ?_); go_at_call 70; go_must (refine (SD.pdeps_any b r2 G2 da dc dF w0 w2 HP2.out (by have := HL2.out; omega) HFW.out.1 HFW.out.2 HD.out HB2.out HBB.out HR2.out).mono ?_; intro e w3 h; unfold S2.Laid at h; obtain ⟨rfl, r3, hp1, hs1⟩ := h; have hs6 := hs1; obtain ⟨G3, hG⟩ : ∃ g, g = G2 ++ SD.layD (SD.toD dF) := ⟨_, rfl⟩; rw [← hG] at hp1; have HE3 := hH hG; have HP3 := hH hp1; have hpb := pen_belowP (B := w0.heap.size) hs6 HB2.out.size HBB.out HR2.out; clear hpb; have HS3 := hH (HS2.out.trans hs6); clear hp1 hs1 hs6 hG)) | (with_reducible refine atW w2 ?_; refine wpList_load_one _ _ rfl rfl _ 3 rfl HK2.out Tryz.underlying25 rfl rfl ?_))
 go_end0
 refine ⟨rfl, r3, ?_, HS3.out⟩
 have h := HP3.out
 rw [HE3.out, HE2.out, HE1.out] at h
 have e : B ++ S2.tb gone ++ S2.st (t1, t2) ++ SD.layD (SD.toD dF) = B ++ cV.lay (gone, (t1, t2), SD.toD dF) := by
  show _ = B ++ (S2.tb gone ++ (S2.st (t1, t2) ++ cDs.lay (SD.toD dF)))
  rw [show cDs.lay (SD.toD dF) = SD.layD (SD.toD dF) from SD.cD_layD _]
  simp only [List.append_assoc]
 rw [← e]
 exact h

theorem ownG_kp {α : Type} {E : Enc α} {T : TypeId} {w w' : World} {base : Nat} {v : Value} {F : List α} (h : OwnG E T w base v F) (k : S2.Keeps (fun x => x < base) w w') : OwnG E T w' base v F := by
 obtain ⟨h1, h2 | ⟨g, cap, cur, rfl, hg, hh, rest⟩⟩ := h
 ·exact ⟨h1, .inl h2⟩
 ·exact ⟨h1, .inr ⟨g, cap, cur, rfl, hg, (k.block g (lt_of_block hh) (by omega)).trans hh, rest⟩⟩
def DlO (B : Nat) (w : World) (v : Value) (d : SD.Dd) : Prop := ∃ a cap F, v = .slice a F.length cap ∧ SD.Dl w a F ∧ SD.toD F = d ∧ (a = none → cap = 0) ∧ (∀ b o, a = some ⟨b, o, none⟩ → B ≤ b) ∧ ∀ s ∈ F, ∀ b o, s.ia = some ⟨b, o, none⟩ → B ≤ b
theorem DlO.dl {B : Nat} {w : World} {v : Value} {d : SD.Dd} (h : DlO B w v d) : DlV w v d := by
 obtain ⟨a, cap, F, h1, h2, h3, h4, _⟩ := h
 exact ⟨a, cap, F, h1, h2, h3, h4⟩
theorem DlO.form {B : Nat} {w : World} {v : Value} {d : SD.Dd} (h : DlO B w v d) : ∃ a n c, v = .slice a n c := by
 obtain ⟨a, cap, F, h1, _⟩ := h
 exact ⟨a, _, cap, h1⟩
theorem DlO.mono {B C : Nat} {w : World} {v : Value} {d : SD.Dd} (h : DlO B w v d) (hc : C ≤ B) : DlO C w v d := by
 obtain ⟨a, cap, F, h1, h2, h3, h4, h5, h6⟩ := h
 exact ⟨a, cap, F, h1, h2, h3, h4, fun b o e => Nat.le_trans hc (h5 b o e), fun s hs b o e => Nat.le_trans hc (h6 s hs b o e)⟩
theorem dl_kp {w w' : World} {a : Option Addr} {l : List SD.Dp} {B : Nat} (h : SD.Dl w a l) (ha : ∀ b o, a = some ⟨b, o, none⟩ → B ≤ b) (hi : ∀ s ∈ l, ∀ b o, s.ia = some ⟨b, o, none⟩ → B ≤ b) (k : S2.Keeps (fun x => x < B) w w') : SD.Dl w' a l := by
 have cl : ∀ (b o : Nat) (v : Value), B ≤ b → w.cell? ⟨b, o, none⟩ = some v → w'.cell? ⟨b, o, none⟩ = some v := fun b o v h1 h3 => k.cell (by omega) h3
 refine ⟨fun s hs => ⟨fun hne => ?_, (h.1 s hs).2⟩, fun hne => ?_⟩
 ·obtain ⟨b, o, e, hlt, hc⟩ := (h.1 s hs).1 hne
  exact ⟨b, o, e, Nat.lt_of_lt_of_le hlt k.size, fun j x y hj => ⟨cl _ _ _ (hi s hs b o e) (hc j x y hj).1, cl _ _ _ (hi s hs b o e) (hc j x y hj).2⟩⟩
 ·obtain ⟨b, o, e, hlt, hc⟩ := h.2 hne
  exact ⟨b, o, e, Nat.lt_of_lt_of_le hlt k.size, fun j s hj => ⟨cl _ _ _ (ha b o e) (hc j s hj).1, cl _ _ _ (ha b o e) (hc j s hj).2⟩⟩
theorem DlO.kp {B : Nat} {w w' : World} {v : Value} {d : SD.Dd} (h : DlO B w v d) (k : S2.Keeps (fun x => x < B) w w') : DlO B w' v d := by
 obtain ⟨a, cap, F, h1, h2, h3, h4, h5, h6⟩ := h
 exact ⟨a, cap, F, h1, dl_kp h2 h5 h6 k, h3, h4, h5, h6⟩
theorem ownD_base9 {w : World} {base b o n c : Nat} {F : List SD.Dp} (h : SD.OwnD w base (.slice (some ⟨b, o, none⟩) n c) F) : base ≤ b := by
 obtain ⟨h1, ⟨h2, _⟩ | ⟨g, cap, cur, hv, hg, _⟩⟩ := h
 ·cases h2
 ·simp only [Value.slice.injEq, Option.some.injEq, Addr.mk.injEq] at hv
  omega
theorem dlO_of {w' : World} {B : Nat} {v : Value} {F : List SD.Dp} {d : SD.Dd} (hd : SD.toD F = d) (ho : SD.OwnD w' B v F) (hg : SD.HasG w' v F) (hb : ∀ s' ∈ F, ∀ p, s'.ia = some p → B ≤ p.block) : DlO B w' v d := by
 obtain ⟨a, c, hv, h1, _, h3⟩ := ho.dl fun s hs => (hg s hs).1
 exact ⟨a, c, F, hv, h3, hd, h1, fun b o e => by subst e; exact ownD_base9 (hv ▸ ho), fun s hs b o e => hb s hs _ e⟩
structure CmOwn (B : Nat) (W : World) (c : Cm) (l : Pl) : Prop where
 o : OwnG eO 79 W B l.o c.ops
 s : DlO B W l.s c.seen
 d : DlO B W l.d c.val.2.2
 w : OwnG eW 84 W B l.w c.writes
 p : OwnG eP 86 W B l.p c.pairs
theorem CmOwn.at {B : Nat} {w : World} {c : Cm} {l : Pl} (h : CmOwn B w c l) : CmAt w c l := ⟨h.o.sl, h.s.dl, h.d.dl, h.w.sl, h.p.sl⟩
theorem CmOwn.kp {B : Nat} {w w' : World} {c : Cm} {l : Pl} (h : CmOwn B w c l) (k : S2.Keeps (fun x => x < B) w w') : CmOwn B w' c l := ⟨ownG_kp h.o k, h.s.kp k, h.d.kp k, ownG_kp h.w k, ownG_kp h.p k⟩
theorem CmOwn.mono {B C : Nat} {w : World} {c : Cm} {l : Pl} (h : CmOwn B w c l) (hc : C ≤ B) : CmOwn C w c l := ⟨h.o.mono hc, h.s.mono hc, h.d.mono hc, h.w.mono hc, h.p.mono hc⟩
theorem eyeS_store {w w' : World} {s b g R : Nat} {c : Cur} (h : EyeS w s b g c) (hg : w.grownBy w' (some R)) (hs : s < R) (hb : b < R) (hgg : c.1 ≠ [] → g < R) : EyeS w' s b g c :=
 h.grown hg (fun k e => by
  cases e
  exact .inr ⟨by omega, by omega, fun hne => by have := hgg hne; omega⟩)
theorem nil_of9 {α : Type} {a b : List α} (h : a.length ≤ b.length) (e : b = []) : a = [] := List.eq_nil_of_length_eq_zero (by rw [e] at h; simpa using h)
theorem both_lt {w w' : World} {s b B : Nat} (k : S2.Keeps (Both s b) w w') (hs : s < B) (hb : b < B) : S2.Keeps (fun x => x < B) w w' := k.mono fun x _ e => by rcases e with rfl | rfl <;> omega
theorem grown_lt {w w' : World} {R B : Nat} (h : w.grownBy w' (some R)) (hR : R < B) : S2.Keeps (fun x => x < B) w w' := S2.Keeps.grown h fun k _ e => by cases e; exact hR
def SeeV (w : World) (s b g : Nat) (c : Cur) (e : Ending) (w' : World) : Prop := ∃ vd, e = .returned (vlV (cV.val c) vd) ∧ DlO w.heap.size w' vd (cV.val c).2.2 ∧ EyeS w' s b g (cV.fin c) ∧ S2.Keeps (Both s b) w w'
theorem cDl_ok : SD.cD.list.Ok := Cod.list_ok SD.cD_ok SD.cD_pos
theorem cWl_ok : cW.list.Ok := Cod.list_ok cW_ok cW_pos
theorem cPl_ok : cP.list.Ok := Cod.list_ok cP_ok cP_pos

theorem szVal : (Tryz.prog.info? 27).map (·.size) = some 4 := by kernel_rfl
theorem sV_any {w : World} {s b g : Nat} {c : Cur} (he : EyeS w s b g c) (hlen : c.1.length ≤ 1000000) : Calls Tryz.prog 127 #[.pointer (some ⟨s, 0, none⟩)] w (SeeV w s b g c) := by
 have HLT := hH he.lt
 have HLN := hH hlen
 have HL0 : Hid (c.1.length ≤ c.1.length) := hH (Nat.le_refl _)
 have HN := hH (fun i o (h : ([(.cells #[.bool false, .int .i64 0, .int .i64 0, .slice none 0 0] 27)] : List Obj)[i]? = some o) => nth_box w [(.cells #[.bool false, .int .i64 0, .int .i64 0, .slice none 0 0] 27)] i o h)
 have hw0 : (w.heap.size + 1) ≤ (w.alloc (.cells #[.bool false, .int .i64 0, .int .i64 0, .slice none 0 0] 27)).heap.size := Nat.le_of_eq (HN.out 0 _ rfl).2
 have Kr0 : Hid ((w.alloc (.cells #[.bool false, .int .i64 0, .int .i64 0, .slice none 0 0] 27)).heap[w.heap.size]? = some (.cells #[.bool false, .int .i64 0, .int .i64 0, .slice none 0 0] 27 (0, 0))) := hH (HN.out 0 _ rfl).1
 have HE0 : Hid (EyeS (w.alloc (.cells #[.bool false, .int .i64 0, .int .i64 0, .slice none 0 0] 27)) s b g c) := hH (he.before (S2.kAlloc (S2.Keeps.refl _ _) _))
 have HK0 : Hid (S2.Keeps (Both s b) w (w.alloc (.cells #[.bool false, .int .i64 0, .int .i64 0, .slice none 0 0] 27))) := hH (S2.kAlloc (S2.Keeps.refl _ _) _)
 have p0 := HE0.out.ptr
 clear he hlen HN
 go_enter Tryz.func127, Tryz.ntmps127
 go_upto_region 1 with fail
 generalize (w.alloc (.cells #[.bool false, .int .i64 0, .int .i64 0, .slice none 0 0] 27)) = wz at *
 go_upto_region 3 with (first | go_skip | ((with_reducible refine atC w1 ?_); go_at_call 123; go_must (refine (sstamp_any HE1.out).mono ?_; intro e w2 h; unfold SeeS stV at h; obtain ⟨rfl, he1, hk1⟩ := h; have hk2 := (both_of (s := s) hk1); obtain ⟨c2, hc2⟩ : ∃ x, x = cS.fin c1 := ⟨_, rfl⟩; obtain ⟨v2, hv2⟩ : ∃ x, x = cS.val c1 := ⟨_, rfl⟩; rw [← hc2] at he1; rw [← hv2] at ⊢; have HE2 := hH he1; have p2 := he1.ptr; have HL2 : Hid (c2.1.length ≤ c.1.length) := hH (by rw [hc2]; exact Nat.le_trans (cS_ok.len c1) HL1.out); have HK2 := hH (HK1.out.then hk2); have hw2 := Nat.le_trans hw1 hk2.size; have Kr2 := hH ((hk2.block w.heap.size (by omega) (by have := HLT.out.1; have := HLT.out.2.1; rintro (e | e) <;> omega)).trans Kr1.out); have HC2 := hH hc2; have HV2 := hH hv2; clear hk1 hk2 he1 hc2 hv2)) | ((with_reducible refine atC wz ?_); go_at_call 125; go_must (refine (sbool_any HE0.out).mono ?_; intro e w1 h; unfold SeeS at h; obtain ⟨rfl, he1, hk1⟩ := h; have hk2 := (both_of (s := s) hk1); obtain ⟨c1, hc1⟩ : ∃ x, x = cB.fin c := ⟨_, rfl⟩; obtain ⟨v1, hv1⟩ : ∃ x, x = cB.val c := ⟨_, rfl⟩; rw [← hc1] at he1; rw [← hv1] at ⊢; have HE1 := hH he1; have p1 := he1.ptr; have HL1 : Hid (c1.1.length ≤ c.1.length) := hH (by rw [hc1]; exact Nat.le_trans (cB_ok.len c) HL0.out); have HK1 := hH (HK0.out.then hk2); have hw1 := Nat.le_trans hw0 hk2.size; have Kr1 := hH ((hk2.block w.heap.size (by omega) (by have := HLT.out.1; have := HLT.out.2.1; rintro (e | e) <;> omega)).trans Kr0.out); have HC1 := hH hc1; have HV1 := hH hv1; clear hk1 hk2 he1 hc1 hv1)))
 have hbx := row_box w2 #[.int .i64 v2.1, .int .i64 v2.2] 23
 have HB4 := hH (new_blockC w2 #[.int .i64 v2.1, .int .i64 v2.2] 23)
 have HE9 : Hid (EyeS (w2.alloc (.cells #[.int .i64 v2.1, .int .i64 v2.2] 23)) s b g c2) := hH (HE2.out.before (S2.kAlloc (S2.Keeps.refl _ _) _))
 have HK9 : Hid (S2.Keeps (Both s b) w (w2.alloc (.cells #[.int .i64 v2.1, .int .i64 v2.2] 23))) := hH (S2.kAlloc HK2.out _)
 have hsz9 : w2.heap.size < (w2.alloc (.cells #[.int .i64 v2.1, .int .i64 v2.2] 23)).heap.size := by simp
 have Kr9 : Hid ((w2.alloc (.cells #[.int .i64 v2.1, .int .i64 v2.2] 23)).heap[w.heap.size]? = some (.cells #[.bool false, .int .i64 0, .int .i64 0, .slice none 0 0] 27 (0, 0))) := hH (((blAlloc (Below.refl _ _) _ : Below w2.heap.size w2 (w2.alloc (.cells #[.int .i64 v2.1, .int .i64 v2.2] 23))).block w.heap.size (by omega)).trans Kr2.out)
 clear hbx
 have HGE : Hid (w.heap.size + 1 ≤ w2.heap.size) := hH hw2
 generalize hbk : w2.heap.size = bk at *
 generalize w2.alloc (.cells #[.int .i64 v2.1, .int .i64 v2.2] 23) = w9 at *
 have d0 := cell_row HB4.out 0 _ rfl
 have d1 := cell_row HB4.out 1 _ rfl
 have HSD := hH (SD.sdepsO_any (HE9.out.before (S2.kDrew (S2.Keeps.refl _ _))) (by have := HL2.out; have := HLN.out; omega))
 refine wp_region_held_drew (S := fun Y => Y.cell? ⟨bk, 0, none⟩ = some (.int .i64 v2.1) ∧ Y.cell? ⟨bk, 1, none⟩ = some (.int .i64 v2.2)) (by kernel_rfl) (⟨d0, d1⟩) (fun hHeld => ?_)
 refine wpAnyH_take (i := 0) (oi := ⟨_, _, _, _, _, _⟩) (v := ?_) rfl (by kernel_rfl) (by kernel_rfl) (by kernel_rfl) (fun _ _ _ h => h) (Or.inl ⟨by rfl, ?_⟩) (by assumption) ?_
 rotate_left
 ·intro w hSw
  try dsimp only at hSw
  go_simp
  try with_reducible rfl
 try simp only [Act.put, sA9, sZ9, sS9]
 refine wpAnyH_take (i := 1) (oi := ⟨_, _, _, _, _, _⟩) (v := ?_) rfl (by kernel_rfl) (by kernel_rfl) (by kernel_rfl) (fun _ _ _ h => h) (Or.inl ⟨by rfl, ?_⟩) (by assumption) ?_
 rotate_left
 ·intro w hSw
  try dsimp only at hSw
  go_simp
  try with_reducible rfl
 try simp only [Act.put, sA9, sZ9, sS9]
 refine wpAnyH_take (i := 2) (oi := ⟨_, _, _, _, _, _⟩) (v := ?_) rfl (by kernel_rfl) (by kernel_rfl) (by kernel_rfl) (fun _ _ _ h => h) (Or.inl ⟨by rfl, ?_⟩) (by assumption) ?_
 rotate_left
 ·intro w hSw
  try dsimp only at hSw
  go_simp
  try with_reducible rfl
 try simp only [Act.put, sA9, sZ9, sS9]
 refine wpAnyH_ready (rs := [3]) (by kernel_rfl) (by simp) ?_
 refine AllReadyH.cons (o := ⟨_, _, _, _, _, _⟩) rfl (fun K hK => ?_) ?_
 rotate_left
 ·exact AllReadyH.nil
 go_simp
 go_at_call 126
 refine HSD.out.mono ?_
 intro e wa h
 unfold SD.SeeLDO at h
 obtain ⟨xa, F, rfl, ht1, ho1, hg1, hb1, he1, hk1⟩ := h
 have hda := (hk1.block bk (by have := hsz9; exact this) (by have := HLT.out.1; have := HLT.out.2.1; have := HGE.out; rintro (e | e) <;> omega)).trans HB4.out
 have HDA := hH hda
 have e0 := cell_row hda 0 _ rfl
 have e1 := cell_row hda 1 _ rfl
 have HDO := hH (dlO_of ht1 ho1 hg1 hb1)
 have HEA := hH he1
 have HKA := hH (S2.Keeps.then (S2.kDrew HK9.out) hk1)
 have HKL := hH hk1
 have KrA := hH ((hk1.block w.heap.size (by have := hsz9; have := HGE.out; show _ < w9.heap.size; omega) (by have := HLT.out.1; have := HLT.out.2.1; rintro (e | e) <;> omega)).trans Kr9.out)
 have hszA : w9.heap.size ≤ wa.heap.size := hk1.size
 obtain ⟨a7, c7, rfl⟩ : ∃ a c, xa = .slice a F.length c := (by obtain ⟨a, c, e, _⟩ := ho1.row; exact ⟨a, c, e⟩)
 generalize F.length = fn at *
 clear ht1 ho1 hg1 hb1 he1 hk1 hda
 refine hK.out _ _ (⟨e0, e1⟩) (fun hHeld => ?_)
 clear hK K
 try simp only [Act.put, sA9, sZ9, sS9]
 refine wpAnyH_take (i := 4) (oi := ⟨_, _, _, _, _, _⟩) (v := ?_) rfl (by kernel_rfl) (by kernel_rfl) (by kernel_rfl) (fun _ _ _ h => h) (Or.inl ⟨by rfl, ?_⟩) (by assumption) ?_
 rotate_left
 ·intro w hSw
  try dsimp only at hSw
  go_simp
  try with_reducible rfl
 try simp only [Act.put, sA9, sZ9, sS9]
 refine wpAnyH_ready (rs := [5]) (by kernel_rfl) (by simp) ?_
 refine AllReadyH.cons (o := ⟨_, _, _, _, _, _⟩) rfl (fun K hK => ?_) ?_
 rotate_left
 ·exact AllReadyH.nil
 refine wp_store_part _ _ _ rfl _ 0 rfl rfl (cs := #[.bool v1, .int .i64 v2.1, .int .i64 v2.2, .slice a7 fn c7]) rfl KrA.out (by kernel_rfl) (by simp) (by simp [Value.oneCell']) (D := #[.bool v1, .int .i64 v2.1, .int .i64 v2.2, .slice a7 fn c7]) rfl ?_
 intro wf h1 h2
 have HDF := hH (grown_other9 HDA.out h2 (by omega) (by have := HGE.out; omega))
 have KrF := hH h1
 have HDOF := hH ((HDO.out.mono (show w.heap.size + 1 ≤ _ from by have := HGE.out; show _ ≤ w9.heap.size; omega)).kp (grown_lt h2 (by omega)))
 have HEF := hH (eyeS_store HEA.out h2 (by have := HLT.out.1; omega) (by have := HLT.out.2.1; omega) (fun hne => HLT.out.2.2 (fun e => hne (nil_of9 (Nat.le_trans (cDl_ok.len c2) HL2.out) e))))
 have HKF := hH (keeps_after HKA.out h2 (Nat.le_refl _))
 clear h1 h2
 refine hK.out _ _ (⟨cell_row HDF.out 0 _ rfl, cell_row HDF.out 1 _ rfl⟩) (fun hHeld => ?_)
 clear hK K
 try simp only [Act.put, sA9, sZ9, sS9]
 refine wpAnyH_done (by kernel_rfl) ?_ _
 have EV : cV.val c = (v1, v2, SD.cD.list.val c2) ∧ cV.fin c = SD.cD.list.fin c2 := by
  rw [HV1.out, HV2.out, HC2.out, HC1.out]
  exact ⟨rfl, rfl⟩
 go_wp2
 refine bodyPost_ret (results_cell_row Tryz.results127 _ _ _ 27 _ (0, 0) _ rfl KrF.out Tryz.underlying27 rfl szVal) rfl ?_
 exact ⟨.slice a7 fn c7, by rw [EV.1]; rfl, by rw [EV.1]; exact HDOF.out.mono (by omega), by rw [EV.2]; exact HEF.out, HKF.out⟩

theorem pen_new9 (w : World) (T : TypeId) : S2.PenAt (w.alloc (.cells #[.slice none 0 0] T)) w.heap.size none [] := ⟨_, _, new_blockC w _ T, S2.Row.nil _, by simp⟩
theorem cV_le {v : Vlu} (h : FewV v.2.2) : (cV.lay v).length ≤ 2000017 := by
 show (S2.tb v.1 ++ (S2.st v.2.1 ++ cDs.lay v.2.2)).length ≤ _
 rw [show cDs.lay v.2.2 = SD.layD v.2.2 from SD.cD_layD _]
 have h1 := layD_le h
 have h2 := bool_len v.1
 have h3 := S2.st_length v.2.1
 simp only [List.length_append]
 omega
end SC
end Go.Proofs.YtgipkikedacmdaaGreat

namespace Go.Proofs.YtgipkikedacmdaaGreat
open S3 SC SN SP
namespace SI
open Go.ChangeShapes Go.WideShapes Go.ChangeAt Go.RowKit Go.Joins Go.Deep
theorem slG_nil9 {α : Type} (E : Enc α) (w : World) : SlG E w (.slice none 0 0) [] := by
 exact ⟨none, 0, rfl, fun _ => rfl, fun h => absurd rfl h⟩
theorem dlV_nil9 (w : World) : DlV w (.slice none 0 0) [] := ⟨none, 0, [], rfl, SD.Dl.nil _ _, rfl, fun _ => rfl⟩
def RetM (W0 W : World) (m : Mg) (e : Ending) (w' : World) : Prop := ∃ l, e = .returned (msV m l) ∧ MsAt W0 m l ∧ Below W.heap.size W w'
theorem without_any (m : Mg) (l : PlM) (c : Int) (W0 W : World) (h : MsAt W0 m l) (hc : c = 97 ∨ c = 65 ∨ c = 98 ∨ c = 66 ∨ c = 100 ∨ c = 102 ∨ c = 104 ∨ c = 111 ∨ c = 103 ∨ c = 79 ∨ c = 112 ∨ c = 118 ∨ c = 86 ∨ c = 119) : Calls Tryz.prog 115 #[msV m l, .int .i32 c] W (RetM W0 W (lessM m c)) := by
 have HAT := Lib.hid h
 obtain ⟨oa, oc, da, dc, va, vc, wa, wc, pa, pc, rfl⟩ := ms_form h
 clear h
 obtain ⟨kind, frm, dst, ⟨id1, id2⟩, ⟨b1, b2⟩, ⟨a1, a2⟩, ops, fast, deps, has, ⟨q1, q2⟩, ⟨gone, ⟨t1, t2⟩, vdeps⟩, writes, pairs⟩ := m
 simp only [msV]
 simp only at HAT
 generalize hon : ops.length = on at *
 generalize hdn : deps.length = dn at *
 generalize hvn : vdeps.length = vn at *
 generalize hwn : writes.length = wn at *
 generalize hpn : pairs.length = pn at *
 clear hon hdn hvn hwn hpn
 rcases hc with rfl | rfl | rfl | rfl | rfl | rfl | rfl | rfl | rfl | rfl | rfl | rfl | rfl | rfl
 ·obtain ⟨w0, he0, hw0, kQm, kQr, hb0⟩ := boxes2 W (.cells #[.int .i64 kind, .int .i64 frm, .int .i64 dst, .int .i64 id1, .int .i64 id2, .int .i64 b1, .int .i64 b2, .int .i64 a1, .int .i64 a2, .slice oa on oc, .bool fast, .slice da dn dc, .bool has, .int .i64 q1, .int .i64 q2, .bool gone, .int .i64 t1, .int .i64 t2, .slice va vn vc, .slice wa wn wc, .slice pa pn pc] 61) (.cells #[.int .i64 0, .int .i64 0, .int .i64 0, .int .i64 0, .int .i64 0, .int .i64 0, .int .i64 0, .int .i64 0, .int .i64 0, .slice none 0 0, .bool false, .slice none 0 0, .bool false, .int .i64 0, .int .i64 0, .bool false, .int .i64 0, .int .i64 0, .slice none 0 0, .slice none 0 0, .slice none 0 0] 61)
  have Km0 := Lib.hid kQm
  have Kr0 := Lib.hid kQr
  have HB0 := Lib.hid hb0
  have HE0 := Lib.hid he0
  clear he0 hb0 kQm kQr
  go_enter Tryz.func115, Tryz.ntmps115
  go_upto_region 1 with fail
  rw [← HE0.out]
  go_wp2_with (first | go_skip | ((with_reducible refine atW w1 ?_); refine storeM _ _ rfl (by rfl) _ rfl rfl Kr1.out rfl rfl (by simp [Value.oneCell']) ?_; intro w2 h1 h2; have Kr2 := Lib.hid h1; have hw2 := Nat.le_trans hw1 h2.size; have HB2 : Hid (Below W.heap.size W w2) := Lib.hid (below_grown9 HB1.out h2 (by omega)); have Km2 := Lib.hid (grown_other9 Km1.out h2 (by omega) (by omega)); clear h1 h2) | ((with_reducible refine atW w1 ?_); refine loadM _ rfl (by rfl) _ rfl Km1.out rfl ?_) | ((with_reducible refine atW w0 ?_); refine wpList_store_part _ _ _ rfl (by rfl) _ 7 rfl rfl (cs := #[.int .i64 0, .int .i64 0]) rfl Km0.out (by kernel_rfl) (by simp) (by simp [Value.oneCell']) (D := #[.int .i64 kind, .int .i64 frm, .int .i64 dst, .int .i64 id1, .int .i64 id2, .int .i64 b1, .int .i64 b2, .int .i64 0, .int .i64 0, .slice oa on oc, .bool fast, .slice da dn dc, .bool has, .int .i64 q1, .int .i64 q2, .bool gone, .int .i64 t1, .int .i64 t2, .slice va vn vc, .slice wa wn wc, .slice pa pn pc]) rfl ?_; intro w1 h1 h2; have Km1 := Lib.hid h1; have hw1 := Nat.le_trans hw0 h2.size; have HB1 : Hid (Below W.heap.size W w1) := Lib.hid (below_grown9 HB0.out h2 (by omega)); have Kr1 := Lib.hid (grown_other9 Kr0.out h2 (by omega) (by omega)); clear h1 h2))
  refine bodyPost_ret (results_cell_row Tryz.results115 _ _ _ 61 _ (0, 0) _ rfl Kr2.out Tryz.underlying61 rfl szMsg) rfl ?_
  exact ⟨⟨.slice oa on oc, .slice da dn dc, .slice va vn vc, .slice wa wn wc, .slice pa pn pc⟩, rfl, ⟨HAT.out.o, HAT.out.d, HAT.out.v, HAT.out.w, HAT.out.p⟩, HB2.out⟩
 ·obtain ⟨w0, he0, hw0, kQm, kQr, hb0⟩ := boxes2 W (.cells #[.int .i64 kind, .int .i64 frm, .int .i64 dst, .int .i64 id1, .int .i64 id2, .int .i64 b1, .int .i64 b2, .int .i64 a1, .int .i64 a2, .slice oa on oc, .bool fast, .slice da dn dc, .bool has, .int .i64 q1, .int .i64 q2, .bool gone, .int .i64 t1, .int .i64 t2, .slice va vn vc, .slice wa wn wc, .slice pa pn pc] 61) (.cells #[.int .i64 0, .int .i64 0, .int .i64 0, .int .i64 0, .int .i64 0, .int .i64 0, .int .i64 0, .int .i64 0, .int .i64 0, .slice none 0 0, .bool false, .slice none 0 0, .bool false, .int .i64 0, .int .i64 0, .bool false, .int .i64 0, .int .i64 0, .slice none 0 0, .slice none 0 0, .slice none 0 0] 61)
  have Km0 := Lib.hid kQm
  have Kr0 := Lib.hid kQr
  have HB0 := Lib.hid hb0
  have HE0 := Lib.hid he0
  clear he0 hb0 kQm kQr
  go_enter Tryz.func115, Tryz.ntmps115
  go_upto_region 1 with fail
  rw [← HE0.out]
  go_wp2_with (first | go_skip | ((with_reducible refine atW w1 ?_); refine storeM _ _ rfl (by rfl) _ rfl rfl Kr1.out rfl rfl (by simp [Value.oneCell']) ?_; intro w2 h1 h2; have Kr2 := Lib.hid h1; have hw2 := Nat.le_trans hw1 h2.size; have HB2 : Hid (Below W.heap.size W w2) := Lib.hid (below_grown9 HB1.out h2 (by omega)); have Km2 := Lib.hid (grown_other9 Km1.out h2 (by omega) (by omega)); clear h1 h2) | ((with_reducible refine atW w1 ?_); refine loadM _ rfl (by rfl) _ rfl Km1.out rfl ?_) | ((with_reducible refine atW w0 ?_); refine wpList_store_part _ _ _ rfl (by rfl) _ 7 rfl rfl (cs := #[.int .i64 0, .int .i64 0]) rfl Km0.out (by kernel_rfl) (by simp) (by simp [Value.oneCell']) (D := #[.int .i64 kind, .int .i64 frm, .int .i64 dst, .int .i64 id1, .int .i64 id2, .int .i64 b1, .int .i64 b2, .int .i64 0, .int .i64 0, .slice oa on oc, .bool fast, .slice da dn dc, .bool has, .int .i64 q1, .int .i64 q2, .bool gone, .int .i64 t1, .int .i64 t2, .slice va vn vc, .slice wa wn wc, .slice pa pn pc]) rfl ?_; intro w1 h1 h2; have Km1 := Lib.hid h1; have hw1 := Nat.le_trans hw0 h2.size; have HB1 : Hid (Below W.heap.size W w1) := Lib.hid (below_grown9 HB0.out h2 (by omega)); have Kr1 := Lib.hid (grown_other9 Kr0.out h2 (by omega) (by omega)); clear h1 h2))
  refine bodyPost_ret (results_cell_row Tryz.results115 _ _ _ 61 _ (0, 0) _ rfl Kr2.out Tryz.underlying61 rfl szMsg) rfl ?_
  exact ⟨⟨.slice oa on oc, .slice da dn dc, .slice va vn vc, .slice wa wn wc, .slice pa pn pc⟩, rfl, ⟨HAT.out.o, HAT.out.d, HAT.out.v, HAT.out.w, HAT.out.p⟩, HB2.out⟩
 ·obtain ⟨w0, he0, hw0, kQm, kQr, hb0⟩ := boxes2 W (.cells #[.int .i64 kind, .int .i64 frm, .int .i64 dst, .int .i64 id1, .int .i64 id2, .int .i64 b1, .int .i64 b2, .int .i64 a1, .int .i64 a2, .slice oa on oc, .bool fast, .slice da dn dc, .bool has, .int .i64 q1, .int .i64 q2, .bool gone, .int .i64 t1, .int .i64 t2, .slice va vn vc, .slice wa wn wc, .slice pa pn pc] 61) (.cells #[.int .i64 0, .int .i64 0, .int .i64 0, .int .i64 0, .int .i64 0, .int .i64 0, .int .i64 0, .int .i64 0, .int .i64 0, .slice none 0 0, .bool false, .slice none 0 0, .bool false, .int .i64 0, .int .i64 0, .bool false, .int .i64 0, .int .i64 0, .slice none 0 0, .slice none 0 0, .slice none 0 0] 61)
  have Km0 := Lib.hid kQm
  have Kr0 := Lib.hid kQr
  have HB0 := Lib.hid hb0
  have HE0 := Lib.hid he0
  clear he0 hb0 kQm kQr
  go_enter Tryz.func115, Tryz.ntmps115
  go_upto_region 1 with fail
  rw [← HE0.out]
  go_wp2_with (first | go_skip | ((with_reducible refine atW w1 ?_); refine storeM _ _ rfl (by rfl) _ rfl rfl Kr1.out rfl rfl (by simp [Value.oneCell']) ?_; intro w2 h1 h2; have Kr2 := Lib.hid h1; have hw2 := Nat.le_trans hw1 h2.size; have HB2 : Hid (Below W.heap.size W w2) := Lib.hid (below_grown9 HB1.out h2 (by omega)); have Km2 := Lib.hid (grown_other9 Km1.out h2 (by omega) (by omega)); clear h1 h2) | ((with_reducible refine atW w1 ?_); refine loadM _ rfl (by rfl) _ rfl Km1.out rfl ?_) | ((with_reducible refine atW w0 ?_); refine wpList_store_part _ _ _ rfl (by rfl) _ 5 rfl rfl (cs := #[.int .i64 0, .int .i64 0]) rfl Km0.out (by kernel_rfl) (by simp) (by simp [Value.oneCell']) (D := #[.int .i64 kind, .int .i64 frm, .int .i64 dst, .int .i64 id1, .int .i64 id2, .int .i64 0, .int .i64 0, .int .i64 a1, .int .i64 a2, .slice oa on oc, .bool fast, .slice da dn dc, .bool has, .int .i64 q1, .int .i64 q2, .bool gone, .int .i64 t1, .int .i64 t2, .slice va vn vc, .slice wa wn wc, .slice pa pn pc]) rfl ?_; intro w1 h1 h2; have Km1 := Lib.hid h1; have hw1 := Nat.le_trans hw0 h2.size; have HB1 : Hid (Below W.heap.size W w1) := Lib.hid (below_grown9 HB0.out h2 (by omega)); have Kr1 := Lib.hid (grown_other9 Kr0.out h2 (by omega) (by omega)); clear h1 h2))
  refine bodyPost_ret (results_cell_row Tryz.results115 _ _ _ 61 _ (0, 0) _ rfl Kr2.out Tryz.underlying61 rfl szMsg) rfl ?_
  exact ⟨⟨.slice oa on oc, .slice da dn dc, .slice va vn vc, .slice wa wn wc, .slice pa pn pc⟩, rfl, ⟨HAT.out.o, HAT.out.d, HAT.out.v, HAT.out.w, HAT.out.p⟩, HB2.out⟩
 ·obtain ⟨w0, he0, hw0, kQm, kQr, hb0⟩ := boxes2 W (.cells #[.int .i64 kind, .int .i64 frm, .int .i64 dst, .int .i64 id1, .int .i64 id2, .int .i64 b1, .int .i64 b2, .int .i64 a1, .int .i64 a2, .slice oa on oc, .bool fast, .slice da dn dc, .bool has, .int .i64 q1, .int .i64 q2, .bool gone, .int .i64 t1, .int .i64 t2, .slice va vn vc, .slice wa wn wc, .slice pa pn pc] 61) (.cells #[.int .i64 0, .int .i64 0, .int .i64 0, .int .i64 0, .int .i64 0, .int .i64 0, .int .i64 0, .int .i64 0, .int .i64 0, .slice none 0 0, .bool false, .slice none 0 0, .bool false, .int .i64 0, .int .i64 0, .bool false, .int .i64 0, .int .i64 0, .slice none 0 0, .slice none 0 0, .slice none 0 0] 61)
  have Km0 := Lib.hid kQm
  have Kr0 := Lib.hid kQr
  have HB0 := Lib.hid hb0
  have HE0 := Lib.hid he0
  clear he0 hb0 kQm kQr
  go_enter Tryz.func115, Tryz.ntmps115
  go_upto_region 1 with fail
  rw [← HE0.out]
  go_wp2_with (first | go_skip | ((with_reducible refine atW w1 ?_); refine storeM _ _ rfl (by rfl) _ rfl rfl Kr1.out rfl rfl (by simp [Value.oneCell']) ?_; intro w2 h1 h2; have Kr2 := Lib.hid h1; have hw2 := Nat.le_trans hw1 h2.size; have HB2 : Hid (Below W.heap.size W w2) := Lib.hid (below_grown9 HB1.out h2 (by omega)); have Km2 := Lib.hid (grown_other9 Km1.out h2 (by omega) (by omega)); clear h1 h2) | ((with_reducible refine atW w1 ?_); refine loadM _ rfl (by rfl) _ rfl Km1.out rfl ?_) | ((with_reducible refine atW w0 ?_); refine wpList_store_part _ _ _ rfl (by rfl) _ 5 rfl rfl (cs := #[.int .i64 0, .int .i64 0]) rfl Km0.out (by kernel_rfl) (by simp) (by simp [Value.oneCell']) (D := #[.int .i64 kind, .int .i64 frm, .int .i64 dst, .int .i64 id1, .int .i64 id2, .int .i64 0, .int .i64 0, .int .i64 a1, .int .i64 a2, .slice oa on oc, .bool fast, .slice da dn dc, .bool has, .int .i64 q1, .int .i64 q2, .bool gone, .int .i64 t1, .int .i64 t2, .slice va vn vc, .slice wa wn wc, .slice pa pn pc]) rfl ?_; intro w1 h1 h2; have Km1 := Lib.hid h1; have hw1 := Nat.le_trans hw0 h2.size; have HB1 : Hid (Below W.heap.size W w1) := Lib.hid (below_grown9 HB0.out h2 (by omega)); have Kr1 := Lib.hid (grown_other9 Kr0.out h2 (by omega) (by omega)); clear h1 h2))
  refine bodyPost_ret (results_cell_row Tryz.results115 _ _ _ 61 _ (0, 0) _ rfl Kr2.out Tryz.underlying61 rfl szMsg) rfl ?_
  exact ⟨⟨.slice oa on oc, .slice da dn dc, .slice va vn vc, .slice wa wn wc, .slice pa pn pc⟩, rfl, ⟨HAT.out.o, HAT.out.d, HAT.out.v, HAT.out.w, HAT.out.p⟩, HB2.out⟩
 ·obtain ⟨w0, he0, hw0, kQm, kQr, hb0⟩ := boxes2 W (.cells #[.int .i64 kind, .int .i64 frm, .int .i64 dst, .int .i64 id1, .int .i64 id2, .int .i64 b1, .int .i64 b2, .int .i64 a1, .int .i64 a2, .slice oa on oc, .bool fast, .slice da dn dc, .bool has, .int .i64 q1, .int .i64 q2, .bool gone, .int .i64 t1, .int .i64 t2, .slice va vn vc, .slice wa wn wc, .slice pa pn pc] 61) (.cells #[.int .i64 0, .int .i64 0, .int .i64 0, .int .i64 0, .int .i64 0, .int .i64 0, .int .i64 0, .int .i64 0, .int .i64 0, .slice none 0 0, .bool false, .slice none 0 0, .bool false, .int .i64 0, .int .i64 0, .bool false, .int .i64 0, .int .i64 0, .slice none 0 0, .slice none 0 0, .slice none 0 0] 61)
  have Km0 := Lib.hid kQm
  have Kr0 := Lib.hid kQr
  have HB0 := Lib.hid hb0
  have HE0 := Lib.hid he0
  clear he0 hb0 kQm kQr
  go_enter Tryz.func115, Tryz.ntmps115
  go_upto_region 1 with fail
  rw [← HE0.out]
  go_wp2_with (first | go_skip | ((with_reducible refine atW w1 ?_); refine storeM _ _ rfl (by rfl) _ rfl rfl Kr1.out rfl rfl (by simp [Value.oneCell']) ?_; intro w2 h1 h2; have Kr2 := Lib.hid h1; have hw2 := Nat.le_trans hw1 h2.size; have HB2 : Hid (Below W.heap.size W w2) := Lib.hid (below_grown9 HB1.out h2 (by omega)); have Km2 := Lib.hid (grown_other9 Km1.out h2 (by omega) (by omega)); clear h1 h2) | ((with_reducible refine atW w1 ?_); refine loadM _ rfl (by rfl) _ rfl Km1.out rfl ?_) | ((with_reducible refine atW w0 ?_); refine wpList_store_part _ _ _ rfl (by rfl) _ 11 rfl rfl (cs := #[.slice none 0 0]) rfl Km0.out (by kernel_rfl) (by simp) (by simp [Value.oneCell']) (D := #[.int .i64 kind, .int .i64 frm, .int .i64 dst, .int .i64 id1, .int .i64 id2, .int .i64 b1, .int .i64 b2, .int .i64 a1, .int .i64 a2, .slice oa on oc, .bool fast, .slice none 0 0, .bool has, .int .i64 q1, .int .i64 q2, .bool gone, .int .i64 t1, .int .i64 t2, .slice va vn vc, .slice wa wn wc, .slice pa pn pc]) rfl ?_; intro w1 h1 h2; have Km1 := Lib.hid h1; have hw1 := Nat.le_trans hw0 h2.size; have HB1 : Hid (Below W.heap.size W w1) := Lib.hid (below_grown9 HB0.out h2 (by omega)); have Kr1 := Lib.hid (grown_other9 Kr0.out h2 (by omega) (by omega)); clear h1 h2))
  refine bodyPost_ret (results_cell_row Tryz.results115 _ _ _ 61 _ (0, 0) _ rfl Kr2.out Tryz.underlying61 rfl szMsg) rfl ?_
  exact ⟨⟨.slice oa on oc, .slice none 0 0, .slice va vn vc, .slice wa wn wc, .slice pa pn pc⟩, rfl, ⟨HAT.out.o, dlV_nil9 _, HAT.out.v, HAT.out.w, HAT.out.p⟩, HB2.out⟩
 ·obtain ⟨w0, he0, hw0, kQm, kQr, hb0⟩ := boxes2 W (.cells #[.int .i64 kind, .int .i64 frm, .int .i64 dst, .int .i64 id1, .int .i64 id2, .int .i64 b1, .int .i64 b2, .int .i64 a1, .int .i64 a2, .slice oa on oc, .bool fast, .slice da dn dc, .bool has, .int .i64 q1, .int .i64 q2, .bool gone, .int .i64 t1, .int .i64 t2, .slice va vn vc, .slice wa wn wc, .slice pa pn pc] 61) (.cells #[.int .i64 0, .int .i64 0, .int .i64 0, .int .i64 0, .int .i64 0, .int .i64 0, .int .i64 0, .int .i64 0, .int .i64 0, .slice none 0 0, .bool false, .slice none 0 0, .bool false, .int .i64 0, .int .i64 0, .bool false, .int .i64 0, .int .i64 0, .slice none 0 0, .slice none 0 0, .slice none 0 0] 61)
  have Km0 := Lib.hid kQm
  have Kr0 := Lib.hid kQr
  have HB0 := Lib.hid hb0
  have HE0 := Lib.hid he0
  clear he0 hb0 kQm kQr
  go_enter Tryz.func115, Tryz.ntmps115
  go_upto_region 1 with fail
  rw [← HE0.out]
  go_wp2_with (first | go_skip | ((with_reducible refine atW w1 ?_); refine storeM _ _ rfl (by rfl) _ rfl rfl Kr1.out rfl rfl (by simp [Value.oneCell']) ?_; intro w2 h1 h2; have Kr2 := Lib.hid h1; have hw2 := Nat.le_trans hw1 h2.size; have HB2 : Hid (Below W.heap.size W w2) := Lib.hid (below_grown9 HB1.out h2 (by omega)); have Km2 := Lib.hid (grown_other9 Km1.out h2 (by omega) (by omega)); clear h1 h2) | ((with_reducible refine atW w1 ?_); refine loadM _ rfl (by rfl) _ rfl Km1.out rfl ?_) | ((with_reducible refine atW w0 ?_); refine wpList_store_part _ _ _ rfl (by rfl) _ 10 rfl rfl (cs := #[.bool false]) rfl Km0.out (by kernel_rfl) (by simp) (by simp [Value.oneCell']) (D := #[.int .i64 kind, .int .i64 frm, .int .i64 dst, .int .i64 id1, .int .i64 id2, .int .i64 b1, .int .i64 b2, .int .i64 a1, .int .i64 a2, .slice oa on oc, .bool false, .slice da dn dc, .bool has, .int .i64 q1, .int .i64 q2, .bool gone, .int .i64 t1, .int .i64 t2, .slice va vn vc, .slice wa wn wc, .slice pa pn pc]) rfl ?_; intro w1 h1 h2; have Km1 := Lib.hid h1; have hw1 := Nat.le_trans hw0 h2.size; have HB1 : Hid (Below W.heap.size W w1) := Lib.hid (below_grown9 HB0.out h2 (by omega)); have Kr1 := Lib.hid (grown_other9 Kr0.out h2 (by omega) (by omega)); clear h1 h2))
  refine bodyPost_ret (results_cell_row Tryz.results115 _ _ _ 61 _ (0, 0) _ rfl Kr2.out Tryz.underlying61 rfl szMsg) rfl ?_
  exact ⟨⟨.slice oa on oc, .slice da dn dc, .slice va vn vc, .slice wa wn wc, .slice pa pn pc⟩, rfl, ⟨HAT.out.o, HAT.out.d, HAT.out.v, HAT.out.w, HAT.out.p⟩, HB2.out⟩
 ·obtain ⟨w0, he0, hw0, kQm, kQr, hb0⟩ := boxes2 W (.cells #[.int .i64 kind, .int .i64 frm, .int .i64 dst, .int .i64 id1, .int .i64 id2, .int .i64 b1, .int .i64 b2, .int .i64 a1, .int .i64 a2, .slice oa on oc, .bool fast, .slice da dn dc, .bool has, .int .i64 q1, .int .i64 q2, .bool gone, .int .i64 t1, .int .i64 t2, .slice va vn vc, .slice wa wn wc, .slice pa pn pc] 61) (.cells #[.int .i64 0, .int .i64 0, .int .i64 0, .int .i64 0, .int .i64 0, .int .i64 0, .int .i64 0, .int .i64 0, .int .i64 0, .slice none 0 0, .bool false, .slice none 0 0, .bool false, .int .i64 0, .int .i64 0, .bool false, .int .i64 0, .int .i64 0, .slice none 0 0, .slice none 0 0, .slice none 0 0] 61)
  have Km0 := Lib.hid kQm
  have Kr0 := Lib.hid kQr
  have HB0 := Lib.hid hb0
  have HE0 := Lib.hid he0
  clear he0 hb0 kQm kQr
  go_enter Tryz.func115, Tryz.ntmps115
  go_upto_region 1 with fail
  rw [← HE0.out]
  go_wp2_with (first | go_skip | ((with_reducible refine atW w3 ?_); refine storeM _ _ rfl (by rfl) _ rfl rfl Kr3.out rfl rfl (by simp [Value.oneCell']) ?_; intro w4 h1 h2; have Kr4 := Lib.hid h1; have hw4 := Nat.le_trans hw3 h2.size; have HB4 : Hid (Below W.heap.size W w4) := Lib.hid (below_grown9 HB3.out h2 (by omega)); have Km4 := Lib.hid (grown_other9 Km3.out h2 (by omega) (by omega)); clear h1 h2) | ((with_reducible refine atW w3 ?_); refine loadM _ rfl (by rfl) _ rfl Km3.out rfl ?_) | ((with_reducible refine atW w2 ?_); refine wpList_store_part _ _ _ rfl (by rfl) _ 15 rfl rfl (cs := #[.bool false, .int .i64 0, .int .i64 0, .slice none 0 0]) rfl Km2.out (by kernel_rfl) (by simp) (by simp [Value.oneCell']) (D := #[.int .i64 kind, .int .i64 frm, .int .i64 dst, .int .i64 id1, .int .i64 id2, .int .i64 b1, .int .i64 b2, .int .i64 a1, .int .i64 a2, .slice oa on oc, .bool fast, .slice da dn dc, .bool false, .int .i64 0, .int .i64 0, .bool false, .int .i64 0, .int .i64 0, .slice none 0 0, .slice wa wn wc, .slice pa pn pc]) rfl ?_; intro w3 h1 h2; have Km3 := Lib.hid h1; have hw3 := Nat.le_trans hw2 h2.size; have HB3 : Hid (Below W.heap.size W w3) := Lib.hid (below_grown9 HB2.out h2 (by omega)); have Kr3 := Lib.hid (grown_other9 Kr2.out h2 (by omega) (by omega)); clear h1 h2) | ((with_reducible refine atW w1 ?_); refine wpList_store_part _ _ _ rfl (by rfl) _ 13 rfl rfl (cs := #[.int .i64 0, .int .i64 0]) rfl Km1.out (by kernel_rfl) (by simp) (by simp [Value.oneCell']) (D := #[.int .i64 kind, .int .i64 frm, .int .i64 dst, .int .i64 id1, .int .i64 id2, .int .i64 b1, .int .i64 b2, .int .i64 a1, .int .i64 a2, .slice oa on oc, .bool fast, .slice da dn dc, .bool false, .int .i64 0, .int .i64 0, .bool gone, .int .i64 t1, .int .i64 t2, .slice va vn vc, .slice wa wn wc, .slice pa pn pc]) rfl ?_; intro w2 h1 h2; have Km2 := Lib.hid h1; have hw2 := Nat.le_trans hw1 h2.size; have HB2 : Hid (Below W.heap.size W w2) := Lib.hid (below_grown9 HB1.out h2 (by omega)); have Kr2 := Lib.hid (grown_other9 Kr1.out h2 (by omega) (by omega)); clear h1 h2) | ((with_reducible refine atW w0 ?_); refine wpList_store_part _ _ _ rfl (by rfl) _ 12 rfl rfl (cs := #[.bool false]) rfl Km0.out (by kernel_rfl) (by simp) (by simp [Value.oneCell']) (D := #[.int .i64 kind, .int .i64 frm, .int .i64 dst, .int .i64 id1, .int .i64 id2, .int .i64 b1, .int .i64 b2, .int .i64 a1, .int .i64 a2, .slice oa on oc, .bool fast, .slice da dn dc, .bool false, .int .i64 q1, .int .i64 q2, .bool gone, .int .i64 t1, .int .i64 t2, .slice va vn vc, .slice wa wn wc, .slice pa pn pc]) rfl ?_; intro w1 h1 h2; have Km1 := Lib.hid h1; have hw1 := Nat.le_trans hw0 h2.size; have HB1 : Hid (Below W.heap.size W w1) := Lib.hid (below_grown9 HB0.out h2 (by omega)); have Kr1 := Lib.hid (grown_other9 Kr0.out h2 (by omega) (by omega)); clear h1 h2))
  refine bodyPost_ret (results_cell_row Tryz.results115 _ _ _ 61 _ (0, 0) _ rfl Kr4.out Tryz.underlying61 rfl szMsg) rfl ?_
  exact ⟨⟨.slice oa on oc, .slice da dn dc, .slice none 0 0, .slice wa wn wc, .slice pa pn pc⟩, rfl, ⟨HAT.out.o, HAT.out.d, dlV_nil9 _, HAT.out.w, HAT.out.p⟩, HB4.out⟩
 ·obtain ⟨w0, he0, hw0, kQm, kQr, hb0⟩ := boxes2 W (.cells #[.int .i64 kind, .int .i64 frm, .int .i64 dst, .int .i64 id1, .int .i64 id2, .int .i64 b1, .int .i64 b2, .int .i64 a1, .int .i64 a2, .slice oa on oc, .bool fast, .slice da dn dc, .bool has, .int .i64 q1, .int .i64 q2, .bool gone, .int .i64 t1, .int .i64 t2, .slice va vn vc, .slice wa wn wc, .slice pa pn pc] 61) (.cells #[.int .i64 0, .int .i64 0, .int .i64 0, .int .i64 0, .int .i64 0, .int .i64 0, .int .i64 0, .int .i64 0, .int .i64 0, .slice none 0 0, .bool false, .slice none 0 0, .bool false, .int .i64 0, .int .i64 0, .bool false, .int .i64 0, .int .i64 0, .slice none 0 0, .slice none 0 0, .slice none 0 0] 61)
  have Km0 := Lib.hid kQm
  have Kr0 := Lib.hid kQr
  have HB0 := Lib.hid hb0
  have HE0 := Lib.hid he0
  clear he0 hb0 kQm kQr
  go_enter Tryz.func115, Tryz.ntmps115
  go_upto_region 1 with fail
  rw [← HE0.out]
  go_wp2_with (first | go_skip | ((with_reducible refine atW w1 ?_); refine storeM _ _ rfl (by rfl) _ rfl rfl Kr1.out rfl rfl (by simp [Value.oneCell']) ?_; intro w2 h1 h2; have Kr2 := Lib.hid h1; have hw2 := Nat.le_trans hw1 h2.size; have HB2 : Hid (Below W.heap.size W w2) := Lib.hid (below_grown9 HB1.out h2 (by omega)); have Km2 := Lib.hid (grown_other9 Km1.out h2 (by omega) (by omega)); clear h1 h2) | ((with_reducible refine atW w1 ?_); refine loadM _ rfl (by rfl) _ rfl Km1.out rfl ?_) | ((with_reducible refine atW w0 ?_); refine wpList_store_part _ _ _ rfl (by rfl) _ 9 rfl rfl (cs := #[.slice none 0 0]) rfl Km0.out (by kernel_rfl) (by simp) (by simp [Value.oneCell']) (D := #[.int .i64 kind, .int .i64 frm, .int .i64 dst, .int .i64 id1, .int .i64 id2, .int .i64 b1, .int .i64 b2, .int .i64 a1, .int .i64 a2, .slice none 0 0, .bool fast, .slice da dn dc, .bool has, .int .i64 q1, .int .i64 q2, .bool gone, .int .i64 t1, .int .i64 t2, .slice va vn vc, .slice wa wn wc, .slice pa pn pc]) rfl ?_; intro w1 h1 h2; have Km1 := Lib.hid h1; have hw1 := Nat.le_trans hw0 h2.size; have HB1 : Hid (Below W.heap.size W w1) := Lib.hid (below_grown9 HB0.out h2 (by omega)); have Kr1 := Lib.hid (grown_other9 Kr0.out h2 (by omega) (by omega)); clear h1 h2))
  refine bodyPost_ret (results_cell_row Tryz.results115 _ _ _ 61 _ (0, 0) _ rfl Kr2.out Tryz.underlying61 rfl szMsg) rfl ?_
  exact ⟨⟨.slice none 0 0, .slice da dn dc, .slice va vn vc, .slice wa wn wc, .slice pa pn pc⟩, rfl, ⟨slG_nil9 _ _, HAT.out.d, HAT.out.v, HAT.out.w, HAT.out.p⟩, HB2.out⟩
 ·obtain ⟨w0, he0, hw0, kQm, kQr, hb0⟩ := boxes2 W (.cells #[.int .i64 kind, .int .i64 frm, .int .i64 dst, .int .i64 id1, .int .i64 id2, .int .i64 b1, .int .i64 b2, .int .i64 a1, .int .i64 a2, .slice oa on oc, .bool fast, .slice da dn dc, .bool has, .int .i64 q1, .int .i64 q2, .bool gone, .int .i64 t1, .int .i64 t2, .slice va vn vc, .slice wa wn wc, .slice pa pn pc] 61) (.cells #[.int .i64 0, .int .i64 0, .int .i64 0, .int .i64 0, .int .i64 0, .int .i64 0, .int .i64 0, .int .i64 0, .int .i64 0, .slice none 0 0, .bool false, .slice none 0 0, .bool false, .int .i64 0, .int .i64 0, .bool false, .int .i64 0, .int .i64 0, .slice none 0 0, .slice none 0 0, .slice none 0 0] 61)
  have Km0 := Lib.hid kQm
  have Kr0 := Lib.hid kQr
  have HB0 := Lib.hid hb0
  have HE0 := Lib.hid he0
  clear he0 hb0 kQm kQr
  go_enter Tryz.func115, Tryz.ntmps115
  go_upto_region 1 with fail
  rw [← HE0.out]
  go_wp2_with (first | go_skip | ((with_reducible refine atW w1 ?_); refine storeM _ _ rfl (by rfl) _ rfl rfl Kr1.out rfl rfl (by simp [Value.oneCell']) ?_; intro w2 h1 h2; have Kr2 := Lib.hid h1; have hw2 := Nat.le_trans hw1 h2.size; have HB2 : Hid (Below W.heap.size W w2) := Lib.hid (below_grown9 HB1.out h2 (by omega)); have Km2 := Lib.hid (grown_other9 Km1.out h2 (by omega) (by omega)); clear h1 h2) | ((with_reducible refine atW w1 ?_); refine loadM _ rfl (by rfl) _ rfl Km1.out rfl ?_) | ((with_reducible refine atW w0 ?_); refine wpList_store_part _ _ _ rfl (by rfl) _ 9 rfl rfl (cs := #[.slice none 0 0]) rfl Km0.out (by kernel_rfl) (by simp) (by simp [Value.oneCell']) (D := #[.int .i64 kind, .int .i64 frm, .int .i64 dst, .int .i64 id1, .int .i64 id2, .int .i64 b1, .int .i64 b2, .int .i64 a1, .int .i64 a2, .slice none 0 0, .bool fast, .slice da dn dc, .bool has, .int .i64 q1, .int .i64 q2, .bool gone, .int .i64 t1, .int .i64 t2, .slice va vn vc, .slice wa wn wc, .slice pa pn pc]) rfl ?_; intro w1 h1 h2; have Km1 := Lib.hid h1; have hw1 := Nat.le_trans hw0 h2.size; have HB1 : Hid (Below W.heap.size W w1) := Lib.hid (below_grown9 HB0.out h2 (by omega)); have Kr1 := Lib.hid (grown_other9 Kr0.out h2 (by omega) (by omega)); clear h1 h2))
  refine bodyPost_ret (results_cell_row Tryz.results115 _ _ _ 61 _ (0, 0) _ rfl Kr2.out Tryz.underlying61 rfl szMsg) rfl ?_
  exact ⟨⟨.slice none 0 0, .slice da dn dc, .slice va vn vc, .slice wa wn wc, .slice pa pn pc⟩, rfl, ⟨slG_nil9 _ _, HAT.out.d, HAT.out.v, HAT.out.w, HAT.out.p⟩, HB2.out⟩
 ·obtain ⟨w0, he0, hw0, kQm, kQr, hb0⟩ := boxes2 W (.cells #[.int .i64 kind, .int .i64 frm, .int .i64 dst, .int .i64 id1, .int .i64 id2, .int .i64 b1, .int .i64 b2, .int .i64 a1, .int .i64 a2, .slice oa on oc, .bool fast, .slice da dn dc, .bool has, .int .i64 q1, .int .i64 q2, .bool gone, .int .i64 t1, .int .i64 t2, .slice va vn vc, .slice wa wn wc, .slice pa pn pc] 61) (.cells #[.int .i64 0, .int .i64 0, .int .i64 0, .int .i64 0, .int .i64 0, .int .i64 0, .int .i64 0, .int .i64 0, .int .i64 0, .slice none 0 0, .bool false, .slice none 0 0, .bool false, .int .i64 0, .int .i64 0, .bool false, .int .i64 0, .int .i64 0, .slice none 0 0, .slice none 0 0, .slice none 0 0] 61)
  have Km0 := Lib.hid kQm
  have Kr0 := Lib.hid kQr
  have HB0 := Lib.hid hb0
  have HE0 := Lib.hid he0
  clear he0 hb0 kQm kQr
  go_enter Tryz.func115, Tryz.ntmps115
  go_upto_region 1 with fail
  rw [← HE0.out]
  go_wp2_with (first | go_skip | ((with_reducible refine atW w1 ?_); refine storeM _ _ rfl (by rfl) _ rfl rfl Kr1.out rfl rfl (by simp [Value.oneCell']) ?_; intro w2 h1 h2; have Kr2 := Lib.hid h1; have hw2 := Nat.le_trans hw1 h2.size; have HB2 : Hid (Below W.heap.size W w2) := Lib.hid (below_grown9 HB1.out h2 (by omega)); have Km2 := Lib.hid (grown_other9 Km1.out h2 (by omega) (by omega)); clear h1 h2) | ((with_reducible refine atW w1 ?_); refine loadM _ rfl (by rfl) _ rfl Km1.out rfl ?_) | ((with_reducible refine atW w0 ?_); refine wpList_store_part _ _ _ rfl (by rfl) _ 9 rfl rfl (cs := #[.slice none 0 0]) rfl Km0.out (by kernel_rfl) (by simp) (by simp [Value.oneCell']) (D := #[.int .i64 kind, .int .i64 frm, .int .i64 dst, .int .i64 id1, .int .i64 id2, .int .i64 b1, .int .i64 b2, .int .i64 a1, .int .i64 a2, .slice none 0 0, .bool fast, .slice da dn dc, .bool has, .int .i64 q1, .int .i64 q2, .bool gone, .int .i64 t1, .int .i64 t2, .slice va vn vc, .slice wa wn wc, .slice pa pn pc]) rfl ?_; intro w1 h1 h2; have Km1 := Lib.hid h1; have hw1 := Nat.le_trans hw0 h2.size; have HB1 : Hid (Below W.heap.size W w1) := Lib.hid (below_grown9 HB0.out h2 (by omega)); have Kr1 := Lib.hid (grown_other9 Kr0.out h2 (by omega) (by omega)); clear h1 h2))
  refine bodyPost_ret (results_cell_row Tryz.results115 _ _ _ 61 _ (0, 0) _ rfl Kr2.out Tryz.underlying61 rfl szMsg) rfl ?_
  exact ⟨⟨.slice none 0 0, .slice da dn dc, .slice va vn vc, .slice wa wn wc, .slice pa pn pc⟩, rfl, ⟨slG_nil9 _ _, HAT.out.d, HAT.out.v, HAT.out.w, HAT.out.p⟩, HB2.out⟩
 ·obtain ⟨w0, he0, hw0, kQm, kQr, hb0⟩ := boxes2 W (.cells #[.int .i64 kind, .int .i64 frm, .int .i64 dst, .int .i64 id1, .int .i64 id2, .int .i64 b1, .int .i64 b2, .int .i64 a1, .int .i64 a2, .slice oa on oc, .bool fast, .slice da dn dc, .bool has, .int .i64 q1, .int .i64 q2, .bool gone, .int .i64 t1, .int .i64 t2, .slice va vn vc, .slice wa wn wc, .slice pa pn pc] 61) (.cells #[.int .i64 0, .int .i64 0, .int .i64 0, .int .i64 0, .int .i64 0, .int .i64 0, .int .i64 0, .int .i64 0, .int .i64 0, .slice none 0 0, .bool false, .slice none 0 0, .bool false, .int .i64 0, .int .i64 0, .bool false, .int .i64 0, .int .i64 0, .slice none 0 0, .slice none 0 0, .slice none 0 0] 61)
  have Km0 := Lib.hid kQm
  have Kr0 := Lib.hid kQr
  have HB0 := Lib.hid hb0
  have HE0 := Lib.hid he0
  clear he0 hb0 kQm kQr
  go_enter Tryz.func115, Tryz.ntmps115
  go_upto_region 1 with fail
  rw [← HE0.out]
  go_wp2_with (first | go_skip | ((with_reducible refine atW w1 ?_); refine storeM _ _ rfl (by rfl) _ rfl rfl Kr1.out rfl rfl (by simp [Value.oneCell']) ?_; intro w2 h1 h2; have Kr2 := Lib.hid h1; have hw2 := Nat.le_trans hw1 h2.size; have HB2 : Hid (Below W.heap.size W w2) := Lib.hid (below_grown9 HB1.out h2 (by omega)); have Km2 := Lib.hid (grown_other9 Km1.out h2 (by omega) (by omega)); clear h1 h2) | ((with_reducible refine atW w1 ?_); refine loadM _ rfl (by rfl) _ rfl Km1.out rfl ?_) | ((with_reducible refine atW w0 ?_); refine wpList_store_part _ _ _ rfl (by rfl) _ 20 rfl rfl (cs := #[.slice none 0 0]) rfl Km0.out (by kernel_rfl) (by simp) (by simp [Value.oneCell']) (D := #[.int .i64 kind, .int .i64 frm, .int .i64 dst, .int .i64 id1, .int .i64 id2, .int .i64 b1, .int .i64 b2, .int .i64 a1, .int .i64 a2, .slice oa on oc, .bool fast, .slice da dn dc, .bool has, .int .i64 q1, .int .i64 q2, .bool gone, .int .i64 t1, .int .i64 t2, .slice va vn vc, .slice wa wn wc, .slice none 0 0]) rfl ?_; intro w1 h1 h2; have Km1 := Lib.hid h1; have hw1 := Nat.le_trans hw0 h2.size; have HB1 : Hid (Below W.heap.size W w1) := Lib.hid (below_grown9 HB0.out h2 (by omega)); have Kr1 := Lib.hid (grown_other9 Kr0.out h2 (by omega) (by omega)); clear h1 h2))
  refine bodyPost_ret (results_cell_row Tryz.results115 _ _ _ 61 _ (0, 0) _ rfl Kr2.out Tryz.underlying61 rfl szMsg) rfl ?_
  exact ⟨⟨.slice oa on oc, .slice da dn dc, .slice va vn vc, .slice wa wn wc, .slice none 0 0⟩, rfl, ⟨HAT.out.o, HAT.out.d, HAT.out.v, HAT.out.w, slG_nil9 _ _⟩, HB2.out⟩
 ·obtain ⟨w0, he0, hw0, kQm, kQr, hb0⟩ := boxes2 W (.cells #[.int .i64 kind, .int .i64 frm, .int .i64 dst, .int .i64 id1, .int .i64 id2, .int .i64 b1, .int .i64 b2, .int .i64 a1, .int .i64 a2, .slice oa on oc, .bool fast, .slice da dn dc, .bool has, .int .i64 q1, .int .i64 q2, .bool gone, .int .i64 t1, .int .i64 t2, .slice va vn vc, .slice wa wn wc, .slice pa pn pc] 61) (.cells #[.int .i64 0, .int .i64 0, .int .i64 0, .int .i64 0, .int .i64 0, .int .i64 0, .int .i64 0, .int .i64 0, .int .i64 0, .slice none 0 0, .bool false, .slice none 0 0, .bool false, .int .i64 0, .int .i64 0, .bool false, .int .i64 0, .int .i64 0, .slice none 0 0, .slice none 0 0, .slice none 0 0] 61)
  have Km0 := Lib.hid kQm
  have Kr0 := Lib.hid kQr
  have HB0 := Lib.hid hb0
  have HE0 := Lib.hid he0
  clear he0 hb0 kQm kQr
  go_enter Tryz.func115, Tryz.ntmps115
  go_upto_region 1 with fail
  rw [← HE0.out]
  go_wp2_with (first | go_skip | ((with_reducible refine atW w1 ?_); refine storeM _ _ rfl (by rfl) _ rfl rfl Kr1.out rfl rfl (by simp [Value.oneCell']) ?_; intro w2 h1 h2; have Kr2 := Lib.hid h1; have hw2 := Nat.le_trans hw1 h2.size; have HB2 : Hid (Below W.heap.size W w2) := Lib.hid (below_grown9 HB1.out h2 (by omega)); have Km2 := Lib.hid (grown_other9 Km1.out h2 (by omega) (by omega)); clear h1 h2) | ((with_reducible refine atW w1 ?_); refine loadM _ rfl (by rfl) _ rfl Km1.out rfl ?_) | ((with_reducible refine atW w0 ?_); refine wpList_store_part _ _ _ rfl (by rfl) _ 15 rfl rfl (cs := #[.bool false, .int .i64 0, .int .i64 0, .slice none 0 0]) rfl Km0.out (by kernel_rfl) (by simp) (by simp [Value.oneCell']) (D := #[.int .i64 kind, .int .i64 frm, .int .i64 dst, .int .i64 id1, .int .i64 id2, .int .i64 b1, .int .i64 b2, .int .i64 a1, .int .i64 a2, .slice oa on oc, .bool fast, .slice da dn dc, .bool has, .int .i64 q1, .int .i64 q2, .bool false, .int .i64 0, .int .i64 0, .slice none 0 0, .slice wa wn wc, .slice pa pn pc]) rfl ?_; intro w1 h1 h2; have Km1 := Lib.hid h1; have hw1 := Nat.le_trans hw0 h2.size; have HB1 : Hid (Below W.heap.size W w1) := Lib.hid (below_grown9 HB0.out h2 (by omega)); have Kr1 := Lib.hid (grown_other9 Kr0.out h2 (by omega) (by omega)); clear h1 h2))
  refine bodyPost_ret (results_cell_row Tryz.results115 _ _ _ 61 _ (0, 0) _ rfl Kr2.out Tryz.underlying61 rfl szMsg) rfl ?_
  exact ⟨⟨.slice oa on oc, .slice da dn dc, .slice none 0 0, .slice wa wn wc, .slice pa pn pc⟩, rfl, ⟨HAT.out.o, HAT.out.d, dlV_nil9 _, HAT.out.w, HAT.out.p⟩, HB2.out⟩
 ·obtain ⟨w0, he0, hw0, kQm, kQr, hb0⟩ := boxes2 W (.cells #[.int .i64 kind, .int .i64 frm, .int .i64 dst, .int .i64 id1, .int .i64 id2, .int .i64 b1, .int .i64 b2, .int .i64 a1, .int .i64 a2, .slice oa on oc, .bool fast, .slice da dn dc, .bool has, .int .i64 q1, .int .i64 q2, .bool gone, .int .i64 t1, .int .i64 t2, .slice va vn vc, .slice wa wn wc, .slice pa pn pc] 61) (.cells #[.int .i64 0, .int .i64 0, .int .i64 0, .int .i64 0, .int .i64 0, .int .i64 0, .int .i64 0, .int .i64 0, .int .i64 0, .slice none 0 0, .bool false, .slice none 0 0, .bool false, .int .i64 0, .int .i64 0, .bool false, .int .i64 0, .int .i64 0, .slice none 0 0, .slice none 0 0, .slice none 0 0] 61)
  have Km0 := Lib.hid kQm
  have Kr0 := Lib.hid kQr
  have HB0 := Lib.hid hb0
  have HE0 := Lib.hid he0
  clear he0 hb0 kQm kQr
  go_enter Tryz.func115, Tryz.ntmps115
  go_upto_region 1 with fail
  rw [← HE0.out]
  go_wp2_with (first | go_skip | ((with_reducible refine atW w1 ?_); refine storeM _ _ rfl (by rfl) _ rfl rfl Kr1.out rfl rfl (by simp [Value.oneCell']) ?_; intro w2 h1 h2; have Kr2 := Lib.hid h1; have hw2 := Nat.le_trans hw1 h2.size; have HB2 : Hid (Below W.heap.size W w2) := Lib.hid (below_grown9 HB1.out h2 (by omega)); have Km2 := Lib.hid (grown_other9 Km1.out h2 (by omega) (by omega)); clear h1 h2) | ((with_reducible refine atW w1 ?_); refine loadM _ rfl (by rfl) _ rfl Km1.out rfl ?_) | ((with_reducible refine atW w0 ?_); refine wpList_store_part _ _ _ rfl (by rfl) _ 15 rfl rfl (cs := #[.bool false, .int .i64 0, .int .i64 0, .slice none 0 0]) rfl Km0.out (by kernel_rfl) (by simp) (by simp [Value.oneCell']) (D := #[.int .i64 kind, .int .i64 frm, .int .i64 dst, .int .i64 id1, .int .i64 id2, .int .i64 b1, .int .i64 b2, .int .i64 a1, .int .i64 a2, .slice oa on oc, .bool fast, .slice da dn dc, .bool has, .int .i64 q1, .int .i64 q2, .bool false, .int .i64 0, .int .i64 0, .slice none 0 0, .slice wa wn wc, .slice pa pn pc]) rfl ?_; intro w1 h1 h2; have Km1 := Lib.hid h1; have hw1 := Nat.le_trans hw0 h2.size; have HB1 : Hid (Below W.heap.size W w1) := Lib.hid (below_grown9 HB0.out h2 (by omega)); have Kr1 := Lib.hid (grown_other9 Kr0.out h2 (by omega) (by omega)); clear h1 h2))
  refine bodyPost_ret (results_cell_row Tryz.results115 _ _ _ 61 _ (0, 0) _ rfl Kr2.out Tryz.underlying61 rfl szMsg) rfl ?_
  exact ⟨⟨.slice oa on oc, .slice da dn dc, .slice none 0 0, .slice wa wn wc, .slice pa pn pc⟩, rfl, ⟨HAT.out.o, HAT.out.d, dlV_nil9 _, HAT.out.w, HAT.out.p⟩, HB2.out⟩
 ·obtain ⟨w0, he0, hw0, kQm, kQr, hb0⟩ := boxes2 W (.cells #[.int .i64 kind, .int .i64 frm, .int .i64 dst, .int .i64 id1, .int .i64 id2, .int .i64 b1, .int .i64 b2, .int .i64 a1, .int .i64 a2, .slice oa on oc, .bool fast, .slice da dn dc, .bool has, .int .i64 q1, .int .i64 q2, .bool gone, .int .i64 t1, .int .i64 t2, .slice va vn vc, .slice wa wn wc, .slice pa pn pc] 61) (.cells #[.int .i64 0, .int .i64 0, .int .i64 0, .int .i64 0, .int .i64 0, .int .i64 0, .int .i64 0, .int .i64 0, .int .i64 0, .slice none 0 0, .bool false, .slice none 0 0, .bool false, .int .i64 0, .int .i64 0, .bool false, .int .i64 0, .int .i64 0, .slice none 0 0, .slice none 0 0, .slice none 0 0] 61)
  have Km0 := Lib.hid kQm
  have Kr0 := Lib.hid kQr
  have HB0 := Lib.hid hb0
  have HE0 := Lib.hid he0
  clear he0 hb0 kQm kQr
  go_enter Tryz.func115, Tryz.ntmps115
  go_upto_region 1 with fail
  rw [← HE0.out]
  go_wp2_with (first | go_skip | ((with_reducible refine atW w1 ?_); refine storeM _ _ rfl (by rfl) _ rfl rfl Kr1.out rfl rfl (by simp [Value.oneCell']) ?_; intro w2 h1 h2; have Kr2 := Lib.hid h1; have hw2 := Nat.le_trans hw1 h2.size; have HB2 : Hid (Below W.heap.size W w2) := Lib.hid (below_grown9 HB1.out h2 (by omega)); have Km2 := Lib.hid (grown_other9 Km1.out h2 (by omega) (by omega)); clear h1 h2) | ((with_reducible refine atW w1 ?_); refine loadM _ rfl (by rfl) _ rfl Km1.out rfl ?_) | ((with_reducible refine atW w0 ?_); refine wpList_store_part _ _ _ rfl (by rfl) _ 19 rfl rfl (cs := #[.slice none 0 0]) rfl Km0.out (by kernel_rfl) (by simp) (by simp [Value.oneCell']) (D := #[.int .i64 kind, .int .i64 frm, .int .i64 dst, .int .i64 id1, .int .i64 id2, .int .i64 b1, .int .i64 b2, .int .i64 a1, .int .i64 a2, .slice oa on oc, .bool fast, .slice da dn dc, .bool has, .int .i64 q1, .int .i64 q2, .bool gone, .int .i64 t1, .int .i64 t2, .slice va vn vc, .slice none 0 0, .slice pa pn pc]) rfl ?_; intro w1 h1 h2; have Km1 := Lib.hid h1; have hw1 := Nat.le_trans hw0 h2.size; have HB1 : Hid (Below W.heap.size W w1) := Lib.hid (below_grown9 HB0.out h2 (by omega)); have Kr1 := Lib.hid (grown_other9 Kr0.out h2 (by omega) (by omega)); clear h1 h2))
  refine bodyPost_ret (results_cell_row Tryz.results115 _ _ _ 61 _ (0, 0) _ rfl Kr2.out Tryz.underlying61 rfl szMsg) rfl ?_
  exact ⟨⟨.slice oa on oc, .slice da dn dc, .slice va vn vc, .slice none 0 0, .slice pa pn pc⟩, rfl, ⟨HAT.out.o, HAT.out.d, HAT.out.v, slG_nil9 _ _, HAT.out.p⟩, HB2.out⟩
end SI
end Go.Proofs.YtgipkikedacmdaaGreat

namespace Go.Proofs.YtgipkikedacmdaaGreat
open S3 SN SP
namespace SC
open Go.ChangeShapes Go.WideShapes Go.ChangeAt Go.RowKit Go.Joins Go.Deep
theorem dsame9 (v v' : Value) (d d' : SD.Dd) (W : World) (h : DlV W v d) (h' : DlV W v' d') (hf : FewV d) : Calls Tryz.prog 63 #[v, v'] W fun e w' => e = .returned (.bool (decide (d = d'))) ∧ Below W.heap.size W w' := by
 obtain ⟨a, c, F, rfl, h1, h2, _⟩ := h
 obtain ⟨a', c', F', rfl, h1', h2', _⟩ := h'
 have := SD.refsame6_any a a' c c' F F' W (few_v h2 hf).1 h1 h1'
 rw [h2, h2'] at this
 exact this
theorem rsamev_any (a b : Vlu) (va vb : Value) (W : World) (ha : DlV W va a.2.2) (hb : DlV W vb b.2.2) (hf : FewV a.2.2) : Calls Tryz.prog 30 #[vlV a va, vlV b vb] W fun e w' => e = .returned (.bool (decide (a = b))) ∧ Below W.heap.size W w' := by
 have HS := hH (fun (Y : World) (hY : Below W.heap.size W Y) => dsame9 va vb a.2.2 b.2.2 Y (ha.later hY) (hb.later hY) hf)
 obtain ⟨g1, ⟨u1, v1⟩, d1⟩ := a
 obtain ⟨g2, ⟨u2, v2⟩, d2⟩ := b
 obtain ⟨aa, ac, aF, rfl, _⟩ := ha
 obtain ⟨ba, bc, bF, rfl, _⟩ := hb
 unfold vlV
 simp only at HS ⊢
 generalize aF.length = an at *
 generalize bF.length = bn at *
 clear hf
 cases g1 <;> cases g2
 ·by_cases hu : u1 = u2
  rotate_left
  ·have e1 : (u1 == u2) = false := by simpa using hu
   have hdf : decide (((false, (u1, v1), d1) : Vlu) = (false, (u2, v2), d2)) = false := decide_eq_false (by intro e; simp only [Prod.mk.injEq] at e; exact hu e.2.1.1)
   rw [hdf]
   clear hdf
   obtain ⟨w0, he0, hw0, kQa, kQb, hb0⟩ := boxes2 W (.cells #[.bool false, .int .i64 u1, .int .i64 v1, .slice aa an ac] 27) (.cells #[.bool false, .int .i64 u2, .int .i64 v2, .slice ba bn bc] 27)
   have Ka0 := hH kQa
   have Kb0 := hH kQb
   have HB0 := hH hb0
   have HE0 := hH he0
   clear he0 hb0 kQa kQb
   go_enter Tryz.func30, Tryz.ntmps30
   go_upto_region 1 with fail
   rw [← HE0.out]
   go_wp2_with (first | go_skip | ((with_reducible refine atW w0 ?_); refine wpList_load_part _ _ rfl (by rfl) _ 1 rfl Kb0.out Tryz.underlying23 rfl #[.int .i64 u2, .int .i64 v2] (by kernel_rfl) (two_at rfl rfl) ?_) | ((with_reducible refine atW w0 ?_); refine wpList_load_part _ _ rfl (by rfl) _ 1 rfl Ka0.out Tryz.underlying23 rfl #[.int .i64 u1, .int .i64 v1] (by kernel_rfl) (two_at rfl rfl) ?_) | ((with_reducible refine atW w0 ?_); refine wpList_load_one _ _ rfl (by rfl) _ 0 rfl Kb0.out Tryz.underlying4 rfl rfl ?_) | ((with_reducible refine atW w0 ?_); refine wpList_load_one _ _ rfl (by rfl) _ 0 rfl Ka0.out Tryz.underlying4 rfl rfl ?_))
   go_ret
   exact ⟨rfl, HB0.out⟩
  ·subst hu
   by_cases hv : v1 = v2
   rotate_left
   ·have e1 : (v1 == v2) = false := by simpa using hv
    have hdf : decide (((false, (u1, v1), d1) : Vlu) = (false, (u1, v2), d2)) = false := decide_eq_false (by intro e; simp only [Prod.mk.injEq] at e; exact hv e.2.1.2)
    rw [hdf]
    clear hdf
    obtain ⟨w0, he0, hw0, kQa, kQb, hb0⟩ := boxes2 W (.cells #[.bool false, .int .i64 u1, .int .i64 v1, .slice aa an ac] 27) (.cells #[.bool false, .int .i64 u1, .int .i64 v2, .slice ba bn bc] 27)
    have Ka0 := hH kQa
    have Kb0 := hH kQb
    have HB0 := hH hb0
    have HE0 := hH he0
    clear he0 hb0 kQa kQb
    go_enter Tryz.func30, Tryz.ntmps30
    go_upto_region 1 with fail
    rw [← HE0.out]
    go_wp2_with (first | go_skip | ((with_reducible refine atW w0 ?_); refine wpList_load_part _ _ rfl (by rfl) _ 1 rfl Kb0.out Tryz.underlying23 rfl #[.int .i64 u1, .int .i64 v2] (by kernel_rfl) (two_at rfl rfl) ?_) | ((with_reducible refine atW w0 ?_); refine wpList_load_part _ _ rfl (by rfl) _ 1 rfl Ka0.out Tryz.underlying23 rfl #[.int .i64 u1, .int .i64 v1] (by kernel_rfl) (two_at rfl rfl) ?_) | ((with_reducible refine atW w0 ?_); refine wpList_load_one _ _ rfl (by rfl) _ 0 rfl Kb0.out Tryz.underlying4 rfl rfl ?_) | ((with_reducible refine atW w0 ?_); refine wpList_load_one _ _ rfl (by rfl) _ 0 rfl Ka0.out Tryz.underlying4 rfl rfl ?_))
    go_ret
    exact ⟨rfl, HB0.out⟩
   ·subst hv
    have hdf : decide (((false, (u1, v1), d1) : Vlu) = (false, (u1, v1), d2)) = decide (d1 = d2) := decide_eq_decide.2 (by simp)
    rw [hdf]
    clear hdf
    generalize decide (d1 = d2) = dd at *
    obtain ⟨w0, he0, hw0, kQa, kQb, hb0⟩ := boxes2 W (.cells #[.bool false, .int .i64 u1, .int .i64 v1, .slice aa an ac] 27) (.cells #[.bool false, .int .i64 u1, .int .i64 v1, .slice ba bn bc] 27)
    have Ka0 := hH kQa
    have Kb0 := hH kQb
    have HB0 := hH hb0
    have HE0 := hH he0
    clear he0 hb0 kQa kQb
    go_enter Tryz.func30, Tryz.ntmps30
    go_upto_region 1 with fail
    rw [← HE0.out]
    go_wp2_with (first | go_skip | ((with_reducible refine atC w0 ?_); go_at_call 63; refine (HS.out _ HB0.out).mono ?_; rintro e w1 ⟨rfl, h5⟩; have hw1 := Nat.le_trans hw0 h5.size; have HB1 : Hid (Below W.heap.size W w1) := hH (blThen HB0.out h5); clear h5) | ((with_reducible refine atW w0 ?_); refine wpList_load_one _ _ rfl (by rfl) _ 3 rfl Kb0.out Tryz.underlying25 rfl rfl ?_) | ((with_reducible refine atW w0 ?_); refine wpList_load_one _ _ rfl (by rfl) _ 3 rfl Ka0.out Tryz.underlying25 rfl rfl ?_) | ((with_reducible refine atW w0 ?_); refine wpList_load_part _ _ rfl (by rfl) _ 1 rfl Kb0.out Tryz.underlying23 rfl #[.int .i64 u1, .int .i64 v1] (by kernel_rfl) (two_at rfl rfl) ?_) | ((with_reducible refine atW w0 ?_); refine wpList_load_part _ _ rfl (by rfl) _ 1 rfl Ka0.out Tryz.underlying23 rfl #[.int .i64 u1, .int .i64 v1] (by kernel_rfl) (two_at rfl rfl) ?_) | ((with_reducible refine atW w0 ?_); refine wpList_load_one _ _ rfl (by rfl) _ 0 rfl Kb0.out Tryz.underlying4 rfl rfl ?_) | ((with_reducible refine atW w0 ?_); refine wpList_load_one _ _ rfl (by rfl) _ 0 rfl Ka0.out Tryz.underlying4 rfl rfl ?_))
    go_ret
    exact ⟨rfl, HB1.out⟩
 ·have hdf : decide (((false, (u1, v1), d1) : Vlu) = (true, (u2, v2), d2)) = false := decide_eq_false (by intro e; simp only [Prod.mk.injEq] at e; cases e.1)
  rw [hdf]
  clear hdf
  obtain ⟨w0, he0, hw0, kQa, kQb, hb0⟩ := boxes2 W (.cells #[.bool false, .int .i64 u1, .int .i64 v1, .slice aa an ac] 27) (.cells #[.bool true, .int .i64 u2, .int .i64 v2, .slice ba bn bc] 27)
  have Ka0 := hH kQa
  have Kb0 := hH kQb
  have HB0 := hH hb0
  have HE0 := hH he0
  clear he0 hb0 kQa kQb
  go_enter Tryz.func30, Tryz.ntmps30
  go_upto_region 1 with fail
  rw [← HE0.out]
  go_wp2_with (first | go_skip | ((with_reducible refine atW w0 ?_); refine wpList_load_one _ _ rfl (by rfl) _ 0 rfl Kb0.out Tryz.underlying4 rfl rfl ?_) | ((with_reducible refine atW w0 ?_); refine wpList_load_one _ _ rfl (by rfl) _ 0 rfl Ka0.out Tryz.underlying4 rfl rfl ?_))
  go_ret
  exact ⟨rfl, HB0.out⟩
 ·have hdf : decide (((true, (u1, v1), d1) : Vlu) = (false, (u2, v2), d2)) = false := decide_eq_false (by intro e; simp only [Prod.mk.injEq] at e; cases e.1)
  rw [hdf]
  clear hdf
  obtain ⟨w0, he0, hw0, kQa, kQb, hb0⟩ := boxes2 W (.cells #[.bool true, .int .i64 u1, .int .i64 v1, .slice aa an ac] 27) (.cells #[.bool false, .int .i64 u2, .int .i64 v2, .slice ba bn bc] 27)
  have Ka0 := hH kQa
  have Kb0 := hH kQb
  have HB0 := hH hb0
  have HE0 := hH he0
  clear he0 hb0 kQa kQb
  go_enter Tryz.func30, Tryz.ntmps30
  go_upto_region 1 with fail
  rw [← HE0.out]
  go_wp2_with (first | go_skip | ((with_reducible refine atW w0 ?_); refine wpList_load_one _ _ rfl (by rfl) _ 0 rfl Kb0.out Tryz.underlying4 rfl rfl ?_) | ((with_reducible refine atW w0 ?_); refine wpList_load_one _ _ rfl (by rfl) _ 0 rfl Ka0.out Tryz.underlying4 rfl rfl ?_))
  go_ret
  exact ⟨rfl, HB0.out⟩
 ·by_cases hu : u1 = u2
  rotate_left
  ·have e1 : (u1 == u2) = false := by simpa using hu
   have hdf : decide (((true, (u1, v1), d1) : Vlu) = (true, (u2, v2), d2)) = false := decide_eq_false (by intro e; simp only [Prod.mk.injEq] at e; exact hu e.2.1.1)
   rw [hdf]
   clear hdf
   obtain ⟨w0, he0, hw0, kQa, kQb, hb0⟩ := boxes2 W (.cells #[.bool true, .int .i64 u1, .int .i64 v1, .slice aa an ac] 27) (.cells #[.bool true, .int .i64 u2, .int .i64 v2, .slice ba bn bc] 27)
   have Ka0 := hH kQa
   have Kb0 := hH kQb
   have HB0 := hH hb0
   have HE0 := hH he0
   clear he0 hb0 kQa kQb
   go_enter Tryz.func30, Tryz.ntmps30
   go_upto_region 1 with fail
   rw [← HE0.out]
   go_wp2_with (first | go_skip | ((with_reducible refine atW w0 ?_); refine wpList_load_part _ _ rfl (by rfl) _ 1 rfl Kb0.out Tryz.underlying23 rfl #[.int .i64 u2, .int .i64 v2] (by kernel_rfl) (two_at rfl rfl) ?_) | ((with_reducible refine atW w0 ?_); refine wpList_load_part _ _ rfl (by rfl) _ 1 rfl Ka0.out Tryz.underlying23 rfl #[.int .i64 u1, .int .i64 v1] (by kernel_rfl) (two_at rfl rfl) ?_) | ((with_reducible refine atW w0 ?_); refine wpList_load_one _ _ rfl (by rfl) _ 0 rfl Kb0.out Tryz.underlying4 rfl rfl ?_) | ((with_reducible refine atW w0 ?_); refine wpList_load_one _ _ rfl (by rfl) _ 0 rfl Ka0.out Tryz.underlying4 rfl rfl ?_))
   go_ret
   exact ⟨rfl, HB0.out⟩
  ·subst hu
   by_cases hv : v1 = v2
   rotate_left
   ·have e1 : (v1 == v2) = false := by simpa using hv
    have hdf : decide (((true, (u1, v1), d1) : Vlu) = (true, (u1, v2), d2)) = false := decide_eq_false (by intro e; simp only [Prod.mk.injEq] at e; exact hv e.2.1.2)
    rw [hdf]
    clear hdf
    obtain ⟨w0, he0, hw0, kQa, kQb, hb0⟩ := boxes2 W (.cells #[.bool true, .int .i64 u1, .int .i64 v1, .slice aa an ac] 27) (.cells #[.bool true, .int .i64 u1, .int .i64 v2, .slice ba bn bc] 27)
    have Ka0 := hH kQa
    have Kb0 := hH kQb
    have HB0 := hH hb0
    have HE0 := hH he0
    clear he0 hb0 kQa kQb
    go_enter Tryz.func30, Tryz.ntmps30
    go_upto_region 1 with fail
    rw [← HE0.out]
    go_wp2_with (first | go_skip | ((with_reducible refine atW w0 ?_); refine wpList_load_part _ _ rfl (by rfl) _ 1 rfl Kb0.out Tryz.underlying23 rfl #[.int .i64 u1, .int .i64 v2] (by kernel_rfl) (two_at rfl rfl) ?_) | ((with_reducible refine atW w0 ?_); refine wpList_load_part _ _ rfl (by rfl) _ 1 rfl Ka0.out Tryz.underlying23 rfl #[.int .i64 u1, .int .i64 v1] (by kernel_rfl) (two_at rfl rfl) ?_) | ((with_reducible refine atW w0 ?_); refine wpList_load_one _ _ rfl (by rfl) _ 0 rfl Kb0.out Tryz.underlying4 rfl rfl ?_) | ((with_reducible refine atW w0 ?_); refine wpList_load_one _ _ rfl (by rfl) _ 0 rfl Ka0.out Tryz.underlying4 rfl rfl ?_))
    go_ret
    exact ⟨rfl, HB0.out⟩
   ·subst hv
    have hdf : decide (((true, (u1, v1), d1) : Vlu) = (true, (u1, v1), d2)) = decide (d1 = d2) := decide_eq_decide.2 (by simp)
    rw [hdf]
    clear hdf
    generalize decide (d1 = d2) = dd at *
    obtain ⟨w0, he0, hw0, kQa, kQb, hb0⟩ := boxes2 W (.cells #[.bool true, .int .i64 u1, .int .i64 v1, .slice aa an ac] 27) (.cells #[.bool true, .int .i64 u1, .int .i64 v1, .slice ba bn bc] 27)
    have Ka0 := hH kQa
    have Kb0 := hH kQb
    have HB0 := hH hb0
    have HE0 := hH he0
    clear he0 hb0 kQa kQb
    go_enter Tryz.func30, Tryz.ntmps30
    go_upto_region 1 with fail
    rw [← HE0.out]
    go_wp2_with (first | go_skip | ((with_reducible refine atC w0 ?_); go_at_call 63; refine (HS.out _ HB0.out).mono ?_; rintro e w1 ⟨rfl, h5⟩; have hw1 := Nat.le_trans hw0 h5.size; have HB1 : Hid (Below W.heap.size W w1) := hH (blThen HB0.out h5); clear h5) | ((with_reducible refine atW w0 ?_); refine wpList_load_one _ _ rfl (by rfl) _ 3 rfl Kb0.out Tryz.underlying25 rfl rfl ?_) | ((with_reducible refine atW w0 ?_); refine wpList_load_one _ _ rfl (by rfl) _ 3 rfl Ka0.out Tryz.underlying25 rfl rfl ?_) | ((with_reducible refine atW w0 ?_); refine wpList_load_part _ _ rfl (by rfl) _ 1 rfl Kb0.out Tryz.underlying23 rfl #[.int .i64 u1, .int .i64 v1] (by kernel_rfl) (two_at rfl rfl) ?_) | ((with_reducible refine atW w0 ?_); refine wpList_load_part _ _ rfl (by rfl) _ 1 rfl Ka0.out Tryz.underlying23 rfl #[.int .i64 u1, .int .i64 v1] (by kernel_rfl) (two_at rfl rfl) ?_) | ((with_reducible refine atW w0 ?_); refine wpList_load_one _ _ rfl (by rfl) _ 0 rfl Kb0.out Tryz.underlying4 rfl rfl ?_) | ((with_reducible refine atW w0 ?_); refine wpList_load_one _ _ rfl (by rfl) _ 0 rfl Ka0.out Tryz.underlying4 rfl rfl ?_))
    go_ret
    exact ⟨rfl, HB1.out⟩

theorem yields_row {P : Program} {ops : Array Oper} {S : World → Prop} {op : Oper} {a : Act} (hw : Region.wanted op (yielded ops a.tmps) = true) (ty : TypeId) (x : Operand) (ho : op.op = .load ty x)
  (b o : Nat) (hx : a.eval x = .pointer (some ⟨b, o, none⟩)) {C : Array Value} {T : TypeId} {fr : Nat × Nat} (hS : ∀ w, S w → w.heap[b]? = some (.cells C T fr)) {d : TypeDesc} (hu : P.underlying ty = some d) (hd : d.isRow = true) (cs : Array Value) (hi : (P.info? ty).map (·.size) = some cs.toList.length) (hcs : ∀ j v, cs.toList[j]? = some v → C[o + j]? = some v) : YieldsIf P ops S op (.agg cs) a := by
 have := yieldsIf_load_mid (P := P) (ops := ops) (S := S) hw ty x ho b o hx cs.toList d (fun w hw => range_part (hS w hw) o cs.toList hcs) hu hd hi
 rwa [Array.toArray_toList] at this
theorem all_at {C : Array Value} : ∀ j v, C.toList[j]? = some v → C[0 + j]? = some v := by
 intro j v h
 rw [Nat.zero_add]
 simpa using h
def opL : Opr := (1, ⟨#[97]⟩, ⟨#[]⟩, 0)

def szL {α : Type} (f : α → Nat) (l : List α) : Nat := (l.map f).sum
theorem szL_take {α : Type} (f : α → Nat) {l : List α} {k : Nat} {x : α} (h : l[k]? = some x) : szL f (l.take (k + 1)) = szL f (l.take k) + f x := by
 unfold szL
 rw [List.take_add_one, h]
 simp
theorem szL_big {α : Type} (f : α → Nat) (R : Nat) {l : List α} (h : ∀ x ∈ l, f x ≤ R) (k : Nat) : szL f (l.take k) ≤ k * R := by
 induction k with
 | zero => simp [szL]
 | succ k ih =>
  by_cases hk : k < l.length
  ·obtain ⟨x, hx⟩ := at_lt hk
   have := h x (List.mem_of_getElem? hx)
   rw [szL_take f hx, Nat.add_mul]
   omega
  ·have e : l.take (k + 1) = l.take k := by rw [List.take_of_length_le (by omega), List.take_of_length_le (by omega)]
   rw [e]
   exact Nat.le_trans ih (Nat.mul_le_mul_right _ (Nat.le_succ k))
def fO (o : Opr) : Nat := o.2.1.size + o.2.2.1.size
def fD (x : Int × List (Int × Int)) : Nat := x.2.length
def fW (x : Wrt) : Nat := x.1.size
def fP (x : ByteArray × Nat) : Nat := x.1.size
theorem w64_9 {x : Int} (h1 : 0 ≤ x) (h2 : x < 9223372036854775808) : wrap64 x = x := by unfold wrap64; omega
theorem cell_up9 {w w' : World} {b i : Nat} {v : Value} (h5 : Below w.heap.size w w') (hl : b < w.heap.size) (hc : w.cell? ⟨b, i, none⟩ = some v) : w'.cell? ⟨b, i, none⟩ = some v := cell_in h5 hl hc

structure AcAt (W : World) (x : Act9) (l : Pl) : Prop where
 o : SlG eO W l.o x.ops
 s : DlV W l.s x.deps
 d : DlV W l.d x.val.2.2
 w : SlG eW W l.w x.writes
 p : SlG eP W l.p x.pairs
theorem AcAt.later {W X : World} {c : Act9} {l : Pl} (h : AcAt W c l) (hb : Below W.heap.size W X) : AcAt X c l := ⟨h.o.later hb, h.s.later hb, h.d.later hb, h.w.later hb, h.p.later hb⟩
def CmS (S : Nat → Prop) (w : World) (c : Cm) (l : Pl) : Prop := ∀ w2, S2.Keeps S w w2 → CmAt w2 c l
def AcS (S : Nat → Prop) (w : World) (x : Act9) (l : Pl) : Prop := ∀ w2, S2.Keeps S w w2 → AcAt w2 x l
theorem CmS.at {S : Nat → Prop} {w : World} {c : Cm} {l : Pl} (h : CmS S w c l) : CmAt w c l := h w (S2.Keeps.refl _ _)
theorem CmS.next {S : Nat → Prop} {w x : World} {c : Cm} {l : Pl} (h : CmS S w c l) (hb : Below w.heap.size w x) : CmS S x c l := fun w2 k => h w2 ((S2.Keeps.ofBelow hb).then k)
theorem AcS.next {S : Nat → Prop} {w x : World} {c : Act9} {l : Pl} (h : AcS S w c l) (hb : Below w.heap.size w x) : AcS S x c l := fun w2 k => h w2 ((S2.Keeps.ofBelow hb).then k)

theorem cellsOps9 : Tryz.prog.cellsOf 24 = 1 := by kernel_rfl
theorem cellsWrs9 : Tryz.prog.cellsOf 28 = 1 := by kernel_rfl
theorem cellsPrs9 : Tryz.prog.cellsOf 29 = 1 := by kernel_rfl
structure AcR where
 kind : Int
 ops : List Opr
 oa : Option Addr
 oc : Nat
 a : Stp
 b : Stp
 fast : Bool
 sF : List SD.Dp
 sa : Option Addr
 sc : Nat
 g : Bool
 t : Stp
 dF : List SD.Dp
 da : Option Addr
 dc : Nat
 ws : List Wrt
 wa : Option Addr
 wc : Nat
 ps : Al Nat
 pa : Option Addr
 pc : Nat
def AcR.x (r : AcR) : Act9 := ⟨r.kind, r.ops, r.a, r.b, r.fast, SD.toD r.sF, (r.g, r.t, SD.toD r.dF), r.ws, r.ps⟩
def AcR.l (r : AcR) : Pl := ⟨.slice r.oa r.ops.length r.oc, .slice r.sa r.sF.length r.sc, .slice r.da r.dF.length r.dc, .slice r.wa r.ws.length r.wc, .slice r.pa r.ps.length r.pc⟩
section
variable {H : Type} {enc : TypeId × Value → H}
def WB (t : TypeId) (d : DataW H) (n : Nat) : Prop := n = 0 ∨ ∃ m ∈ d.weights Tryz.prog t, n ≤ m
theorem WB.up {t s : TypeId} {d e : DataW H} {n : Nat} (h : WB t d n) (hm : ∀ m ∈ d.weights Tryz.prog t, m ∈ e.weights Tryz.prog s) : WB s e n := by
 rcases h with h | ⟨m, h1, h2⟩
 ·exact .inl h
 ·exact .inr ⟨m, hm m h1, h2⟩
theorem WB.reach {t : TypeId} {d : DataW H} {n : Nat} (h : WB t d n) {ts : List TypeId} {ds : List (DataW H)} (hsz : (DataW.weightsEach Tryz.prog ts ds).all (· ≤ reachBytes) = true) {j : Nat} (ht : ts[j]? = some t) (hd : ds[j]? = some d) : n ≤ 140737488355328 := by
 rcases h with h | ⟨m, h1, h2⟩
 ·omega
 ·exact Nat.le_trans h2 (reach_of hsz ht hd h1)
theorem WB.inw {t : TypeId} {d : DataW H} {k : ByteArray} (h : InW t d k) : WB t d k.size := .inr h
theorem field_w {t ti : TypeId} {fs : Array Field} (hu : Tryz.prog.underlying t = some (.struct fs)) {ds : List (DataW H)} {d : DataW H} (i : Nat) (ht : (fs.toList.map (·.type))[i]? = some ti) (hd : ds[i]? = some d) : ∀ m ∈ d.weights Tryz.prog ti, m ∈ (DataW.agg ds : DataW H).weights Tryz.prog t := by
 intro m hm
 simp only [DataW.weights, hu]
 exact DataW.weights_mem_each ht hd m hm
theorem len_weight9 {t e : TypeId} {w : World} {fuel : Nat} {a : Option Addr} {n c : Nat} {x : DataW H × List MemPlace} (hu : Tryz.prog.underlying t = some (.slice e)) (hb : 0 < Tryz.prog.bytesOf e) (hf : DataW.trod enc Tryz.prog w 0 (fun _ => true) true fuel t [.slice a n c] = some x) : WB t x.1 n := by
 rcases open_slice hu hf with ⟨hcs, _⟩ | ⟨a', len, cap, m, k, D, Pl, hcs, _, hl, hm, hmm, hx, hi⟩
 ·simp only [List.cons.injEq, Value.slice.injEq, and_true] at hcs
  exact .inl hcs.2.1
 ·simp only [List.cons.injEq, Value.slice.injEq, and_true] at hcs
  obtain ⟨rfl, rfl, rfl⟩ := hcs
  have hx1 := congrArg Prod.fst hx
  simp only at hx1
  refine .inr ⟨(n + (m - n)) * Tryz.prog.bytesOf e, ?_, ?_⟩
  ·rw [hx1]
   simp only [DataW.weights, hu, List.length_map, List.length_range]
   exact List.mem_cons_self
  ·have h3 : n * 1 ≤ (n + (m - n)) * Tryz.prog.bytesOf e := Nat.mul_le_mul (by omega) hb
   omega
theorem bytesWr9e : 0 < Tryz.prog.bytesOf 84 := of_decide_eq_true (by kernel_rfl)
theorem bytesPr9e : 0 < Tryz.prog.bytesOf 86 := of_decide_eq_true (by kernel_rfl)
theorem bytesOp9e : 0 < Tryz.prog.bytesOf 79 := of_decide_eq_true (by kernel_rfl)
theorem bytesDp9e : 0 < Tryz.prog.bytesOf 82 := of_decide_eq_true (by kernel_rfl)
structure WX (t : TypeId) (y : DataW H) (r : AcR) : Prop where
 ol : WB t y r.ops.length
 sl : WB t y r.sF.length
 dl : WB t y r.dF.length
 wl : WB t y r.ws.length
 pl : WB t y r.ps.length
 o : ∀ q ∈ r.ops, WB t y q.2.1.size ∧ WB t y q.2.2.1.size
 s : ∀ q ∈ r.sF, WB t y q.ids.length
 d : ∀ q ∈ r.dF, WB t y q.ids.length
 w : ∀ q ∈ r.ws, WB t y q.1.size
 p : ∀ q ∈ r.ps, WB t y q.1.size
theorem WX.up {t s : TypeId} {d e : DataW H} {r : AcR} (h : WX t d r) (hm : ∀ m ∈ d.weights Tryz.prog t, m ∈ e.weights Tryz.prog s) : WX s e r :=
 ⟨h.ol.up hm, h.sl.up hm, h.dl.up hm, h.wl.up hm, h.pl.up hm, fun q hq => ⟨(h.o q hq).1.up hm, (h.o q hq).2.up hm⟩, fun q hq => (h.s q hq).up hm, fun q hq => (h.d q hq).up hm, fun q hq => (h.w q hq).up hm, fun q hq => (h.p q hq).up hm⟩
theorem ops_cells9 {w : World} {cs : List Value} {fuel : Nat} {x : DataW H × List MemPlace} (hf' : DataW.trod enc Tryz.prog w 0 (fun _ => true) true fuel 24 cs = some x) :
  ∃ (v : Value) (l : List Opr), cs = [v] ∧ SlG eO w v l ∧ l.length ≤ 9223372036854775807 ∧ ∀ q ∈ l, (Lit.int .i64 q.1).wf = true ∧ q.2.2.2 < 18446744073709551616 ∧ InW 24 x.1 q.2.1 ∧ InW 24 x.1 q.2.2.1 := by
 rcases open_slice Tryz.underlying24 hf' with ⟨hcs, _⟩ | ⟨a, len, cap, m, n, D, Pl, hcs, _, hl, hm, hmm, hx, hi⟩
 ·exact ⟨_, [], hcs, SlG.nil _, Nat.zero_le _, fun q hq => by cases hq⟩
 ·subst hcs
  simp only [if_true] at hmm
  subst hmm
  have hx1 := congrArg Prod.fst hx
  simp only at hx1
  obtain ⟨l, hl1, hl2, hl3⟩ := slG_of (E := eO) (w := w) (a := a) (len := len) (cap := m) (P := fun i q => (Lit.int .i64 q.1).wf = true ∧ q.2.2.2 < 18446744073709551616 ∧ InW 79 (D i) q.2.1 ∧ InW 79 (D i) q.2.2.1) (fun i hlt => by
   obtain ⟨cs', hc, ht⟩ := hi i (by omega)
   rw [cellsOp] at hc
   obtain ⟨_, hlen, hat⟩ := World.cells?_some hc
   match cs', hlen with
   | [c0, c1, c2, c3], _ =>
    obtain ⟨y0, y1, y2, y3, k, hfs, _, h0, h1, h2, h3⟩ := Go.Joins.trod_struct4 Tryz.underlying79 ht
    have e0 : DataW.trod enc Tryz.prog w 0 (fun _ => true) true k 3 [c0] = some y0 := by simpa [cellsIt] using h0
    have e1 : DataW.trod enc Tryz.prog w 0 (fun _ => true) true k 9 [c1] = some y1 := by simpa [cells_str] using h1
    have e2 : DataW.trod enc Tryz.prog w 0 (fun _ => true) true k 9 [c2] = some y2 := by simpa [cells_str] using h2
    have e3 : DataW.trod enc Tryz.prog w 0 (fun _ => true) true k 77 [c3] = some y3 := by simpa [cellsNm] using h3
    obtain ⟨kd, hk0, _, wk⟩ := DataW.trod_int Tryz.underlying3 e0
    obtain ⟨xs, hx0, hxd, _⟩ := DataW.trod_string Tryz.underlying9 e1
    obtain ⟨z, hz0, hzd, _⟩ := DataW.trod_string Tryz.underlying9 e2
    obtain ⟨y, hy0, _, wy⟩ := DataW.trod_int Tryz.underlying77 e3
    simp only [List.cons.injEq, and_true] at hk0 hx0 hz0 hy0
    subst hk0 hx0 hz0 hy0
    obtain ⟨yn, hyn, rfl⟩ := nat8 wy
    have hD : D i = .agg [y0.1, y1.1, y2.1, y3.1] := congrArg Prod.fst hfs
    refine ⟨(kd, xs, z, yn), ⟨wk, hyn, ⟨xs.data.toList.length, ?_, by rw [ba_len]; exact Nat.le_refl _⟩, ⟨z.data.toList.length, ?_, by rw [ba_len]; exact Nat.le_refl _⟩⟩, fun j u hu => ?_⟩
    ·rw [hD]
     simp only [DataW.weights, Tryz.underlying79]
     refine List.mem_append_right _ (List.mem_append_left _ ?_)
     rw [hxd]
     simp [DataW.weights]
    ·rw [hD]
     simp only [DataW.weights, Tryz.underlying79]
     refine List.mem_append_right _ (List.mem_append_right _ (List.mem_append_left _ ?_))
     rw [hzd]
     simp [DataW.weights]
    ·match j, hu with
     | 0, hu => simp only [eO, List.getElem?_cons_zero, Option.some.injEq] at hu; subst hu; exact hat 0 (by omega)
     | 1, hu => simp only [eO, List.getElem?_cons_succ, List.getElem?_cons_zero, Option.some.injEq] at hu; subst hu; exact hat 1 (by omega)
     | 2, hu => simp only [eO, List.getElem?_cons_succ, List.getElem?_cons_zero, Option.some.injEq] at hu; subst hu; exact hat 2 (by omega)
     | 3, hu => simp only [eO, List.getElem?_cons_succ, List.getElem?_cons_zero, Option.some.injEq] at hu; subst hu; exact hat 3 (by omega)
     | j + 4, hu => simp [eO] at hu)
  unfold maxLen at hm
  refine ⟨_, l, rfl, hl2, by omega, fun q hq => ?_⟩
  obtain ⟨i, hil, h0, h1, ⟨n1, h2, h3⟩, n2, h4, h5⟩ := hl3 q hq
  have hmem : D i ∈ (List.range len).map D := List.mem_map.2 ⟨i, List.mem_range.2 hil, rfl⟩
  refine ⟨h0, h1, ⟨n1, ?_, h3⟩, n2, ?_, h5⟩
  ·rw [hx1]; exact weights_elem Tryz.underlying24 hmem h2
  ·rw [hx1]; exact weights_elem Tryz.underlying24 hmem h4
theorem pairs_cells9 {w : World} {cs : List Value} {fuel : Nat} {x : DataW H × List MemPlace} (hf' : DataW.trod enc Tryz.prog w 0 (fun _ => true) true fuel 29 cs = some x) :
  ∃ (v : Value) (l : Al Nat), cs = [v] ∧ SlG eP w v l ∧ l.length ≤ 9223372036854775807 ∧ ∀ q ∈ l, q.2 < 18446744073709551616 ∧ InW 29 x.1 q.1 := by
 rcases open_slice Tryz.underlying29 hf' with ⟨hcs, _⟩ | ⟨a, len, cap, m, n, D, Pl, hcs, _, hl, hm, hmm, hx, hi⟩
 ·exact ⟨_, [], hcs, SlG.nil _, Nat.zero_le _, fun q hq => by cases hq⟩
 ·subst hcs
  simp only [if_true] at hmm
  subst hmm
  have hx1 := congrArg Prod.fst hx
  simp only at hx1
  obtain ⟨l, hl1, hl2, hl3⟩ := slG_of (E := eP) (w := w) (a := a) (len := len) (cap := m) (P := fun i q => q.2 < 18446744073709551616 ∧ InW 86 (D i) q.1) (fun i hlt => by
   obtain ⟨cs', hc, ht⟩ := hi i (by omega)
   rw [cellsPr] at hc
   obtain ⟨_, hlen, hat⟩ := World.cells?_some hc
   match cs', hlen with
   | [c0, c1], _ =>
    obtain ⟨y0, y1, k, hfs, _, h0, h1⟩ := trod_struct2 Tryz.underlying86 ht
    have e0 : DataW.trod enc Tryz.prog w 0 (fun _ => true) true k 9 [c0] = some y0 := by simpa [cells_str] using h0
    have e1 : DataW.trod enc Tryz.prog w 0 (fun _ => true) true k 77 [c1] = some y1 := by simpa [cellsNm] using h1
    obtain ⟨xs, hx0, hxd, _⟩ := DataW.trod_string Tryz.underlying9 e0
    obtain ⟨y, hy0, _, wy⟩ := DataW.trod_int Tryz.underlying77 e1
    simp only [List.cons.injEq, and_true] at hx0 hy0
    subst hx0 hy0
    obtain ⟨yn, hyn, rfl⟩ := nat8 wy
    have hD : D i = .agg [y0.1, y1.1] := congrArg Prod.fst hfs
    refine ⟨(xs, yn), ⟨hyn, xs.data.toList.length, ?_, by rw [ba_len]; exact Nat.le_refl _⟩, fun j u hu => ?_⟩
    ·rw [hD]
     simp only [DataW.weights, Tryz.underlying86]
     refine List.mem_append_left _ ?_
     rw [hxd]
     simp [DataW.weights]
    ·match j, hu with
     | 0, hu => simp only [eP, List.getElem?_cons_zero, Option.some.injEq] at hu; subst hu; exact hat 0 (by omega)
     | 1, hu => simp only [eP, List.getElem?_cons_succ, List.getElem?_cons_zero, Option.some.injEq] at hu; subst hu; exact hat 1 (by omega)
     | j + 2, hu => simp [eP] at hu)
  unfold maxLen at hm
  refine ⟨_, l, rfl, hl2, by omega, fun q hq => ?_⟩
  obtain ⟨i, hil, h1, n, h2, h3⟩ := hl3 q hq
  refine ⟨h1, n, ?_, h3⟩
  rw [hx1]
  exact weights_elem Tryz.underlying29 (List.mem_map.2 ⟨i, List.mem_range.2 hil, rfl⟩) h2
end
end SC
end Go.Proofs.YtgipkikedacmdaaGreat
