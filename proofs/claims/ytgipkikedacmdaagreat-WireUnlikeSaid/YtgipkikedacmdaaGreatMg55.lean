/- WireUnlike: unlike messages have unlike bytes, the same ones the same: whatever two messages, the law returns true and leaves its arguments as they were. Conditions: none. -/
import Derived.Deep.RegionHeld3
import Derived.WalkSpells
import Derived.SizedLaws
import Derived.Test.YtgipkikedacmdaaGreatMg54
import Derived.Test.YtgipkikedacmdaaGreatMg51
import Derived.Test.YtgipkikedacmdaaGreatMg53
import Derived.Test.YtgipkikedacmdaaGreatMg07
set_option maxRecDepth 100000
set_option maxHeartbeats 16000000
set_option linter.unusedVariables false
set_option linter.unusedSimpArgs false
namespace Go.Proofs.YtgipkikedacmdaaGreat
open S3 SC SN SP
namespace SI
open Go.ChangeShapes Go.WideShapes Go.ChangeAt Go.RowKit Go.Joins Go.Deep
def sL : Mg := ⟨1, 1, 2, (3, 1), z2, z2, [opL], false, [], false, z2, val0, [], []⟩
def sB : Mg := ⟨1, 1, 2, (3, 1), z2, z2, [], false, [], false, z2, val0, [], []⟩
def lS (k : Nat) : PlM := ⟨.slice (some ⟨k, 0, none⟩) 1 1, .slice none 0 0, .slice none 0 0, .slice none 0 0, .slice none 0 0⟩
def lN : PlM := ⟨.slice none 0 0, .slice none 0 0, .slice none 0 0, .slice none 0 0, .slice none 0 0⟩
theorem sL_check : checkMB sL = true := by decide +kernel
theorem sB_check : checkMB sB = false := by decide +kernel
theorem mg0_check : checkM mg0 = 130 := by decide +kernel
theorem few_sL : FewM sL := ⟨by decide, ⟨by decide, by decide⟩, ⟨by decide, by decide⟩, by decide, by decide⟩
theorem few_sB : FewM sB := ⟨by decide, ⟨by decide, by decide⟩, ⟨by decide, by decide⟩, by decide, by decide⟩
theorem few_mg0 : FewM mg0 := ⟨by decide, ⟨by decide, by decide⟩, ⟨by decide, by decide⟩, by decide, by decide⟩
theorem put_sL : PutM sL := ⟨fun o ho => (by have e : o = opL := (by simpa [sL] using ho); rw [e]; exact ⟨by decide, by decide⟩), fun o ho => (by cases ho), fun o ho => (by cases ho)⟩
theorem put_sB : PutM sB := ⟨fun o ho => (by cases ho), fun o ho => (by cases ho), fun o ho => (by cases ho)⟩
theorem num_sL : NumM sL := ⟨fun o ho => (by have e : o = opL := (by simpa [sL] using ho); rw [e]; decide), fun o ho => (by cases ho), fun o ho => (by cases ho), by decide, by decide⟩
theorem parse_sL : parseM (layM sL) = some sL := parseM_back sL_check num_sL
theorem len_sL : (layM sL).length = 180 := by
 rw [layM_len, bodyM_is]
 rfl
theorem ms_nil (W : World) : MsAt W mg0 lN := nil_ms W
theorem ms_nilB (W : World) : MsAt W sB lN := ⟨slG_nil9 _ _, dlV_nil9 _, dlV_nil9 _, slG_nil9 _ _, slG_nil9 _ _⟩
theorem slG_block {α : Type} {E : Enc α} {w : World} {k : Nat} {cs : Array Value} {T : TypeId} (h : w.heap[k]? = some (.cells cs T (0, 0))) (l : List α) (hcs : cs = (cellsG E l).toArray) (n : Nat) (hn : n = l.length) : SlG E w (.slice (some ⟨k, 0, none⟩) n n) l := by
 subst hcs
 subst hn
 refine ⟨_, _, rfl, fun h => (by cases h), fun _ => ⟨k, 0, rfl, lt_of_block h, fun i y hi j u hu => ?_⟩⟩
 have e := cellsG_at l i y hi j (enc_lt hu)
 rw [hu] at e
 simp only [World.cell?, h]
 simpa using e
theorem row_len {w : World} {g : Option Nat} {v : Value} {l : List UInt8} (h : S2.Row w g v l) : ∃ a cap, v = .slice a l.length cap ∧ (a ≠ none → l.length ≤ cap) ∧ S2.Bw w (g.getD 0) v l := by
 have hb := h.bs.bw
 rcases h.1.2 with ⟨rfl, h0⟩ | ⟨b, cap, cur, rfl, _, _, hc, _⟩
 ·refine ⟨none, 0, ?_, fun h => absurd rfl h, hb⟩
  have e : l.length = 0 := h0
  rw [e]
 ·exact ⟨_, cap, rfl, fun _ => hc, hb⟩
theorem num13_any (n : Int) (w : World) : Calls Tryz.prog 37 #[.int .i64 n] w fun e w' => e = .returned (.int .i64 n) ∧ w = w' := by
 go_enter Tryz.func37, Tryz.ntmps37
 go_wp2
 go_ret
 exact ⟨rfl, rfl⟩
theorem some_any2 (W : World) : Calls Tryz.prog 96 #[] W fun e w' => ∃ k, e = .returned (.agg (msR sL (lS k))) ∧ MsAt w' sL (lS k) ∧ Below W.heap.size W w' ∧ W.heap.size ≤ k ∧ w'.heap[k]? = some (.cells #[.int .i64 1, .string ⟨#[97]⟩, .string ⟨#[]⟩, .int .u64 0] 79 (0, 0)) := by
 have K0 : Hid (((W.alloc (.cells #[.int .i64 0, .int .i64 0, .int .i64 0, .int .i64 0, .int .i64 0, .int .i64 0, .int .i64 0, .int .i64 0, .int .i64 0, .slice none 0 0, .bool false, .slice none 0 0, .bool false, .int .i64 0, .int .i64 0, .bool false, .int .i64 0, .int .i64 0, .slice none 0 0, .slice none 0 0, .slice none 0 0] 61)).alloc (.cells #[.int .i64 1, .string ⟨#[97]⟩, .string ⟨#[]⟩, .int .u64 0] 79)).heap[W.heap.size]? = some (.cells #[.int .i64 0, .int .i64 0, .int .i64 0, .int .i64 0, .int .i64 0, .int .i64 0, .int .i64 0, .int .i64 0, .int .i64 0, .slice none 0 0, .bool false, .slice none 0 0, .bool false, .int .i64 0, .int .i64 0, .bool false, .int .i64 0, .int .i64 0, .slice none 0 0, .slice none 0 0, .slice none 0 0] 61 (0, 0))) := Lib.hid (nth_box W [(.cells #[.int .i64 0, .int .i64 0, .int .i64 0, .int .i64 0, .int .i64 0, .int .i64 0, .int .i64 0, .int .i64 0, .int .i64 0, .slice none 0 0, .bool false, .slice none 0 0, .bool false, .int .i64 0, .int .i64 0, .bool false, .int .i64 0, .int .i64 0, .slice none 0 0, .slice none 0 0, .slice none 0 0] 61), (.cells #[.int .i64 1, .string ⟨#[97]⟩, .string ⟨#[]⟩, .int .u64 0] 79)] 0 _ rfl).1
 have K1 : Hid (((W.alloc (.cells #[.int .i64 0, .int .i64 0, .int .i64 0, .int .i64 0, .int .i64 0, .int .i64 0, .int .i64 0, .int .i64 0, .int .i64 0, .slice none 0 0, .bool false, .slice none 0 0, .bool false, .int .i64 0, .int .i64 0, .bool false, .int .i64 0, .int .i64 0, .slice none 0 0, .slice none 0 0, .slice none 0 0] 61)).alloc (.cells #[.int .i64 1, .string ⟨#[97]⟩, .string ⟨#[]⟩, .int .u64 0] 79)).heap[W.heap.size + 1]? = some (.cells #[.int .i64 1, .string ⟨#[97]⟩, .string ⟨#[]⟩, .int .u64 0] 79 (0, 0))) := Lib.hid (nth_box W [(.cells #[.int .i64 0, .int .i64 0, .int .i64 0, .int .i64 0, .int .i64 0, .int .i64 0, .int .i64 0, .int .i64 0, .int .i64 0, .slice none 0 0, .bool false, .slice none 0 0, .bool false, .int .i64 0, .int .i64 0, .bool false, .int .i64 0, .int .i64 0, .slice none 0 0, .slice none 0 0, .slice none 0 0] 61), (.cells #[.int .i64 1, .string ⟨#[97]⟩, .string ⟨#[]⟩, .int .u64 0] 79)] 1 _ rfl).1
 have HB : Hid (Below W.heap.size W ((W.alloc (.cells #[.int .i64 0, .int .i64 0, .int .i64 0, .int .i64 0, .int .i64 0, .int .i64 0, .int .i64 0, .int .i64 0, .int .i64 0, .slice none 0 0, .bool false, .slice none 0 0, .bool false, .int .i64 0, .int .i64 0, .bool false, .int .i64 0, .int .i64 0, .slice none 0 0, .slice none 0 0, .slice none 0 0] 61)).alloc (.cells #[.int .i64 1, .string ⟨#[97]⟩, .string ⟨#[]⟩, .int .u64 0] 79))) := Lib.hid (blAlloc (blAlloc (Below.refl _ _) _) _)
 go_enter Tryz.func96, Tryz.ntmps96
 go_wp2_with (first | ((with_reducible refine atW ((W.alloc (.cells #[.int .i64 0, .int .i64 0, .int .i64 0, .int .i64 0, .int .i64 0, .int .i64 0, .int .i64 0, .int .i64 0, .int .i64 0, .slice none 0 0, .bool false, .slice none 0 0, .bool false, .int .i64 0, .int .i64 0, .bool false, .int .i64 0, .int .i64 0, .slice none 0 0, .slice none 0 0, .slice none 0 0] 61)).alloc (.cells #[.int .i64 1, .string ⟨#[97]⟩, .string ⟨#[]⟩, .int .u64 0] 79)) ?_); refine storeM _ _ rfl rfl _ rfl rfl K0.out rfl rfl (by simp [Value.oneCell']) ?_; intro w2 h1 h2; have K2 := Lib.hid h1; have KO := Lib.hid (grown_other9 K1.out h2 (by simp) (by omega)); have HB2 : Hid (Below W.heap.size W w2) := Lib.hid (below_grown9 HB.out h2 (Nat.le_refl _)); clear h1 h2))
 refine bodyPost_ret (results_cell_row Tryz.results96 _ _ _ 61 _ (0, 0) _ rfl K2.out Tryz.underlying61 rfl szMsg) rfl ?_
 exact ⟨W.heap.size + 1, rfl, ⟨slG_block KO.out [opL] rfl 1 rfl, dlV_nil9 _, dlV_nil9 _, slG_nil9 _ _, slG_nil9 _ _⟩, HB2.out, Nat.le_succ _, KO.out⟩
theorem some_any (W : World) : Calls Tryz.prog 96 #[] W fun e w' => ∃ k, e = .returned (.agg (msR sL (lS k))) ∧ MsAt w' sL (lS k) ∧ Below W.heap.size W w' := (some_any2 W).mono fun e w' ⟨k, h1, h2, h3, _⟩ => ⟨k, h1, h2, h3⟩
theorem live13_any (W : World) : Calls Tryz.prog 32 #[] W fun e w' => e = .returned (.bool true) ∧ Below W.heap.size W w' := by
 have HPA := Lib.hid (fun (gv : Nat) (ba : Option Addr) (bc : Nat) (w : World) (hB : S2.Bw w gv (.slice ba (layM sL).length bc) (layM sL)) (hcap : ba ≠ none → (layM sL).length ≤ bc) => parse13_any gv ba bc (layM sL) w hB hcap (by rw [len_sL]; decide))
 obtain ⟨nL, hnL⟩ : ∃ x, x = (layM sL).length := ⟨_, rfl⟩
 rw [← hnL] at HPA
 have n50 : (50 : Int) < (nL : Int) := by rw [hnL, len_sL]; decide
 have d50 : decide ((50 : Int) < (nL : Int)) = true := decide_eq_true n50
 have HNL := Lib.hid hnL
 have w00 : IntKind.i64.wrap 0 = 0 := rfl
 have w01 : wrap64 0 = 0 := by unfold wrap64; omega
 clear hnL
 go_enter Tryz.func32, Tryz.ntmps32
 go_upto_region 6 with (first | go_skip | ((with_reducible refine atC w7 ?_); go_at_call 33; go_must (refine (put13_any sB lN w7 (ms_nilB _) few_sB (fun _ => put_sB) rfl).mono ?_; intro e w8 h; unfold RetPut at h; rw [if_neg (by rw [sB_check]; simp)] at h; obtain ⟨rfl, h5⟩ := h; have HB8 : Hid (Below w5.heap.size w5 w8) := Lib.hid (blThen HB7.out h5); have K8 := Lib.hid ((h5.block w3.heap.size (lt_of_block K7.out)).trans K7.out); have HBT : Hid (Below W.heap.size W w8) := Lib.hid (blThen (blThen (blThen HB3.out HB4.out) HB5.out) HB8.out); have HT8 : Hid (Below w3.heap.size w3 w8) := Lib.hid (blThen (blThen HB4.out HB5.out) HB8.out); clear h5)) | ((with_reducible refine atW w7 ?_); refine loadM _ rfl rfl _ rfl N7.out rfl ?_) | ((with_reducible refine atW w6 ?_); refine wpList_store_part _ _ _ rfl (by rfl) _ 9 rfl rfl (cs := #[.slice none 0 0]) rfl N6.out (by kernel_rfl) (by simp [msR]) (by simp [Value.oneCell']) (D := msR sB lN) rfl ?_; intro w7 h1 h2; have N7 := Lib.hid h1; have K7 := Lib.hid (grown_other9 K6.out h2 (lt_of_block K6.out) (by have := lt_of_block K5.out; omega)); have HB7 : Hid (Below w5.heap.size w5 w7) := Lib.hid (below_grown9 HB6.out h2 (Nat.le_refl _)); clear h1 h2) | ((with_reducible refine atW (w5.alloc (.cells #[.int .i64 0, .int .i64 0, .int .i64 0, .int .i64 0, .int .i64 0, .int .i64 0, .int .i64 0, .int .i64 0, .int .i64 0, .slice none 0 0, .bool false, .slice none 0 0, .bool false, .int .i64 0, .int .i64 0, .bool false, .int .i64 0, .int .i64 0, .slice none 0 0, .slice none 0 0, .slice none 0 0] 61)) ?_); refine storeM _ _ rfl rfl _ rfl rfl (new_blockC w5 _ _) rfl rfl (ms_one HA5.out) ?_; intro w6 h1 h2; have N6 := Lib.hid h1; have K6 := Lib.hid (grown_other9 (((blAlloc (Below.refl w5.heap.size w5) (.cells #[.int .i64 0, .int .i64 0, .int .i64 0, .int .i64 0, .int .i64 0, .int .i64 0, .int .i64 0, .int .i64 0, .int .i64 0, .slice none 0 0, .bool false, .slice none 0 0, .bool false, .int .i64 0, .int .i64 0, .bool false, .int .i64 0, .int .i64 0, .slice none 0 0, .slice none 0 0, .slice none 0 0] 61)).block w3.heap.size (lt_of_block K5.out)).trans K5.out) h2 (by have := lt_of_block K5.out; simp; omega) (by have := lt_of_block K5.out; omega)); have HB6 : Hid (Below w5.heap.size w5 w6) := Lib.hid (below_grown9 (blAlloc (Below.refl _ _) _) h2 (Nat.le_refl _)); clear h1 h2) | ((with_reducible refine atC w4 ?_); go_at_call 96; go_must (refine (some_any _).mono ?_; rintro e w5 ⟨k5, rfl, ha, h5⟩; have HA5 := Lib.hid ha; have HB5 : Hid (Below w4.heap.size w4 w5) := Lib.hid h5; have K5 := Lib.hid ((h5.block w3.heap.size (lt_of_block K4.out)).trans K4.out); clear ha h5)) | ((with_reducible refine atW (w3.alloc (.cells #[.int .i64 0, .int .i64 0, .int .i64 0, .int .i64 0, .int .i64 0, .int .i64 0, .int .i64 0, .int .i64 0, .int .i64 0, .slice none 0 0, .bool false, .slice none 0 0, .bool false, .int .i64 0, .int .i64 0, .bool false, .int .i64 0, .int .i64 0, .slice none 0 0, .slice none 0 0, .slice none 0 0] 61)) ?_); go_must (refine storeM _ _ rfl rfl _ rfl rfl (new_blockC w3 _ _) rfl rfl (ms_one HA3.out) ?_); intro w4 h1 h2; have K4 := Lib.hid h1; have HB4 : Hid (Below w3.heap.size w3 w4) := Lib.hid (below_grown9 (blAlloc (Below.refl _ _) _) h2 (Nat.le_refl _)); clear h1 h2) | ((with_reducible refine atC w2 ?_); go_at_call 35; go_must (refine (HPA.out _ ba bc w2 HBW.out HCAP.out).mono ?_; intro e w3 h; unfold RetPm at h; rw [parse_sL] at h; obtain ⟨⟨po, pd, pv, pw, pp⟩, he, ha, h5⟩ := h; have ha : MsAt w3 sL ⟨po, pd, pv, pw, pp⟩ := ha; have he2 : e = .returned (.tuple #[.agg (msR sL ⟨po, pd, pv, pw, pp⟩), .int .i64 0]) := he; subst he2; clear he; have HA3 := Lib.hid ha; obtain ⟨poa, poc, pda, pdc, pva, pvc, pwa, pwc, ppa, ppc, hpl⟩ := ms_form ha; simp only [PlM.mk.injEq] at hpl; obtain ⟨rfl, rfl, rfl, rfl, rfl⟩ := hpl; have HB3 : Hid (Below W.heap.size W w3) := Lib.hid (blThen HB2.out h5); clear ha h5)) | ((with_reducible refine atC w1 ?_); go_at_call 33; go_must (refine (put13_any sL (lS k1) w1 HA1.out few_sL (fun _ => put_sL) rfl).mono ?_; intro e w2 h; unfold RetPut at h; rw [if_pos sL_check] at h; obtain ⟨v, g, rfl, hr, hn, h5⟩ := h; obtain ⟨ba, bc, rfl, hcap, hbw⟩ := row_len hr; rw [← HNL.out] at hbw hcap ⊢; have HBW := Lib.hid hbw; have HCAP := Lib.hid hcap; have HB2 : Hid (Below W.heap.size W w2) := Lib.hid (blThen HB1.out h5); clear hr hn h5 hcap hbw)) | ((with_reducible refine atC W ?_); go_at_call 96; go_must (refine (some_any _).mono ?_; rintro e w1 ⟨k1, rfl, ha, h5⟩; have HA1 := Lib.hid ha; have HB1 := Lib.hid h5; clear ha h5)))
 refine wp_region_held_drew (S := fun Y => Y.heap[w3.heap.size]? = some (.cells (msR sL ⟨.slice poa sL.ops.length poc, .slice pda sL.deps.length pdc, .slice pva sL.val.2.2.length pvc, .slice pwa sL.writes.length pwc, .slice ppa sL.pairs.length ppc⟩) 61 (0, 0))) (by kernel_rfl) (K8.out) (fun hHeld => ?_)
 have K9 : Hid (w8.drew.heap[w3.heap.size]? = some (.cells (msR sL ⟨.slice poa sL.ops.length poc, .slice pda sL.deps.length pdc, .slice pva sL.val.2.2.length pvc, .slice pwa sL.writes.length pwc, .slice ppa sL.pairs.length ppc⟩) 61 (0, 0))) := Lib.hid K8.out
 have HB9 : Hid (Below W.heap.size W w8.drew) := Lib.hid HBT.out.drew
 have HT9 : Hid (Below w3.heap.size w3 w8.drew) := Lib.hid HT8.out.drew
 generalize w8.drew = w9 at *
 refine wpAnyH_take (i := 0) (oi := ⟨_, _, _, _, _, _⟩) (v := ?_) rfl (by kernel_rfl) (by kernel_rfl) (by kernel_rfl) (fun _ _ _ h => h) (Or.inl ⟨by rfl, ?_⟩) (by assumption) ?_
 rotate_left
 ·intro w hSw
  try dsimp only at hSw
  go_simp
  try with_reducible rfl
 try simp only [Act.put, List.setIfInBounds_toArray, List.set_cons_zero, List.set_cons_succ]
 refine wpAnyH_take (i := 2) (oi := ⟨_, _, _, _, _, _⟩) (v := ?_) rfl (by kernel_rfl) (by kernel_rfl) (by kernel_rfl) (fun _ _ _ h => h) (Or.inl ⟨by rfl, ?_⟩) (by assumption) ?_
 rotate_left
 ·intro w hSw
  try dsimp only at hSw
  go_simp
  try with_reducible rfl
 try simp only [Act.put, List.setIfInBounds_toArray, List.set_cons_zero, List.set_cons_succ]
 refine wpAnyH_ready (rs := [1]) (by kernel_rfl) (by simp) ?_
 refine AllReadyH.cons (o := ⟨_, _, _, _, _, _⟩) rfl (fun K hK => ?_) ?_
 rotate_left
 ·exact AllReadyH.nil
 go_simp
 go_at_call 37
 refine (num13_any _ _).mono ?_
 rintro e wn ⟨rfl, rfl⟩
 refine hK.out _ _ (hHeld) (fun hHeld => ?_)
 clear hK K
 try simp only [Act.put, List.setIfInBounds_toArray, List.set_cons_zero, List.set_cons_succ]
 refine wpAnyH_ready (rs := [3]) (by kernel_rfl) (by simp) ?_
 refine AllReadyH.cons (o := ⟨_, _, _, _, _, _⟩) rfl (fun K hK => ?_) ?_
 rotate_left
 ·exact AllReadyH.nil
 go_simp
 go_at_call 37
 refine (num13_any _ _).mono ?_
 rintro e wn ⟨rfl, rfl⟩
 refine hK.out _ _ (hHeld) (fun hHeld => ?_)
 clear hK K
 try simp only [Act.put, List.setIfInBounds_toArray, List.set_cons_zero, List.set_cons_succ]
 refine wpAnyH_take (i := 4) (oi := ⟨_, _, _, _, _, _⟩) (v := ?_) rfl (by kernel_rfl) (by kernel_rfl) (by kernel_rfl) (fun _ _ _ h => h) (Or.inl ⟨by rfl, ?_⟩) (by assumption) ?_
 rotate_left
 ·intro w hSw
  try dsimp only at hSw
  go_simp
  try with_reducible rfl
 try simp only [Act.put, List.setIfInBounds_toArray, List.set_cons_zero, List.set_cons_succ]
 refine wpAnyH_take (i := 5) (oi := ⟨_, _, _, _, _, _⟩) (v := ?_) rfl (by kernel_rfl) (by kernel_rfl) (by kernel_rfl) (fun _ _ _ h => h) (Or.inl ⟨by rfl, ?_⟩) (by assumption) ?_
 rotate_left
 ·intro w hSw
  try dsimp only at hSw
  go_simp
  try with_reducible rfl
 try simp only [Act.put, List.setIfInBounds_toArray, List.set_cons_zero, List.set_cons_succ]
 refine wpAnyH_take (i := 6) (oi := ⟨_, _, _, _, _, _⟩) (v := ?_) rfl (by kernel_rfl) (by kernel_rfl) (by kernel_rfl) (fun _ _ _ h => h) (Or.inl ⟨by rfl, ?_⟩) (by assumption) ?_
 rotate_left
 ·intro w hSw
  try dsimp only at hSw
  go_simp
  try with_reducible rfl
 try simp only [Act.put, List.setIfInBounds_toArray, List.set_cons_zero, List.set_cons_succ]
 refine wpAnyH_take (i := 7) (oi := ⟨_, _, _, _, _, _⟩) (v := ?_) rfl (by kernel_rfl) (by kernel_rfl) (by kernel_rfl) (fun _ _ _ h => h) (Or.inl ⟨by rfl, ?_⟩) (by assumption) ?_
 rotate_left
 ·intro w hSw
  try dsimp only at hSw
  go_simp
  try with_reducible rfl
 try simp only [Act.put, List.setIfInBounds_toArray, List.set_cons_zero, List.set_cons_succ]
 refine wpAnyH_take (i := 8) (oi := ⟨_, _, _, _, _, _⟩) (v := ?_) rfl (by kernel_rfl) (by kernel_rfl) (by kernel_rfl) (fun _ _ _ h => h) (Or.inl ⟨by rfl, ?_⟩) (by assumption) ?_
 rotate_left
 ·intro w hSw
  try dsimp only at hSw
  go_simp
  try with_reducible rfl
 try simp only [Act.put, List.setIfInBounds_toArray, List.set_cons_zero, List.set_cons_succ]
 refine wpAnyH_take (i := 9) (oi := ⟨_, _, _, _, _, _⟩) (v := ?_) rfl (by kernel_rfl) (by kernel_rfl) (by kernel_rfl) (fun _ _ _ h => h) (Or.inl ⟨by rfl, ?_⟩) (by assumption) ?_
 rotate_left
 ·intro w hSw
  try dsimp only at hSw
  go_simp
  try with_reducible rfl
 try simp only [Act.put, List.setIfInBounds_toArray, List.set_cons_zero, List.set_cons_succ]
 refine wpAnyH_take (i := 10) (oi := ⟨_, _, _, _, _, _⟩) (v := ?_) rfl (by kernel_rfl) (by kernel_rfl) (by kernel_rfl) (fun _ _ _ h => h) (Or.inl ⟨by rfl, ?_⟩) (by assumption) ?_
 rotate_left
 ·intro w hSw
  try dsimp only at hSw
  go_simp
  try with_reducible rfl
 try simp only [Act.put, List.setIfInBounds_toArray, List.set_cons_zero, List.set_cons_succ]
 refine wpAnyH_take (i := 11) (oi := ⟨_, _, _, _, _, _⟩) (v := ?_) rfl (by kernel_rfl) (by kernel_rfl) (by kernel_rfl) (fun _ _ _ h => h) (Or.inl ⟨by rfl, ?_⟩) (by assumption) ?_
 rotate_left
 ·intro w hSw
  try dsimp only at hSw
  go_simp
  try with_reducible rfl
 try simp only [Act.put, List.setIfInBounds_toArray, List.set_cons_zero, List.set_cons_succ]
 refine wpAnyH_take (i := 12) (oi := ⟨_, _, _, _, _, _⟩) rfl (by kernel_rfl) (by kernel_rfl) (by kernel_rfl) (fun _ _ _ h => h) (yields_row (by rfl) _ _ rfl _ 0 rfl (fun w h => h) Tryz.underlying61 rfl (msR sL ⟨.slice poa sL.ops.length poc, .slice pda sL.deps.length pdc, .slice pva sL.val.2.2.length pvc, .slice pwa sL.writes.length pwc, .slice ppa sL.pairs.length ppc⟩) szMsg all_at) (by assumption) ?_
 try simp only [Act.put, List.setIfInBounds_toArray, List.set_cons_zero, List.set_cons_succ]
 refine wpAnyH_ready (rs := [13]) (by kernel_rfl) (by simp) ?_
 refine AllReadyH.cons (o := ⟨_, _, _, _, _, _⟩) rfl (fun K hK => ?_) ?_
 rotate_left
 ·exact AllReadyH.nil
 go_simp
 go_at_call 96
 refine (some_any _).mono ?_
 rintro e wa ⟨ka, rfl, ha, h5⟩
 have HAa := Lib.hid ha
 have Ka := Lib.hid ((h5.block w3.heap.size (lt_of_block K9.out)).trans K9.out)
 have HBa : Hid (Below W.heap.size W wa) := Lib.hid (blThen HB9.out h5)
 have HTa : Hid (Below w3.heap.size w3 wa) := Lib.hid (blThen HT9.out h5)
 clear ha h5
 refine hK.out _ _ (Ka.out) (fun hHeld => ?_)
 clear hK K
 try simp only [Act.put, List.setIfInBounds_toArray, List.set_cons_zero, List.set_cons_succ]
 refine wpAnyH_ready (rs := [14]) (by kernel_rfl) (by simp) ?_
 refine AllReadyH.cons (o := ⟨_, _, _, _, _, _⟩) rfl (fun K hK => ?_) ?_
 rotate_left
 ·exact AllReadyH.nil
 go_simp
 go_at_call 40
 refine (rsameM_any sL sL ⟨.slice poa sL.ops.length poc, .slice pda sL.deps.length pdc, .slice pva sL.val.2.2.length pvc, .slice pwa sL.writes.length pwc, .slice ppa sL.pairs.length ppc⟩ (lS ka) wa (HA3.out.later HTa.out) HAa.out few_sL few_sL).mono ?_
 rw [decide_eq_true rfl]
 rintro e wb ⟨rfl, h5⟩
 have Kb := Lib.hid ((h5.block w3.heap.size (lt_of_block Ka.out)).trans Ka.out)
 have HBb : Hid (Below W.heap.size W wb) := Lib.hid (blThen HBa.out h5)
 clear h5
 refine hK.out _ _ (Kb.out) (fun hHeld => ?_)
 clear hK K
 try simp only [Act.put, List.setIfInBounds_toArray, List.set_cons_zero, List.set_cons_succ]
 refine wpAnyH_take (i := 15) (oi := ⟨_, _, _, _, _, _⟩) (v := ?_) rfl (by kernel_rfl) (by kernel_rfl) (by kernel_rfl) (fun _ _ _ h => h) (Or.inl ⟨by rfl, ?_⟩) (by assumption) ?_
 rotate_left
 ·intro w hSw
  try dsimp only at hSw
  go_simp
  try with_reducible rfl
 try simp only [Act.put, List.setIfInBounds_toArray, List.set_cons_zero, List.set_cons_succ]
 refine wpAnyH_take (i := 16) (oi := ⟨_, _, _, _, _, _⟩) (v := ?_) rfl (by kernel_rfl) (by kernel_rfl) (by kernel_rfl) (fun _ _ _ h => h) (Or.inl ⟨by rfl, ?_⟩) (by assumption) ?_
 rotate_left
 ·intro w hSw
  try dsimp only at hSw
  go_simp
  try with_reducible rfl
 try simp only [Act.put, List.setIfInBounds_toArray, List.set_cons_zero, List.set_cons_succ]
 refine wpAnyH_take (i := 17) (oi := ⟨_, _, _, _, _, _⟩) (v := ?_) rfl (by kernel_rfl) (by kernel_rfl) (by kernel_rfl) (fun _ _ _ h => h) (Or.inl ⟨by rfl, ?_⟩) (by assumption) ?_
 rotate_left
 ·intro w hSw
  try dsimp only at hSw
  go_simp
  try with_reducible rfl
 try simp only [Act.put, List.setIfInBounds_toArray, List.set_cons_zero, List.set_cons_succ]
 refine wpAnyH_ready (rs := [18]) (by kernel_rfl) (by simp) ?_
 refine AllReadyH.cons (o := ⟨_, _, _, _, _, _⟩) rfl (fun K hK => ?_) ?_
 rotate_left
 ·exact AllReadyH.nil
 go_simp
 go_at_call 37
 refine (num13_any _ _).mono ?_
 rintro e wn ⟨rfl, rfl⟩
 refine hK.out _ _ (hHeld) (fun hHeld => ?_)
 clear hK K
 try simp only [Act.put, List.setIfInBounds_toArray, List.set_cons_zero, List.set_cons_succ]
 refine wpAnyH_take (i := 19) (oi := ⟨_, _, _, _, _, _⟩) (v := ?_) rfl (by kernel_rfl) (by kernel_rfl) (by kernel_rfl) (fun _ _ _ h => h) (Or.inl ⟨by rfl, ?_⟩) (by assumption) ?_
 rotate_left
 ·intro w hSw
  try dsimp only at hSw
  go_simp
  try with_reducible rfl
 try simp only [Act.put, List.setIfInBounds_toArray, List.set_cons_zero, List.set_cons_succ]
 refine wpAnyH_take (i := 20) (oi := ⟨_, _, _, _, _, _⟩) (v := ?_) rfl (by kernel_rfl) (by kernel_rfl) (by kernel_rfl) (fun _ _ _ h => h) (Or.inl ⟨by rfl, ?_⟩) (by assumption) ?_
 rotate_left
 ·intro w hSw
  try dsimp only at hSw
  go_simp
  try with_reducible rfl
 try simp only [Act.put, List.setIfInBounds_toArray, List.set_cons_zero, List.set_cons_succ]
 refine wpAnyH_take (i := 21) (oi := ⟨_, _, _, _, _, _⟩) (v := ?_) rfl (by kernel_rfl) (by kernel_rfl) (by kernel_rfl) (fun _ _ _ h => h) (Or.inl ⟨by rfl, ?_⟩) (by assumption) ?_
 rotate_left
 ·intro w hSw
  try dsimp only at hSw
  go_simp
  try with_reducible rfl
 try simp only [Act.put, List.setIfInBounds_toArray, List.set_cons_zero, List.set_cons_succ]
 refine wpAnyH_take (i := 22) (oi := ⟨_, _, _, _, _, _⟩) (v := ?_) rfl (by kernel_rfl) (by kernel_rfl) (by kernel_rfl) (fun _ _ _ h => h) (Or.inl ⟨by rfl, ?_⟩) (by assumption) ?_
 rotate_left
 ·intro w hSw
  try dsimp only at hSw
  go_simp
  try with_reducible rfl
 try simp only [Act.put, List.setIfInBounds_toArray, List.set_cons_zero, List.set_cons_succ]
 refine wpAnyH_ready (rs := [23]) (by kernel_rfl) (by simp) ?_
 refine AllReadyH.cons (o := ⟨_, _, _, _, _, _⟩) rfl (fun K hK => ?_) ?_
 rotate_left
 ·exact AllReadyH.nil
 go_simp
 go_at_call 38
 refine (check13_any mg0 lN wb (ms_nil _) few_mg0 rfl).mono ?_
 rw [mg0_check]
 rintro e wc ⟨rfl, h5⟩
 have Kc := Lib.hid ((h5.block w3.heap.size (lt_of_block Kb.out)).trans Kb.out)
 have HBc : Hid (Below W.heap.size W wc) := Lib.hid (blThen HBb.out h5)
 clear h5
 refine hK.out _ _ (Kc.out) (fun hHeld => ?_)
 clear hK K
 try simp only [Act.put, List.setIfInBounds_toArray, List.set_cons_zero, List.set_cons_succ]
 refine wpAnyH_ready (rs := [24]) (by kernel_rfl) (by simp) ?_
 refine AllReadyH.cons (o := ⟨_, _, _, _, _, _⟩) rfl (fun K hK => ?_) ?_
 rotate_left
 ·exact AllReadyH.nil
 go_simp
 go_at_call 37
 refine (num13_any _ _).mono ?_
 rintro e wn ⟨rfl, rfl⟩
 refine hK.out _ _ (hHeld) (fun hHeld => ?_)
 clear hK K
 try simp only [Act.put, List.setIfInBounds_toArray, List.set_cons_zero, List.set_cons_succ]
 refine wpAnyH_take (i := 25) (oi := ⟨_, _, _, _, _, _⟩) (v := ?_) rfl (by kernel_rfl) (by kernel_rfl) (by kernel_rfl) (fun _ _ _ h => h) (Or.inl ⟨by rfl, ?_⟩) (by assumption) ?_
 rotate_left
 ·intro w hSw
  try dsimp only at hSw
  go_simp
  try with_reducible rfl
 try simp only [Act.put, List.setIfInBounds_toArray, List.set_cons_zero, List.set_cons_succ]
 refine wpAnyH_take (i := 26) (oi := ⟨_, _, _, _, _, _⟩) (v := ?_) rfl (by kernel_rfl) (by kernel_rfl) (by kernel_rfl) (fun _ _ _ h => h) (Or.inl ⟨by rfl, ?_⟩) (by assumption) ?_
 rotate_left
 ·intro w hSw
  try dsimp only at hSw
  go_simp
  try with_reducible rfl
 try simp only [Act.put, List.setIfInBounds_toArray, List.set_cons_zero, List.set_cons_succ]
 refine wpAnyH_take (i := 27) (oi := ⟨_, _, _, _, _, _⟩) (v := ?_) rfl (by kernel_rfl) (by kernel_rfl) (by kernel_rfl) (fun _ _ _ h => h) (Or.inl ⟨by rfl, ?_⟩) (by assumption) ?_
 rotate_left
 ·intro w hSw
  try dsimp only at hSw
  go_simp
  try with_reducible rfl
 try simp only [Act.put, List.setIfInBounds_toArray, List.set_cons_zero, List.set_cons_succ]
 refine wpAnyH_done (by kernel_rfl) ?_ _
 go_wp2
 go_ret
 exact ⟨rfl, HBc.out⟩

theorem noT_size13 {s : ByteArray} (h : noT s = true) : s.size ≤ 1000 := by
 have e : s.toList = [] := by simpa [noT] using h
 have := congrArg List.length e
 have h2 : s.size = s.toList.length := by rw [toList_data, S2.ba_len]
 rw [h2, e]
 decide
theorem ok_sizes13 {o : Opr} (h : okB o = true) : o.2.1.size ≤ 1000 ∧ o.2.2.1.size ≤ 1000 := by
 have kb : ∀ k : ByteArray, keyB k = true → k.size ≤ 1000 := fun k hk => by have := of_decide_eq_true hk; omega
 unfold okB suitB at h
 simp only [Bool.and_eq_true] at h
 obtain ⟨⟨h1, _⟩, h⟩ := h
 refine ⟨kb _ h1, ?_⟩
 split at h
 ·simp only [Bool.and_eq_true] at h
  exact noT_size13 h.1
 split at h
 ·simp only [Bool.and_eq_true, Bool.or_eq_true] at h
  rcases h.1 with h | h
  ·exact noT_size13 h
  ·exact kb _ h.1
 split at h
 ·exact noT_size13 h
 split at h
 ·simp only [Bool.and_eq_true] at h
  exact kb _ h.1
 ·cases h
theorem bw_str13 {w : World} {g : Nat} {v : Value} {l : List UInt8} (h : S2.Bw w g v l) : (convert 32 9 v).run Tryz.prog w = .ok (.string ⟨l.toArray⟩) w := by
 obtain ⟨a, c, rfl, h0, h1, h2⟩ := h
 cases a with
 | none =>
  obtain ⟨rfl, rfl⟩ := h0 rfl
  exact Lib.run_convert_nil_bytes w 32 9 5 0 Tryz.underlying32 Tryz.underlying5 Tryz.underlying9
 | some p =>
  refine run_convert_bytes_back w 32 9 5 p c l Tryz.underlying32 Tryz.underlying5 Tryz.underlying9 fun j hj => ?_
  obtain ⟨o, ho, hc⟩ := h2 (by rintro rfl; simp at hj)
  simp only [Option.some.injEq] at ho
  subst ho
  rw [S2.add_plain]
  exact hc j _ (List.getElem?_eq_getElem hj)
theorem bw_keep13 {w x : World} {g : Nat} {v : Value} {l : List UInt8} (h : S2.Bw w g v l) (hb : Below w.heap.size w x) : S2.Bw x g v l := by
 obtain ⟨a, c, hv, h0, h1, h2⟩ := h
 refine ⟨a, c, hv, h0, h1, fun hne => ?_⟩
 obtain ⟨o, ho, hc⟩ := h2 hne
 refine ⟨o, ho, fun j y hj => ?_⟩
 rw [hb.cell (World.block_lt_of_cell? _ _ (hc j y hj))]
 exact hc j y hj
theorem put_of {m : Mg} (h : checkMB m = true) : PutM m := by
 have n := nice_of h
 have kb : ∀ k : ByteArray, keyB k = true → k.size ≤ 1000 := fun k hk => by have := of_decide_eq_true hk; omega
 refine ⟨fun o ho => ?_, fun o ho => kb _ (writes_keys _ _ n.writes o ho), fun o ho => kb _ (pairs_keys n.pairs o ho)⟩
 rcases n.ops with e | e
 ·rw [e] at ho
  cases ho
 ·exact ok_sizes13 ((check_kd e).2.2 o ho)
theorem check_zero {m : Mg} : checkM m = 0 ↔ checkMB m = true := by
 unfold checkM
 cases checkMB m <;> simp
theorem numM_of {m : Mg} (h : NM m) (hf : FewM m) : NumM m := ⟨h.no, h.nw, h.np, by have := hf.writes; omega, by have := hf.pairs; omega⟩
theorem put13_one (m : Mg) (l : PlM) (w : World) (h : MsAt w m l) (hf : FewM m) (hw : (Lit.int .i64 m.kind).wf = true) : Calls Tryz.prog 33 #[.agg (msR m l)] w fun e w' => ∃ v, e = .returned (.tuple #[v, .int .i64 (checkM m)]) ∧ Below w.heap.size w w' ∧ (checkMB m = true → ∃ g, S2.Row w' g v (layM m) ∧ S2.New w g) := by
 unfold checkM
 cases hck : checkMB m
 ·refine (put13_no m l w h hf hck hw).mono fun e w' hh => ?_
  exact ⟨_, hh.1, hh.2, fun h => by cases h⟩
 ·refine (put13_yes m l w h hf hck (put_of hck) hw).mono fun e w' hh => ?_
  obtain ⟨v, g, h1, h2, h3, h4⟩ := hh
  exact ⟨v, h1, h4, fun _ => ⟨g, h2, h3⟩⟩
theorem lay_eq {a b : Mg} (ha : checkMB a = true) (hna : NumM a) (hb : checkMB b = true) (hnb : NumM b) : ((⟨(layM a).toArray⟩ : ByteArray).toList == (⟨(layM b).toArray⟩ : ByteArray).toList) = decide (a = b) := by
 have e : ((⟨(layM a).toArray⟩ : ByteArray).toList = (⟨(layM b).toArray⟩ : ByteArray).toList) ↔ a = b := by
  rw [← layM_inj ha hna hb hnb, S3.toList_data, S3.toList_data]
 rw [Bool.eq_iff_iff, beq_iff_eq, decide_eq_true_iff]
 exact e
theorem wireUnlike_walk (a b : Mg) (la lb : PlM) (W : World) (ha : MsAt W a la) (hb : MsAt W b lb) (hra : ReachM a) (hrb : ReachM b) (hna : NM a) (hnb : NM b) : Calls Tryz.prog 8 #[msV a la, msV b lb] W fun e w' => e = .returned (.bool true) ∧ Below W.heap.size W w' := by
 show Calls Tryz.prog 8 #[.agg (msR a la), .agg (msR b lb)] W fun e w' => e = .returned (.bool true) ∧ Below W.heap.size W w'
 have HSa := Lib.hid (fun (Y : World) (hY : Below W.heap.size W Y) => small13_any a la Y (ha.later hY) hra)
 have HSb := Lib.hid (fun (Y : World) (hY : Below W.heap.size W Y) => small13_any b lb Y (hb.later hY) hrb)
 cases hsa : smallM a
 ·simp only [hsa] at HSa
  clear HSb
  obtain ⟨w0, he0, hw0, kQa, kQb, hb0⟩ := boxes2 W (.cells (msR a la) 61) (.cells (msR b lb) 61)
  have Ka0 := Lib.hid kQa
  have Kb0 := Lib.hid kQb
  have HB0 := Lib.hid hb0
  have HE0 := Lib.hid he0
  clear he0 hb0 kQa kQb
  go_enter Tryz.func8, Tryz.ntmps8
  go_upto_region 1 with fail
  rw [← HE0.out]
  go_wp2_with (first | go_skip | ((with_reducible refine atC w1 ?_); go_at_call 32; refine (live13_any _).mono ?_; rintro e w2 ⟨rfl, h5⟩; have hw2 := Nat.le_trans hw1 h5.size; have HB2 : Hid (Below W.heap.size W w2) := Lib.hid (blThen HB1.out h5); have Ka2 := Lib.hid ((h5.block W.heap.size (by omega)).trans Ka1.out); have Kb2 := Lib.hid ((h5.block (W.heap.size + 1) (by omega)).trans Kb1.out); clear h5) | ((with_reducible refine atC w0 ?_); go_at_call 31; refine (HSa.out _ HB0.out).mono ?_; rintro e w1 ⟨rfl, h5⟩; have hw1 := Nat.le_trans hw0 h5.size; have HB1 : Hid (Below W.heap.size W w1) := Lib.hid (blThen HB0.out h5); have Ka1 := Lib.hid ((h5.block W.heap.size (by omega)).trans Ka0.out); have Kb1 := Lib.hid ((h5.block (W.heap.size + 1) (by omega)).trans Kb0.out); clear h5) | ((with_reducible refine atDst 9 ?_); refine loadM _ rfl (by rfl) _ rfl Ka0.out rfl ?_))
  go_ret
  exact ⟨rfl, HB2.out⟩
 cases hsb : smallM b
 ·simp only [hsa] at HSa
  simp only [hsb] at HSb
  obtain ⟨w0, he0, hw0, kQa, kQb, hb0⟩ := boxes2 W (.cells (msR a la) 61) (.cells (msR b lb) 61)
  have Ka0 := Lib.hid kQa
  have Kb0 := Lib.hid kQb
  have HB0 := Lib.hid hb0
  have HE0 := Lib.hid he0
  clear he0 hb0 kQa kQb
  go_enter Tryz.func8, Tryz.ntmps8
  go_upto_region 1 with fail
  rw [← HE0.out]
  go_wp2_with (first | go_skip | ((with_reducible refine atC w2 ?_); go_at_call 32; refine (live13_any _).mono ?_; rintro e w3 ⟨rfl, h5⟩; have hw3 := Nat.le_trans hw2 h5.size; have HB3 : Hid (Below W.heap.size W w3) := Lib.hid (blThen HB2.out h5); have Ka3 := Lib.hid ((h5.block W.heap.size (by omega)).trans Ka2.out); have Kb3 := Lib.hid ((h5.block (W.heap.size + 1) (by omega)).trans Kb2.out); clear h5) | ((with_reducible refine atC w1 ?_); go_at_call 31; refine (HSb.out _ HB1.out).mono ?_; rintro e w2 ⟨rfl, h5⟩; have hw2 := Nat.le_trans hw1 h5.size; have HB2 : Hid (Below W.heap.size W w2) := Lib.hid (blThen HB1.out h5); have Ka2 := Lib.hid ((h5.block W.heap.size (by omega)).trans Ka1.out); have Kb2 := Lib.hid ((h5.block (W.heap.size + 1) (by omega)).trans Kb1.out); clear h5) | ((with_reducible refine atDst 13 ?_); refine loadM _ rfl (by rfl) _ rfl Kb1.out rfl ?_) | ((with_reducible refine atC w0 ?_); go_at_call 31; refine (HSa.out _ HB0.out).mono ?_; rintro e w1 ⟨rfl, h5⟩; have hw1 := Nat.le_trans hw0 h5.size; have HB1 : Hid (Below W.heap.size W w1) := Lib.hid (blThen HB0.out h5); have Ka1 := Lib.hid ((h5.block W.heap.size (by omega)).trans Ka0.out); have Kb1 := Lib.hid ((h5.block (W.heap.size + 1) (by omega)).trans Kb0.out); clear h5) | ((with_reducible refine atDst 9 ?_); refine loadM _ rfl (by rfl) _ rfl Ka0.out rfl ?_))
  go_ret
  exact ⟨rfl, HB3.out⟩
 have hfa := few_smallM hsa
 have hfb := few_smallM hsb
 simp only [hsa] at HSa
 simp only [hsb] at HSb
 have HPa := Lib.hid (fun (Y : World) (hY : Below W.heap.size W Y) => put13_one a la Y (ha.later hY) hfa hna.kind)
 have HPb := Lib.hid (fun (Y : World) (hY : Below W.heap.size W Y) => put13_one b lb Y (hb.later hY) hfb hnb.kind)
 have HSM := Lib.hid (fun (Y : World) (hY : Below W.heap.size W Y) => rsameM_any a b la lb Y (ha.later hY) (hb.later hY) hfa hfb)
 by_cases hca : checkM a = 0
 ·by_cases hcb : checkM b = 0
  ·have HCA := Lib.hid (check_zero.1 hca)
   have HCB := Lib.hid (check_zero.1 hcb)
   have hq1 := lay_eq HCA.out (numM_of hna hfa) HCB.out (numM_of hnb hfb)
   obtain ⟨dab, hdab⟩ : ∃ x, x = decide (a = b) := ⟨_, rfl⟩
   obtain ⟨sp, hsp⟩ : ∃ x, x = (⟨(layM a).toArray⟩ : ByteArray) := ⟨_, rfl⟩
   obtain ⟨sq, hsq⟩ : ∃ x, x = (⟨(layM b).toArray⟩ : ByteArray) := ⟨_, rfl⟩
   rw [← hsp, ← hsq, ← hdab] at hq1
   rw [← hdab] at HSM
   have HSP := Lib.hid hsp.symm
   have HSQ := Lib.hid hsq.symm
   rw [hca] at HPa
   rw [hcb] at HPb
   clear hsp hsq hdab hca hcb hsa hsb hfa hfb ha hb
   obtain ⟨w0, he0, hw0, kQa, kQb, hb0⟩ := boxes2 W (.cells (msR a la) 61) (.cells (msR b lb) 61)
   have Ka0 := Lib.hid kQa
   have Kb0 := Lib.hid kQb
   have HB0 := Lib.hid hb0
   have HE0 := Lib.hid he0
   clear he0 hb0 kQa kQb
   go_enter Tryz.func8, Tryz.ntmps8
   go_upto_region 1 with fail
   rw [← HE0.out]
   go_upto_region 7 with (first | go_skip | (go_at_call 37; refine (num13_any _ _).mono ?_; rintro e wn ⟨rfl, rfl⟩) | ((with_reducible refine atC w3 ?_); go_at_call 33; refine (HPb.out _ HB3.out).mono ?_; rintro e w4 ⟨vb, rfl, h5, hp⟩; have hw4 := Nat.le_trans hw3 h5.size; have HB4 : Hid (Below W.heap.size W w4) := Lib.hid (blThen HB3.out h5); have Ka4 := Lib.hid ((h5.block W.heap.size (by omega)).trans Ka3.out); have Kb4 := Lib.hid ((h5.block (W.heap.size + 1) (by omega)).trans Kb3.out); have HRb := Lib.hid hp; have HBX := Lib.hid h5; clear h5 hp) | ((with_reducible refine atDst 24 ?_); refine loadM _ rfl (by rfl) _ rfl Kb3.out rfl ?_) | ((with_reducible refine atC w2 ?_); go_at_call 33; refine (HPa.out _ HB2.out).mono ?_; rintro e w3 ⟨va, rfl, h5, hp⟩; have hw3 := Nat.le_trans hw2 h5.size; have HB3 : Hid (Below W.heap.size W w3) := Lib.hid (blThen HB2.out h5); have Ka3 := Lib.hid ((h5.block W.heap.size (by omega)).trans Ka2.out); have Kb3 := Lib.hid ((h5.block (W.heap.size + 1) (by omega)).trans Kb2.out); have HRa := Lib.hid hp; clear h5 hp) | ((with_reducible refine atDst 19 ?_); refine loadM _ rfl (by rfl) _ rfl Ka2.out rfl ?_) | ((with_reducible refine atC w1 ?_); go_at_call 31; refine (HSb.out _ HB1.out).mono ?_; rintro e w2 ⟨rfl, h5⟩; have hw2 := Nat.le_trans hw1 h5.size; have HB2 : Hid (Below W.heap.size W w2) := Lib.hid (blThen HB1.out h5); have Ka2 := Lib.hid ((h5.block W.heap.size (by omega)).trans Ka1.out); have Kb2 := Lib.hid ((h5.block (W.heap.size + 1) (by omega)).trans Kb1.out); clear h5) | ((with_reducible refine atDst 13 ?_); refine loadM _ rfl (by rfl) _ rfl Kb1.out rfl ?_) | ((with_reducible refine atC w0 ?_); go_at_call 31; refine (HSa.out _ HB0.out).mono ?_; rintro e w1 ⟨rfl, h5⟩; have hw1 := Nat.le_trans hw0 h5.size; have HB1 : Hid (Below W.heap.size W w1) := Lib.hid (blThen HB0.out h5); have Ka1 := Lib.hid ((h5.block W.heap.size (by omega)).trans Ka0.out); have Kb1 := Lib.hid ((h5.block (W.heap.size + 1) (by omega)).trans Kb0.out); clear h5) | ((with_reducible refine atDst 9 ?_); refine loadM _ rfl (by rfl) _ rfl Ka0.out rfl ?_))
   obtain ⟨gp, hrp, _⟩ := HRa.out HCA.out
   obtain ⟨gq, hrq, _⟩ := HRb.out HCB.out
   obtain ⟨pp, np, qp, rfl⟩ := hrp.form
   obtain ⟨pq, nq, qq, rfl⟩ := hrq.form
   have hbp := hrp.bs.bw
   have hbq := hrq.bs.bw
   have HKP := Lib.hid (fun (Y : World) (h : Below w3.heap.size w3 Y) => bw_str13 (bw_keep13 hbp h))
   have HKQ := Lib.hid (fun (Y : World) (h : Below w4.heap.size w4 Y) => bw_str13 (bw_keep13 hbq h))
   have HKP2 : Hid (∀ Y, Below w4.heap.size w4 Y → (convert 32 9 (.slice pp np qp)).run Tryz.prog Y = .ok (.string sp) Y) := Lib.hid (fun Y h => by rw [← HSP.out]; exact HKP.out Y (blThen HBX.out h))
   have HKQ2 : Hid (∀ Y, Below w4.heap.size w4 Y → (convert 32 9 (.slice pq nq qq)).run Tryz.prog Y = .ok (.string sq) Y) := Lib.hid (fun Y h => by rw [← HSQ.out]; exact HKQ.out Y h)
   clear HKP HKQ hbp hbq hrp hrq HRa HRb
   refine wp_region_held_drew (S := fun Y => Below w4.heap.size w4 Y) (by kernel_rfl) ((Below.refl w4.heap.size w4).drew) (fun hHeld => ?_)
   refine wpAnyH_take (i := 0) (oi := ⟨_, _, _, _, _, _⟩) (v := ?_) rfl (by kernel_rfl) (by kernel_rfl) (by kernel_rfl) (fun _ _ _ h => h) (Or.inl ⟨by rfl, ?_⟩) (by assumption) ?_
   rotate_left
   ·intro w hSw
    try dsimp only at hSw
    go_simp
    try with_reducible rfl
   try simp only [Act.put, List.setIfInBounds_toArray, List.set_cons_zero, List.set_cons_succ]
   refine wpAnyH_take (i := 1) (oi := ⟨_, _, _, _, _, _⟩) (v := ?_) rfl (by kernel_rfl) (by kernel_rfl) (by kernel_rfl) (fun _ _ _ h => h) (Or.inl ⟨by rfl, ?_⟩) (by assumption) ?_
   rotate_left
   ·intro w hSw
    have hfact := HKP2.out w hSw
    go_simp
    try with_reducible rfl
   try simp only [Act.put, List.setIfInBounds_toArray, List.set_cons_zero, List.set_cons_succ]
   refine wpAnyH_take (i := 2) (oi := ⟨_, _, _, _, _, _⟩) (v := ?_) rfl (by kernel_rfl) (by kernel_rfl) (by kernel_rfl) (fun _ _ _ h => h) (Or.inl ⟨by rfl, ?_⟩) (by assumption) ?_
   rotate_left
   ·intro w hSw
    try dsimp only at hSw
    go_simp
    try with_reducible rfl
   try simp only [Act.put, List.setIfInBounds_toArray, List.set_cons_zero, List.set_cons_succ]
   refine wpAnyH_take (i := 3) (oi := ⟨_, _, _, _, _, _⟩) (v := ?_) rfl (by kernel_rfl) (by kernel_rfl) (by kernel_rfl) (fun _ _ _ h => h) (Or.inl ⟨by rfl, ?_⟩) (by assumption) ?_
   rotate_left
   ·intro w hSw
    have hfact := HKQ2.out w hSw
    go_simp
    try with_reducible rfl
   try simp only [Act.put, List.setIfInBounds_toArray, List.set_cons_zero, List.set_cons_succ]
   refine wpAnyH_take (i := 4) (oi := ⟨_, _, _, _, _, _⟩) (v := ?_) rfl (by kernel_rfl) (by kernel_rfl) (by kernel_rfl) (fun _ _ _ h => h) (Or.inl ⟨by rfl, ?_⟩) (by assumption) ?_
   rotate_left
   ·intro w hSw
    try dsimp only at hSw
    go_simp
    try with_reducible rfl
   try simp only [Act.put, List.setIfInBounds_toArray, List.set_cons_zero, List.set_cons_succ]
   refine wpAnyH_take (i := 5) (oi := ⟨_, _, _, _, _, _⟩) rfl (by kernel_rfl) (by kernel_rfl) (by kernel_rfl) (fun _ _ _ h => h) (yields_row (by rfl) _ _ rfl _ 0 rfl (fun w h => (h.block W.heap.size (by omega)).trans Ka4.out) Tryz.underlying61 rfl (msR a la) szMsg all_at) (by assumption) ?_
   try simp only [Act.put, List.setIfInBounds_toArray, List.set_cons_zero, List.set_cons_succ]
   refine wpAnyH_take (i := 6) (oi := ⟨_, _, _, _, _, _⟩) rfl (by kernel_rfl) (by kernel_rfl) (by kernel_rfl) (fun _ _ _ h => h) (yields_row (by rfl) _ _ rfl _ 0 rfl (fun w h => (h.block (W.heap.size + 1) (by omega)).trans Kb4.out) Tryz.underlying61 rfl (msR b lb) szMsg all_at) (by assumption) ?_
   try simp only [Act.put, List.setIfInBounds_toArray, List.set_cons_zero, List.set_cons_succ]
   refine wpAnyH_ready (rs := [7]) (by kernel_rfl) (by simp) ?_
   refine AllReadyH.cons (o := ⟨_, _, _, _, _, _⟩) rfl (fun K hK => ?_) ?_
   rotate_left
   ·exact AllReadyH.nil
   go_simp
   go_at_call 40
   refine (HSM.out _ (blThen HB4.out hHeld)).mono ?_
   rintro e wb ⟨rfl, h5⟩
   have HBb : Hid (Below w4.heap.size w4 wb) := Lib.hid (blThen hHeld h5)
   clear h5
   refine hK.out _ _ (HBb.out) (fun hHeld => ?_)
   clear hK K
   try simp only [Act.put, List.setIfInBounds_toArray, List.set_cons_zero, List.set_cons_succ]
   refine wpAnyH_take (i := 8) (oi := ⟨_, _, _, _, _, _⟩) (v := ?_) rfl (by kernel_rfl) (by kernel_rfl) (by kernel_rfl) (fun _ _ _ h => h) (Or.inl ⟨by rfl, ?_⟩) (by assumption) ?_
   rotate_left
   ·intro w hSw
    try dsimp only at hSw
    go_simp
    try with_reducible rfl
   try simp only [Act.put, List.setIfInBounds_toArray, List.set_cons_zero, List.set_cons_succ]
   refine wpAnyH_take (i := 9) (oi := ⟨_, _, _, _, _, _⟩) (v := ?_) rfl (by kernel_rfl) (by kernel_rfl) (by kernel_rfl) (fun _ _ _ h => h) (Or.inl ⟨by rfl, ?_⟩) (by assumption) ?_
   rotate_left
   ·intro w hSw
    try dsimp only at hSw
    go_simp
    try with_reducible rfl
   try simp only [Act.put, List.setIfInBounds_toArray, List.set_cons_zero, List.set_cons_succ]
   refine wpAnyH_ready (rs := [10]) (by kernel_rfl) (by simp) ?_
   refine AllReadyH.cons (o := ⟨_, _, _, _, _, _⟩) rfl (fun K hK => ?_) ?_
   rotate_left
   ·exact AllReadyH.nil
   go_simp
   trace_state
   go_at_call 32
   refine (live13_any _).mono ?_
   rintro e wl ⟨rfl, h5⟩
   have HBl : Hid (Below w4.heap.size w4 wl) := Lib.hid (blThen HBb.out h5)
   clear h5
   refine hK.out _ _ (HBl.out) (fun hHeld => ?_)
   clear hK K
   try simp only [Act.put, List.setIfInBounds_toArray, List.set_cons_zero, List.set_cons_succ]
   refine wpAnyH_take (i := 11) (oi := ⟨_, _, _, _, _, _⟩) (v := ?_) rfl (by kernel_rfl) (by kernel_rfl) (by kernel_rfl) (fun _ _ _ h => h) (Or.inl ⟨by rfl, ?_⟩) (by assumption) ?_
   rotate_left
   ·intro w hSw
    try dsimp only at hSw
    go_simp
    try with_reducible rfl
   try simp only [Act.put, List.setIfInBounds_toArray, List.set_cons_zero, List.set_cons_succ]
   refine wpAnyH_take (i := 12) (oi := ⟨_, _, _, _, _, _⟩) (v := ?_) rfl (by kernel_rfl) (by kernel_rfl) (by kernel_rfl) (fun _ _ _ h => h) (Or.inl ⟨by rfl, ?_⟩) (by assumption) ?_
   rotate_left
   ·intro w hSw
    try dsimp only at hSw
    go_simp
    try with_reducible rfl
   try simp only [Act.put, List.setIfInBounds_toArray, List.set_cons_zero, List.set_cons_succ]
   refine wpAnyH_done (by kernel_rfl) ?_ _
   go_wp2
   go_ret
   exact ⟨rfl, blThen HB4.out HBl.out⟩
  ·have hn : (checkM b != 0) = true := by simpa using hcb
   rw [hca] at HPa
   generalize checkM b = cb at *
   clear HSM hsa hsb hfa hfb ha hb hca hcb
   obtain ⟨w0, he0, hw0, kQa, kQb, hb0⟩ := boxes2 W (.cells (msR a la) 61) (.cells (msR b lb) 61)
   have Ka0 := Lib.hid kQa
   have Kb0 := Lib.hid kQb
   have HB0 := Lib.hid hb0
   have HE0 := Lib.hid he0
   clear he0 hb0 kQa kQb
   go_enter Tryz.func8, Tryz.ntmps8
   go_upto_region 1 with fail
   rw [← HE0.out]
   go_wp2_with (first | go_skip | ((with_reducible refine atC w4 ?_); go_at_call 32; refine (live13_any _).mono ?_; rintro e w5 ⟨rfl, h5⟩; have hw5 := Nat.le_trans hw4 h5.size; have HB5 : Hid (Below W.heap.size W w5) := Lib.hid (blThen HB4.out h5); have Ka5 := Lib.hid ((h5.block W.heap.size (by omega)).trans Ka4.out); have Kb5 := Lib.hid ((h5.block (W.heap.size + 1) (by omega)).trans Kb4.out); clear h5) | (go_at_call 37; refine (num13_any _ _).mono ?_; rintro e wn ⟨rfl, rfl⟩) | ((with_reducible refine atC w3 ?_); go_at_call 33; refine (HPb.out _ HB3.out).mono ?_; rintro e w4 ⟨vb, rfl, h5, hp⟩; have hw4 := Nat.le_trans hw3 h5.size; have HB4 : Hid (Below W.heap.size W w4) := Lib.hid (blThen HB3.out h5); have Ka4 := Lib.hid ((h5.block W.heap.size (by omega)).trans Ka3.out); have Kb4 := Lib.hid ((h5.block (W.heap.size + 1) (by omega)).trans Kb3.out); have HRb := Lib.hid hp; have HBX := Lib.hid h5; clear h5 hp) | ((with_reducible refine atDst 24 ?_); refine loadM _ rfl (by rfl) _ rfl Kb3.out rfl ?_) | ((with_reducible refine atC w2 ?_); go_at_call 33; refine (HPa.out _ HB2.out).mono ?_; rintro e w3 ⟨va, rfl, h5, hp⟩; have hw3 := Nat.le_trans hw2 h5.size; have HB3 : Hid (Below W.heap.size W w3) := Lib.hid (blThen HB2.out h5); have Ka3 := Lib.hid ((h5.block W.heap.size (by omega)).trans Ka2.out); have Kb3 := Lib.hid ((h5.block (W.heap.size + 1) (by omega)).trans Kb2.out); have HRa := Lib.hid hp; clear h5 hp) | ((with_reducible refine atDst 19 ?_); refine loadM _ rfl (by rfl) _ rfl Ka2.out rfl ?_) | ((with_reducible refine atC w1 ?_); go_at_call 31; refine (HSb.out _ HB1.out).mono ?_; rintro e w2 ⟨rfl, h5⟩; have hw2 := Nat.le_trans hw1 h5.size; have HB2 : Hid (Below W.heap.size W w2) := Lib.hid (blThen HB1.out h5); have Ka2 := Lib.hid ((h5.block W.heap.size (by omega)).trans Ka1.out); have Kb2 := Lib.hid ((h5.block (W.heap.size + 1) (by omega)).trans Kb1.out); clear h5) | ((with_reducible refine atDst 13 ?_); refine loadM _ rfl (by rfl) _ rfl Kb1.out rfl ?_) | ((with_reducible refine atC w0 ?_); go_at_call 31; refine (HSa.out _ HB0.out).mono ?_; rintro e w1 ⟨rfl, h5⟩; have hw1 := Nat.le_trans hw0 h5.size; have HB1 : Hid (Below W.heap.size W w1) := Lib.hid (blThen HB0.out h5); have Ka1 := Lib.hid ((h5.block W.heap.size (by omega)).trans Ka0.out); have Kb1 := Lib.hid ((h5.block (W.heap.size + 1) (by omega)).trans Kb0.out); clear h5) | ((with_reducible refine atDst 9 ?_); refine loadM _ rfl (by rfl) _ rfl Ka0.out rfl ?_))
   go_ret
   exact ⟨rfl, HB5.out⟩
 ·have hn : (checkM a != 0) = true := by simpa using hca
  generalize checkM a = ca at *
  generalize checkM b = cb at *
  clear HSM hsa hsb hfa hfb ha hb hca
  obtain ⟨w0, he0, hw0, kQa, kQb, hb0⟩ := boxes2 W (.cells (msR a la) 61) (.cells (msR b lb) 61)
  have Ka0 := Lib.hid kQa
  have Kb0 := Lib.hid kQb
  have HB0 := Lib.hid hb0
  have HE0 := Lib.hid he0
  clear he0 hb0 kQa kQb
  go_enter Tryz.func8, Tryz.ntmps8
  go_upto_region 1 with fail
  rw [← HE0.out]
  go_wp2_with (first | go_skip | ((with_reducible refine atC w4 ?_); go_at_call 32; refine (live13_any _).mono ?_; rintro e w5 ⟨rfl, h5⟩; have hw5 := Nat.le_trans hw4 h5.size; have HB5 : Hid (Below W.heap.size W w5) := Lib.hid (blThen HB4.out h5); have Ka5 := Lib.hid ((h5.block W.heap.size (by omega)).trans Ka4.out); have Kb5 := Lib.hid ((h5.block (W.heap.size + 1) (by omega)).trans Kb4.out); clear h5) | (go_at_call 37; refine (num13_any _ _).mono ?_; rintro e wn ⟨rfl, rfl⟩) | ((with_reducible refine atC w3 ?_); go_at_call 33; refine (HPb.out _ HB3.out).mono ?_; rintro e w4 ⟨vb, rfl, h5, hp⟩; have hw4 := Nat.le_trans hw3 h5.size; have HB4 : Hid (Below W.heap.size W w4) := Lib.hid (blThen HB3.out h5); have Ka4 := Lib.hid ((h5.block W.heap.size (by omega)).trans Ka3.out); have Kb4 := Lib.hid ((h5.block (W.heap.size + 1) (by omega)).trans Kb3.out); have HRb := Lib.hid hp; have HBX := Lib.hid h5; clear h5 hp) | ((with_reducible refine atDst 24 ?_); refine loadM _ rfl (by rfl) _ rfl Kb3.out rfl ?_) | ((with_reducible refine atC w2 ?_); go_at_call 33; refine (HPa.out _ HB2.out).mono ?_; rintro e w3 ⟨va, rfl, h5, hp⟩; have hw3 := Nat.le_trans hw2 h5.size; have HB3 : Hid (Below W.heap.size W w3) := Lib.hid (blThen HB2.out h5); have Ka3 := Lib.hid ((h5.block W.heap.size (by omega)).trans Ka2.out); have Kb3 := Lib.hid ((h5.block (W.heap.size + 1) (by omega)).trans Kb2.out); have HRa := Lib.hid hp; clear h5 hp) | ((with_reducible refine atDst 19 ?_); refine loadM _ rfl (by rfl) _ rfl Ka2.out rfl ?_) | ((with_reducible refine atC w1 ?_); go_at_call 31; refine (HSb.out _ HB1.out).mono ?_; rintro e w2 ⟨rfl, h5⟩; have hw2 := Nat.le_trans hw1 h5.size; have HB2 : Hid (Below W.heap.size W w2) := Lib.hid (blThen HB1.out h5); have Ka2 := Lib.hid ((h5.block W.heap.size (by omega)).trans Ka1.out); have Kb2 := Lib.hid ((h5.block (W.heap.size + 1) (by omega)).trans Kb1.out); clear h5) | ((with_reducible refine atDst 13 ?_); refine loadM _ rfl (by rfl) _ rfl Kb1.out rfl ?_) | ((with_reducible refine atC w0 ?_); go_at_call 31; refine (HSa.out _ HB0.out).mono ?_; rintro e w1 ⟨rfl, h5⟩; have hw1 := Nat.le_trans hw0 h5.size; have HB1 : Hid (Below W.heap.size W w1) := Lib.hid (blThen HB0.out h5); have Ka1 := Lib.hid ((h5.block W.heap.size (by omega)).trans Ka0.out); have Kb1 := Lib.hid ((h5.block (W.heap.size + 1) (by omega)).trans Kb0.out); clear h5) | ((with_reducible refine atDst 9 ?_); refine loadM _ rfl (by rfl) _ rfl Ka0.out rfl ?_))
  go_ret
  exact ⟨rfl, HB5.out⟩

section
variable {H : Type} {enc : TypeId × Value → H} {P : Program} {w : World} {base : Nat} {spare : TypeId → Bool} {held : Bool}
theorem trodAll_two13 {t0 t1 : TypeId} {args : Array Value} {ds : List (DataW H)} {ps : List MemPlace} (h : DataW.TrodAll enc P w base spare held [t0, t1] args.toList ds ps) :
  ∃ v0 v1 d0 d1 p0 p1, args = #[v0, v1] ∧ ds = [d0, d1] ∧ ps = p0 ++ p1 ∧ DataW.Trod enc P w base spare held t0 v0 d0 p0 ∧ DataW.Trod enc P w base spare held t1 v1 d1 p1 := by
 obtain ⟨v0, vs0, d0, ds0, p0, q0, hargs, rfl, rfl, h0, r0⟩ := trodAll_cons h
 obtain ⟨v1, vs1, d1, ds1, p1, q1, rfl, rfl, rfl, h1, r1⟩ := trodAll_cons r0
 obtain ⟨rfl, rfl, rfl⟩ := trodAll_nil r1
 exact ⟨v0, v1, d0, d1, p0, p1, by cases args; simp_all, rfl, by simp, h0, h1⟩
end
theorem wireUnlike_lifted (os : Os) (started : os.Started) (H : Type) (enc : TypeId × Value → H) :
  ReturnsInHanded {} Tryz.checked os 8 .any (Rows.wireUnlikeSpec.pre6 enc Tryz.prog Tryz.f8 Rows.wireUnlikeRow.domain false) (Rows.wireUnlikeSpec.post enc Tryz.prog Tryz.f8 false true false false) := by
 refine law_lift_sized (C := Tryz.checked) own0 started (by kernel_rfl) Tryz.func8 laid0 rfl (by kernel_rfl) (fun _ _ _ _ => trodAll_mk1 (shut_bool Tryz.underlying4 true)) (fun ds h => match ds, h with | [_, _], _ => ⟨rfl, rfl, rfl⟩)
  (ChangeSpec.witness6 (enc := enc) (C := Tryz.checked) false ⟨#[], #[.agg #[.int .i64 0, .int .i64 0, .int .i64 0, .int .i64 0, .int .i64 0, .int .i64 0, .int .i64 0, .int .i64 0, .int .i64 0, .slice none 0 0, .bool false, .slice none 0 0, .bool false, .int .i64 0, .int .i64 0, .bool false, .int .i64 0, .int .i64 0, .slice none 0 0, .slice none 0 0, .slice none 0 0], .agg #[.int .i64 0, .int .i64 0, .int .i64 0, .int .i64 0, .int .i64 0, .int .i64 0, .int .i64 0, .int .i64 0, .int .i64 0, .slice none 0 0, .bool false, .slice none 0 0, .bool false, .int .i64 0, .int .i64 0, .bool false, .int .i64 0, .int .i64 0, .slice none 0 0, .slice none 0 0, .slice none 0 0]], []⟩ 42 (by kernel_rfl) (by kernel_rfl) (by kernel_rfl) (by kernel_rfl)) ?_
 intro W base args ds before hval0 hA0 hlt hsz
 have hval : ∀ (j : Nat) t v, Tryz.f8.params[j]? = some t → args[j]? = some v → Value.okWide Tryz.prog W .any base t v := hval0
 have hA : DataW.TrodAll enc Tryz.prog W 0 (fun _ => true) true Tryz.f8.params.toList args.toList ds before := hA0
 rw [Tryz.params8] at hA hval
 obtain ⟨v0, v1, d0, d1, p0, p1, rfl, rfl, rfl, h0, h1⟩ := trodAll_two13 hA
 obtain ⟨m, lm, rfl, am, nm, km⟩ := open_msg13 (hval 0 61 v0 rfl rfl) h0
 obtain ⟨n, ln, rfl, an, nn, kn⟩ := open_msg13 (hval 1 61 v1 rfl rfl) h1
 exact wireUnlike_walk m n lm ln W am an (km.reach hsz (j := 0) rfl rfl) (kn.reach hsz (j := 1) rfl rfl) nm nn
theorem wireUnlike_f_inPlace : (Rows.wireUnlikeRow.inPlace == Tryz.prog.inPlace 8) = true := by kernel_rfl
theorem wireUnlike_f_unfollowed : (Rows.wireUnlikeRow.unfollowed == Tryz.prog.unfollowed 8) = true := by kernel_rfl
theorem wireUnlike_f_recurses : (Rows.wireUnlikeRow.recurses == Tryz.prog.recurses 8) = true := by kernel_rfl
theorem wireUnlike_f_named : (Rows.wireUnlikeRow.named == Tryz.prog.varsNamed 8) = true := by kernel_rfl
theorem wireUnlike_laid : laidOutB Tryz.prog = true := by kernel_rfl
theorem wireUnlike_rowed : mapsRowed Tryz.prog = true := by kernel_rfl
theorem wireUnlike_closed : joinedFacts Tryz.prog 8 Tryz.f8 Rows.wireUnlikeSpec Rows.wireUnlikeRow = true := by
 unfold joinedFacts
 rw [wireUnlike_laid, wireUnlike_rowed, wireUnlike_f_inPlace, wireUnlike_f_unfollowed, wireUnlike_f_recurses, wireUnlike_f_named]
 kernel_rfl
theorem wireUnlike_holds : Rows.WireUnlikeSaid :=
 OpenClaim.holds_of_wide 8 Tryz.f8 rfl rfl rfl rfl rfl rfl rfl ⟨rfl, rfl, rfl, rfl, rfl⟩ rfl rfl rfl rfl rfl (by kernel_rfl) Tryz.func8 wireUnlike_closed
  (of_decide_eq_true (by kernel_rfl)) (by unfold Func.isWrapper; rw [if_neg (of_decide_eq_false (by kernel_rfl))]; exact ⟨rfl, rfl⟩)
  (fun os started H enc _ => wireUnlike_lifted os started H enc)
#print axioms wireUnlike_holds
end SI
end Go.Proofs.YtgipkikedacmdaaGreat
