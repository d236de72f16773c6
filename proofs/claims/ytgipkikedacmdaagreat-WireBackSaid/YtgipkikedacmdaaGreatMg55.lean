/- WireBack: there and back; of bytes of which one is another one, cut off, or longer, there is none: whatever message, place, byte and cut, the law returns true and leaves its arguments as they were. Conditions: none. -/
import Derived.Deep.RegionHeld3
import Derived.WalkSpells
import Derived.Deep.CutRange
import Derived.Deep.CutBlock
import Derived.SizedLaws
import Derived.Test.YtgipkikedacmdaaGreatMg54
import Derived.Test.YtgipkikedacmdaaGreatMg51
import Derived.Test.YtgipkikedacmdaaGreatMg53
import Derived.Test.YtgipkikedacmdaaGreatMg31
import Derived.Test.YtgipkikedacmdaaGreatMg07
set_option maxRecDepth 100000
set_option maxHeartbeats 16000000
set_option linter.unusedVariables false
set_option linter.unusedSimpArgs false
namespace Go.Proofs.YtgipkikedacmdaaGreat
open S3 SC SN SP
namespace SI
open Go.ChangeShapes Go.WideShapes Go.ChangeAt Go.RowKit Go.Joins Go.Deep
def sL : Mg := ⟨1, 1, 2, (3, 1), z2, z2, [opL], false, [], false, z2, val0, [], []⟩
def sB : Mg := ⟨1, 1, 2, (3, 1), z2, z2, [], false, [], false, z2, val0, [], []⟩
def lS (k : Nat) : PlM := ⟨.slice (some ⟨k, 0, none⟩) 1 1, .slice none 0 0, .slice none 0 0, .slice none 0 0, .slice none 0 0⟩
def lN : PlM := ⟨.slice none 0 0, .slice none 0 0, .slice none 0 0, .slice none 0 0, .slice none 0 0⟩
theorem sL_check : checkMB sL = true := by decide +kernel
theorem sB_check : checkMB sB = false := by decide +kernel
theorem mg0_check : checkM mg0 = 130 := by decide +kernel
theorem few_sL : FewM sL := ⟨by decide, ⟨by decide, by decide⟩, ⟨by decide, by decide⟩, by decide, by decide⟩
theorem few_sB : FewM sB := ⟨by decide, ⟨by decide, by decide⟩, ⟨by decide, by decide⟩, by decide, by decide⟩
theorem few_mg0 : FewM mg0 := ⟨by decide, ⟨by decide, by decide⟩, ⟨by decide, by decide⟩, by decide, by decide⟩
theorem put_sL : PutM sL := ⟨fun o ho => (by have e : o = opL := (by simpa [sL] using ho); rw [e]; exact ⟨by decide, by decide⟩), fun o ho => (by cases ho), fun o ho => (by cases ho)⟩
theorem put_sB : PutM sB := ⟨fun o ho => (by cases ho), fun o ho => (by cases ho), fun o ho => (by cases ho)⟩
theorem num_sL : NumM sL := ⟨fun o ho => (by have e : o = opL := (by simpa [sL] using ho); rw [e]; decide), fun o ho => (by cases ho), fun o ho => (by cases ho), by decide, by decide⟩
theorem parse_sL : parseM (layM sL) = some sL := parseM_back sL_check num_sL
theorem len_sL : (layM sL).length = 180 := by
 rw [layM_len, bodyM_is]
 rfl
theorem ms_nil (W : World) : MsAt W mg0 lN := nil_ms W
theorem ms_nilB (W : World) : MsAt W sB lN := ⟨slG_nil9 _ _, dlV_nil9 _, dlV_nil9 _, slG_nil9 _ _, slG_nil9 _ _⟩
theorem slG_block {α : Type} {E : Enc α} {w : World} {k : Nat} {cs : Array Value} {T : TypeId} (h : w.heap[k]? = some (.cells cs T (0, 0))) (l : List α) (hcs : cs = (cellsG E l).toArray) (n : Nat) (hn : n = l.length) : SlG E w (.slice (some ⟨k, 0, none⟩) n n) l := by
 subst hcs
 subst hn
 refine ⟨_, _, rfl, fun h => (by cases h), fun _ => ⟨k, 0, rfl, lt_of_block h, fun i y hi j u hu => ?_⟩⟩
 have e := cellsG_at l i y hi j (enc_lt hu)
 rw [hu] at e
 simp only [World.cell?, h]
 simpa using e
theorem row_len {w : World} {g : Option Nat} {v : Value} {l : List UInt8} (h : S2.Row w g v l) : ∃ a cap, v = .slice a l.length cap ∧ (a ≠ none → l.length ≤ cap) ∧ S2.Bw w (g.getD 0) v l := by
 have hb := h.bs.bw
 rcases h.1.2 with ⟨rfl, h0⟩ | ⟨b, cap, cur, rfl, _, _, hc, _⟩
 ·refine ⟨none, 0, ?_, fun h => absurd rfl h, hb⟩
  have e : l.length = 0 := h0
  rw [e]
 ·exact ⟨_, cap, rfl, fun _ => hc, hb⟩
theorem num13_any (n : Int) (w : World) : Calls Tryz.prog 37 #[.int .i64 n] w fun e w' => e = .returned (.int .i64 n) ∧ w = w' := by
 go_enter Tryz.func37, Tryz.ntmps37
 go_wp2
 go_ret
 exact ⟨rfl, rfl⟩
theorem some_any2 (W : World) : Calls Tryz.prog 96 #[] W fun e w' => ∃ k, e = .returned (.agg (msR sL (lS k))) ∧ MsAt w' sL (lS k) ∧ Below W.heap.size W w' ∧ W.heap.size ≤ k ∧ w'.heap[k]? = some (.cells #[.int .i64 1, .string ⟨#[97]⟩, .string ⟨#[]⟩, .int .u64 0] 79 (0, 0)) := by
 have K0 : Hid (((W.alloc (.cells #[.int .i64 0, .int .i64 0, .int .i64 0, .int .i64 0, .int .i64 0, .int .i64 0, .int .i64 0, .int .i64 0, .int .i64 0, .slice none 0 0, .bool false, .slice none 0 0, .bool false, .int .i64 0, .int .i64 0, .bool false, .int .i64 0, .int .i64 0, .slice none 0 0, .slice none 0 0, .slice none 0 0] 61)).alloc (.cells #[.int .i64 1, .string ⟨#[97]⟩, .string ⟨#[]⟩, .int .u64 0] 79)).heap[W.heap.size]? = some (.cells #[.int .i64 0, .int .i64 0, .int .i64 0, .int .i64 0, .int .i64 0, .int .i64 0, .int .i64 0, .int .i64 0, .int .i64 0, .slice none 0 0, .bool false, .slice none 0 0, .bool false, .int .i64 0, .int .i64 0, .bool false, .int .i64 0, .int .i64 0, .slice none 0 0, .slice none 0 0, .slice none 0 0] 61 (0, 0))) := Lib.hid (nth_box W [(.cells #[.int .i64 0, .int .i64 0, .int .i64 0, .int .i64 0, .int .i64 0, .int .i64 0, .int .i64 0, .int .i64 0, .int .i64 0, .slice none 0 0, .bool false, .slice none 0 0, .bool false, .int .i64 0, .int .i64 0, .bool false, .int .i64 0, .int .i64 0, .slice none 0 0, .slice none 0 0, .slice none 0 0] 61), (.cells #[.int .i64 1, .string ⟨#[97]⟩, .string ⟨#[]⟩, .int .u64 0] 79)] 0 _ rfl).1
 have K1 : Hid (((W.alloc (.cells #[.int .i64 0, .int .i64 0, .int .i64 0, .int .i64 0, .int .i64 0, .int .i64 0, .int .i64 0, .int .i64 0, .int .i64 0, .slice none 0 0, .bool false, .slice none 0 0, .bool false, .int .i64 0, .int .i64 0, .bool false, .int .i64 0, .int .i64 0, .slice none 0 0, .slice none 0 0, .slice none 0 0] 61)).alloc (.cells #[.int .i64 1, .string ⟨#[97]⟩, .string ⟨#[]⟩, .int .u64 0] 79)).heap[W.heap.size + 1]? = some (.cells #[.int .i64 1, .string ⟨#[97]⟩, .string ⟨#[]⟩, .int .u64 0] 79 (0, 0))) := Lib.hid (nth_box W [(.cells #[.int .i64 0, .int .i64 0, .int .i64 0, .int .i64 0, .int .i64 0, .int .i64 0, .int .i64 0, .int .i64 0, .int .i64 0, .slice none 0 0, .bool false, .slice none 0 0, .bool false, .int .i64 0, .int .i64 0, .bool false, .int .i64 0, .int .i64 0, .slice none 0 0, .slice none 0 0, .slice none 0 0] 61), (.cells #[.int .i64 1, .string ⟨#[97]⟩, .string ⟨#[]⟩, .int .u64 0] 79)] 1 _ rfl).1
 have HB : Hid (Below W.heap.size W ((W.alloc (.cells #[.int .i64 0, .int .i64 0, .int .i64 0, .int .i64 0, .int .i64 0, .int .i64 0, .int .i64 0, .int .i64 0, .int .i64 0, .slice none 0 0, .bool false, .slice none 0 0, .bool false, .int .i64 0, .int .i64 0, .bool false, .int .i64 0, .int .i64 0, .slice none 0 0, .slice none 0 0, .slice none 0 0] 61)).alloc (.cells #[.int .i64 1, .string ⟨#[97]⟩, .string ⟨#[]⟩, .int .u64 0] 79))) := Lib.hid (blAlloc (blAlloc (Below.refl _ _) _) _)
 go_enter Tryz.func96, Tryz.ntmps96
 go_wp2_with (first | ((with_reducible refine atW ((W.alloc (.cells #[.int .i64 0, .int .i64 0, .int .i64 0, .int .i64 0, .int .i64 0, .int .i64 0, .int .i64 0, .int .i64 0, .int .i64 0, .slice none 0 0, .bool false, .slice none 0 0, .bool false, .int .i64 0, .int .i64 0, .bool false, .int .i64 0, .int .i64 0, .slice none 0 0, .slice none 0 0, .slice none 0 0] 61)).alloc (.cells #[.int .i64 1, .string ⟨#[97]⟩, .string ⟨#[]⟩, .int .u64 0] 79)) ?_); refine storeM _ _ rfl rfl _ rfl rfl K0.out rfl rfl (by simp [Value.oneCell']) ?_; intro w2 h1 h2; have K2 := Lib.hid h1; have KO := Lib.hid (grown_other9 K1.out h2 (by simp) (by omega)); have HB2 : Hid (Below W.heap.size W w2) := Lib.hid (below_grown9 HB.out h2 (Nat.le_refl _)); clear h1 h2))
 refine bodyPost_ret (results_cell_row Tryz.results96 _ _ _ 61 _ (0, 0) _ rfl K2.out Tryz.underlying61 rfl szMsg) rfl ?_
 exact ⟨W.heap.size + 1, rfl, ⟨slG_block KO.out [opL] rfl 1 rfl, dlV_nil9 _, dlV_nil9 _, slG_nil9 _ _, slG_nil9 _ _⟩, HB2.out, Nat.le_succ _, KO.out⟩
theorem some_any (W : World) : Calls Tryz.prog 96 #[] W fun e w' => ∃ k, e = .returned (.agg (msR sL (lS k))) ∧ MsAt w' sL (lS k) ∧ Below W.heap.size W w' := (some_any2 W).mono fun e w' ⟨k, h1, h2, h3, _⟩ => ⟨k, h1, h2, h3⟩
theorem live13_any (W : World) : Calls Tryz.prog 32 #[] W fun e w' => e = .returned (.bool true) ∧ Below W.heap.size W w' := by
 have HPA := Lib.hid (fun (gv : Nat) (ba : Option Addr) (bc : Nat) (w : World) (hB : S2.Bw w gv (.slice ba (layM sL).length bc) (layM sL)) (hcap : ba ≠ none → (layM sL).length ≤ bc) => parse13_any gv ba bc (layM sL) w hB hcap (by rw [len_sL]; decide))
 obtain ⟨nL, hnL⟩ : ∃ x, x = (layM sL).length := ⟨_, rfl⟩
 rw [← hnL] at HPA
 have n50 : (50 : Int) < (nL : Int) := by rw [hnL, len_sL]; decide
 have d50 : decide ((50 : Int) < (nL : Int)) = true := decide_eq_true n50
 have HNL := Lib.hid hnL
 have w00 : IntKind.i64.wrap 0 = 0 := rfl
 have w01 : wrap64 0 = 0 := by unfold wrap64; omega
 clear hnL
 go_enter Tryz.func32, Tryz.ntmps32
 go_upto_region 6 with (first | go_skip | ((with_reducible refine atC w7 ?_); go_at_call 33; go_must (refine (put13_any sB lN w7 (ms_nilB _) few_sB (fun _ => put_sB) rfl).mono ?_; intro e w8 h; unfold RetPut at h; rw [if_neg (by rw [sB_check]; simp)] at h; obtain ⟨rfl, h5⟩ := h; have HB8 : Hid (Below w5.heap.size w5 w8) := Lib.hid (blThen HB7.out h5); have K8 := Lib.hid ((h5.block w3.heap.size (lt_of_block K7.out)).trans K7.out); have HBT : Hid (Below W.heap.size W w8) := Lib.hid (blThen (blThen (blThen HB3.out HB4.out) HB5.out) HB8.out); have HT8 : Hid (Below w3.heap.size w3 w8) := Lib.hid (blThen (blThen HB4.out HB5.out) HB8.out); clear h5)) | ((with_reducible refine atW w7 ?_); refine loadM _ rfl rfl _ rfl N7.out rfl ?_) | ((with_reducible refine atW w6 ?_); refine wpList_store_part _ _ _ rfl (by rfl) _ 9 rfl rfl (cs := #[.slice none 0 0]) rfl N6.out (by kernel_rfl) (by simp [msR]) (by simp [Value.oneCell']) (D := msR sB lN) rfl ?_; intro w7 h1 h2; have N7 := Lib.hid h1; have K7 := Lib.hid (grown_other9 K6.out h2 (lt_of_block K6.out) (by have := lt_of_block K5.out; omega)); have HB7 : Hid (Below w5.heap.size w5 w7) := Lib.hid (below_grown9 HB6.out h2 (Nat.le_refl _)); clear h1 h2) | ((with_reducible refine atW (w5.alloc (.cells #[.int .i64 0, .int .i64 0, .int .i64 0, .int .i64 0, .int .i64 0, .int .i64 0, .int .i64 0, .int .i64 0, .int .i64 0, .slice none 0 0, .bool false, .slice none 0 0, .bool false, .int .i64 0, .int .i64 0, .bool false, .int .i64 0, .int .i64 0, .slice none 0 0, .slice none 0 0, .slice none 0 0] 61)) ?_); refine storeM _ _ rfl rfl _ rfl rfl (new_blockC w5 _ _) rfl rfl (ms_one HA5.out) ?_; intro w6 h1 h2; have N6 := Lib.hid h1; have K6 := Lib.hid (grown_other9 (((blAlloc (Below.refl w5.heap.size w5) (.cells #[.int .i64 0, .int .i64 0, .int .i64 0, .int .i64 0, .int .i64 0, .int .i64 0, .int .i64 0, .int .i64 0, .int .i64 0, .slice none 0 0, .bool false, .slice none 0 0, .bool false, .int .i64 0, .int .i64 0, .bool false, .int .i64 0, .int .i64 0, .slice none 0 0, .slice none 0 0, .slice none 0 0] 61)).block w3.heap.size (lt_of_block K5.out)).trans K5.out) h2 (by have := lt_of_block K5.out; simp; omega) (by have := lt_of_block K5.out; omega)); have HB6 : Hid (Below w5.heap.size w5 w6) := Lib.hid (below_grown9 (blAlloc (Below.refl _ _) _) h2 (Nat.le_refl _)); clear h1 h2) | ((with_reducible refine atC w4 ?_); go_at_call 96; go_must (refine (some_any _).mono ?_; rintro e w5 ⟨k5, rfl, ha, h5⟩; have HA5 := Lib.hid ha; have HB5 : Hid (Below w4.heap.size w4 w5) := Lib.hid h5; have K5 := Lib.hid ((h5.block w3.heap.size (lt_of_block K4.out)).trans K4.out); clear ha h5)) | ((with_reducible refine atW (w3.alloc (.cells #[.int .i64 0, .int .i64 0, .int .i64 0, .int .i64 0, .int .i64 0, .int .i64 0, .int .i64 0, .int .i64 0, .int .i64 0, .slice none 0 0, .bool false, .slice none 0 0, .bool false, .int .i64 0, .int .i64 0, .bool false, .int .i64 0, .int .i64 0, .slice none 0 0, .slice none 0 0, .slice none 0 0] 61)) ?_); go_must (refine storeM _ _ rfl rfl _ rfl rfl (new_blockC w3 _ _) rfl rfl (ms_one HA3.out) ?_); intro w4 h1 h2; have K4 := Lib.hid h1; have HB4 : Hid (Below w3.heap.size w3 w4) := Lib.hid (below_grown9 (blAlloc (Below.refl _ _) _) h2 (Nat.le_refl _)); clear h1 h2) | ((with_reducible refine atC w2 ?_); go_at_call 35; go_must (refine (HPA.out _ ba bc w2 HBW.out HCAP.out).mono ?_; intro e w3 h; unfold RetPm at h; rw [parse_sL] at h; obtain ⟨⟨po, pd, pv, pw, pp⟩, he, ha, h5⟩ := h; have ha : MsAt w3 sL ⟨po, pd, pv, pw, pp⟩ := ha; have he2 : e = .returned (.tuple #[.agg (msR sL ⟨po, pd, pv, pw, pp⟩), .int .i64 0]) := he; subst he2; clear he; have HA3 := Lib.hid ha; obtain ⟨poa, poc, pda, pdc, pva, pvc, pwa, pwc, ppa, ppc, hpl⟩ := ms_form ha; simp only [PlM.mk.injEq] at hpl; obtain ⟨rfl, rfl, rfl, rfl, rfl⟩ := hpl; have HB3 : Hid (Below W.heap.size W w3) := Lib.hid (blThen HB2.out h5); clear ha h5)) | ((with_reducible refine atC w1 ?_); go_at_call 33; go_must (refine (put13_any sL (lS k1) w1 HA1.out few_sL (fun _ => put_sL) rfl).mono ?_; intro e w2 h; unfold RetPut at h; rw [if_pos sL_check] at h; obtain ⟨v, g, rfl, hr, hn, h5⟩ := h; obtain ⟨ba, bc, rfl, hcap, hbw⟩ := row_len hr; rw [← HNL.out] at hbw hcap ⊢; have HBW := Lib.hid hbw; have HCAP := Lib.hid hcap; have HB2 : Hid (Below W.heap.size W w2) := Lib.hid (blThen HB1.out h5); clear hr hn h5 hcap hbw)) | ((with_reducible refine atC W ?_); go_at_call 96; go_must (refine (some_any _).mono ?_; rintro e w1 ⟨k1, rfl, ha, h5⟩; have HA1 := Lib.hid ha; have HB1 := Lib.hid h5; clear ha h5)))
 refine wp_region_held_drew (S := fun Y => Y.heap[w3.heap.size]? = some (.cells (msR sL ⟨.slice poa sL.ops.length poc, .slice pda sL.deps.length pdc, .slice pva sL.val.2.2.length pvc, .slice pwa sL.writes.length pwc, .slice ppa sL.pairs.length ppc⟩) 61 (0, 0))) (by kernel_rfl) (K8.out) (fun hHeld => ?_)
 have K9 : Hid (w8.drew.heap[w3.heap.size]? = some (.cells (msR sL ⟨.slice poa sL.ops.length poc, .slice pda sL.deps.length pdc, .slice pva sL.val.2.2.length pvc, .slice pwa sL.writes.length pwc, .slice ppa sL.pairs.length ppc⟩) 61 (0, 0))) := Lib.hid K8.out
 have HB9 : Hid (Below W.heap.size W w8.drew) := Lib.hid HBT.out.drew
 have HT9 : Hid (Below w3.heap.size w3 w8.drew) := Lib.hid HT8.out.drew
 generalize w8.drew = w9 at *
 refine wpAnyH_take (i := 0) (oi := ⟨_, _, _, _, _, _⟩) (v := ?_) rfl (by kernel_rfl) (by kernel_rfl) (by kernel_rfl) (fun _ _ _ h => h) (Or.inl ⟨by rfl, ?_⟩) (by assumption) ?_
 rotate_left
 ·intro w hSw
  try dsimp only at hSw
  go_simp
  try with_reducible rfl
 try simp only [Act.put, List.setIfInBounds_toArray, List.set_cons_zero, List.set_cons_succ]
 refine wpAnyH_take (i := 2) (oi := ⟨_, _, _, _, _, _⟩) (v := ?_) rfl (by kernel_rfl) (by kernel_rfl) (by kernel_rfl) (fun _ _ _ h => h) (Or.inl ⟨by rfl, ?_⟩) (by assumption) ?_
 rotate_left
 ·intro w hSw
  try dsimp only at hSw
  go_simp
  try with_reducible rfl
 try simp only [Act.put, List.setIfInBounds_toArray, List.set_cons_zero, List.set_cons_succ]
 refine wpAnyH_ready (rs := [1]) (by kernel_rfl) (by simp) ?_
 refine AllReadyH.cons (o := ⟨_, _, _, _, _, _⟩) rfl (fun K hK => ?_) ?_
 rotate_left
 ·exact AllReadyH.nil
 go_simp
 go_at_call 37
 refine (num13_any _ _).mono ?_
 rintro e wn ⟨rfl, rfl⟩
 refine hK.out _ _ (hHeld) (fun hHeld => ?_)
 clear hK K
 try simp only [Act.put, List.setIfInBounds_toArray, List.set_cons_zero, List.set_cons_succ]
 refine wpAnyH_ready (rs := [3]) (by kernel_rfl) (by simp) ?_
 refine AllReadyH.cons (o := ⟨_, _, _, _, _, _⟩) rfl (fun K hK => ?_) ?_
 rotate_left
 ·exact AllReadyH.nil
 go_simp
 go_at_call 37
 refine (num13_any _ _).mono ?_
 rintro e wn ⟨rfl, rfl⟩
 refine hK.out _ _ (hHeld) (fun hHeld => ?_)
 clear hK K
 try simp only [Act.put, List.setIfInBounds_toArray, List.set_cons_zero, List.set_cons_succ]
 refine wpAnyH_take (i := 4) (oi := ⟨_, _, _, _, _, _⟩) (v := ?_) rfl (by kernel_rfl) (by kernel_rfl) (by kernel_rfl) (fun _ _ _ h => h) (Or.inl ⟨by rfl, ?_⟩) (by assumption) ?_
 rotate_left
 ·intro w hSw
  try dsimp only at hSw
  go_simp
  try with_reducible rfl
 try simp only [Act.put, List.setIfInBounds_toArray, List.set_cons_zero, List.set_cons_succ]
 refine wpAnyH_take (i := 5) (oi := ⟨_, _, _, _, _, _⟩) (v := ?_) rfl (by kernel_rfl) (by kernel_rfl) (by kernel_rfl) (fun _ _ _ h => h) (Or.inl ⟨by rfl, ?_⟩) (by assumption) ?_
 rotate_left
 ·intro w hSw
  try dsimp only at hSw
  go_simp
  try with_reducible rfl
 try simp only [Act.put, List.setIfInBounds_toArray, List.set_cons_zero, List.set_cons_succ]
 refine wpAnyH_take (i := 6) (oi := ⟨_, _, _, _, _, _⟩) (v := ?_) rfl (by kernel_rfl) (by kernel_rfl) (by kernel_rfl) (fun _ _ _ h => h) (Or.inl ⟨by rfl, ?_⟩) (by assumption) ?_
 rotate_left
 ·intro w hSw
  try dsimp only at hSw
  go_simp
  try with_reducible rfl
 try simp only [Act.put, List.setIfInBounds_toArray, List.set_cons_zero, List.set_cons_succ]
 refine wpAnyH_take (i := 7) (oi := ⟨_, _, _, _, _, _⟩) (v := ?_) rfl (by kernel_rfl) (by kernel_rfl) (by kernel_rfl) (fun _ _ _ h => h) (Or.inl ⟨by rfl, ?_⟩) (by assumption) ?_
 rotate_left
 ·intro w hSw
  try dsimp only at hSw
  go_simp
  try with_reducible rfl
 try simp only [Act.put, List.setIfInBounds_toArray, List.set_cons_zero, List.set_cons_succ]
 refine wpAnyH_take (i := 8) (oi := ⟨_, _, _, _, _, _⟩) (v := ?_) rfl (by kernel_rfl) (by kernel_rfl) (by kernel_rfl) (fun _ _ _ h => h) (Or.inl ⟨by rfl, ?_⟩) (by assumption) ?_
 rotate_left
 ·intro w hSw
  try dsimp only at hSw
  go_simp
  try with_reducible rfl
 try simp only [Act.put, List.setIfInBounds_toArray, List.set_cons_zero, List.set_cons_succ]
 refine wpAnyH_take (i := 9) (oi := ⟨_, _, _, _, _, _⟩) (v := ?_) rfl (by kernel_rfl) (by kernel_rfl) (by kernel_rfl) (fun _ _ _ h => h) (Or.inl ⟨by rfl, ?_⟩) (by assumption) ?_
 rotate_left
 ·intro w hSw
  try dsimp only at hSw
  go_simp
  try with_reducible rfl
 try simp only [Act.put, List.setIfInBounds_toArray, List.set_cons_zero, List.set_cons_succ]
 refine wpAnyH_take (i := 10) (oi := ⟨_, _, _, _, _, _⟩) (v := ?_) rfl (by kernel_rfl) (by kernel_rfl) (by kernel_rfl) (fun _ _ _ h => h) (Or.inl ⟨by rfl, ?_⟩) (by assumption) ?_
 rotate_left
 ·intro w hSw
  try dsimp only at hSw
  go_simp
  try with_reducible rfl
 try simp only [Act.put, List.setIfInBounds_toArray, List.set_cons_zero, List.set_cons_succ]
 refine wpAnyH_take (i := 11) (oi := ⟨_, _, _, _, _, _⟩) (v := ?_) rfl (by kernel_rfl) (by kernel_rfl) (by kernel_rfl) (fun _ _ _ h => h) (Or.inl ⟨by rfl, ?_⟩) (by assumption) ?_
 rotate_left
 ·intro w hSw
  try dsimp only at hSw
  go_simp
  try with_reducible rfl
 try simp only [Act.put, List.setIfInBounds_toArray, List.set_cons_zero, List.set_cons_succ]
 refine wpAnyH_take (i := 12) (oi := ⟨_, _, _, _, _, _⟩) rfl (by kernel_rfl) (by kernel_rfl) (by kernel_rfl) (fun _ _ _ h => h) (yields_row (by rfl) _ _ rfl _ 0 rfl (fun w h => h) Tryz.underlying61 rfl (msR sL ⟨.slice poa sL.ops.length poc, .slice pda sL.deps.length pdc, .slice pva sL.val.2.2.length pvc, .slice pwa sL.writes.length pwc, .slice ppa sL.pairs.length ppc⟩) szMsg all_at) (by assumption) ?_
 try simp only [Act.put, List.setIfInBounds_toArray, List.set_cons_zero, List.set_cons_succ]
 refine wpAnyH_ready (rs := [13]) (by kernel_rfl) (by simp) ?_
 refine AllReadyH.cons (o := ⟨_, _, _, _, _, _⟩) rfl (fun K hK => ?_) ?_
 rotate_left
 ·exact AllReadyH.nil
 go_simp
 go_at_call 96
 refine (some_any _).mono ?_
 rintro e wa ⟨ka, rfl, ha, h5⟩
 have HAa := Lib.hid ha
 have Ka := Lib.hid ((h5.block w3.heap.size (lt_of_block K9.out)).trans K9.out)
 have HBa : Hid (Below W.heap.size W wa) := Lib.hid (blThen HB9.out h5)
 have HTa : Hid (Below w3.heap.size w3 wa) := Lib.hid (blThen HT9.out h5)
 clear ha h5
 refine hK.out _ _ (Ka.out) (fun hHeld => ?_)
 clear hK K
 try simp only [Act.put, List.setIfInBounds_toArray, List.set_cons_zero, List.set_cons_succ]
 refine wpAnyH_ready (rs := [14]) (by kernel_rfl) (by simp) ?_
 refine AllReadyH.cons (o := ⟨_, _, _, _, _, _⟩) rfl (fun K hK => ?_) ?_
 rotate_left
 ·exact AllReadyH.nil
 go_simp
 go_at_call 40
 refine (rsameM_any sL sL ⟨.slice poa sL.ops.length poc, .slice pda sL.deps.length pdc, .slice pva sL.val.2.2.length pvc, .slice pwa sL.writes.length pwc, .slice ppa sL.pairs.length ppc⟩ (lS ka) wa (HA3.out.later HTa.out) HAa.out few_sL few_sL).mono ?_
 rw [decide_eq_true rfl]
 rintro e wb ⟨rfl, h5⟩
 have Kb := Lib.hid ((h5.block w3.heap.size (lt_of_block Ka.out)).trans Ka.out)
 have HBb : Hid (Below W.heap.size W wb) := Lib.hid (blThen HBa.out h5)
 clear h5
 refine hK.out _ _ (Kb.out) (fun hHeld => ?_)
 clear hK K
 try simp only [Act.put, List.setIfInBounds_toArray, List.set_cons_zero, List.set_cons_succ]
 refine wpAnyH_take (i := 15) (oi := ⟨_, _, _, _, _, _⟩) (v := ?_) rfl (by kernel_rfl) (by kernel_rfl) (by kernel_rfl) (fun _ _ _ h => h) (Or.inl ⟨by rfl, ?_⟩) (by assumption) ?_
 rotate_left
 ·intro w hSw
  try dsimp only at hSw
  go_simp
  try with_reducible rfl
 try simp only [Act.put, List.setIfInBounds_toArray, List.set_cons_zero, List.set_cons_succ]
 refine wpAnyH_take (i := 16) (oi := ⟨_, _, _, _, _, _⟩) (v := ?_) rfl (by kernel_rfl) (by kernel_rfl) (by kernel_rfl) (fun _ _ _ h => h) (Or.inl ⟨by rfl, ?_⟩) (by assumption) ?_
 rotate_left
 ·intro w hSw
  try dsimp only at hSw
  go_simp
  try with_reducible rfl
 try simp only [Act.put, List.setIfInBounds_toArray, List.set_cons_zero, List.set_cons_succ]
 refine wpAnyH_take (i := 17) (oi := ⟨_, _, _, _, _, _⟩) (v := ?_) rfl (by kernel_rfl) (by kernel_rfl) (by kernel_rfl) (fun _ _ _ h => h) (Or.inl ⟨by rfl, ?_⟩) (by assumption) ?_
 rotate_left
 ·intro w hSw
  try dsimp only at hSw
  go_simp
  try with_reducible rfl
 try simp only [Act.put, List.setIfInBounds_toArray, List.set_cons_zero, List.set_cons_succ]
 refine wpAnyH_ready (rs := [18]) (by kernel_rfl) (by simp) ?_
 refine AllReadyH.cons (o := ⟨_, _, _, _, _, _⟩) rfl (fun K hK => ?_) ?_
 rotate_left
 ·exact AllReadyH.nil
 go_simp
 go_at_call 37
 refine (num13_any _ _).mono ?_
 rintro e wn ⟨rfl, rfl⟩
 refine hK.out _ _ (hHeld) (fun hHeld => ?_)
 clear hK K
 try simp only [Act.put, List.setIfInBounds_toArray, List.set_cons_zero, List.set_cons_succ]
 refine wpAnyH_take (i := 19) (oi := ⟨_, _, _, _, _, _⟩) (v := ?_) rfl (by kernel_rfl) (by kernel_rfl) (by kernel_rfl) (fun _ _ _ h => h) (Or.inl ⟨by rfl, ?_⟩) (by assumption) ?_
 rotate_left
 ·intro w hSw
  try dsimp only at hSw
  go_simp
  try with_reducible rfl
 try simp only [Act.put, List.setIfInBounds_toArray, List.set_cons_zero, List.set_cons_succ]
 refine wpAnyH_take (i := 20) (oi := ⟨_, _, _, _, _, _⟩) (v := ?_) rfl (by kernel_rfl) (by kernel_rfl) (by kernel_rfl) (fun _ _ _ h => h) (Or.inl ⟨by rfl, ?_⟩) (by assumption) ?_
 rotate_left
 ·intro w hSw
  try dsimp only at hSw
  go_simp
  try with_reducible rfl
 try simp only [Act.put, List.setIfInBounds_toArray, List.set_cons_zero, List.set_cons_succ]
 refine wpAnyH_take (i := 21) (oi := ⟨_, _, _, _, _, _⟩) (v := ?_) rfl (by kernel_rfl) (by kernel_rfl) (by kernel_rfl) (fun _ _ _ h => h) (Or.inl ⟨by rfl, ?_⟩) (by assumption) ?_
 rotate_left
 ·intro w hSw
  try dsimp only at hSw
  go_simp
  try with_reducible rfl
 try simp only [Act.put, List.setIfInBounds_toArray, List.set_cons_zero, List.set_cons_succ]
 refine wpAnyH_take (i := 22) (oi := ⟨_, _, _, _, _, _⟩) (v := ?_) rfl (by kernel_rfl) (by kernel_rfl) (by kernel_rfl) (fun _ _ _ h => h) (Or.inl ⟨by rfl, ?_⟩) (by assumption) ?_
 rotate_left
 ·intro w hSw
  try dsimp only at hSw
  go_simp
  try with_reducible rfl
 try simp only [Act.put, List.setIfInBounds_toArray, List.set_cons_zero, List.set_cons_succ]
 refine wpAnyH_ready (rs := [23]) (by kernel_rfl) (by simp) ?_
 refine AllReadyH.cons (o := ⟨_, _, _, _, _, _⟩) rfl (fun K hK => ?_) ?_
 rotate_left
 ·exact AllReadyH.nil
 go_simp
 go_at_call 38
 refine (check13_any mg0 lN wb (ms_nil _) few_mg0 rfl).mono ?_
 rw [mg0_check]
 rintro e wc ⟨rfl, h5⟩
 have Kc := Lib.hid ((h5.block w3.heap.size (lt_of_block Kb.out)).trans Kb.out)
 have HBc : Hid (Below W.heap.size W wc) := Lib.hid (blThen HBb.out h5)
 clear h5
 refine hK.out _ _ (Kc.out) (fun hHeld => ?_)
 clear hK K
 try simp only [Act.put, List.setIfInBounds_toArray, List.set_cons_zero, List.set_cons_succ]
 refine wpAnyH_ready (rs := [24]) (by kernel_rfl) (by simp) ?_
 refine AllReadyH.cons (o := ⟨_, _, _, _, _, _⟩) rfl (fun K hK => ?_) ?_
 rotate_left
 ·exact AllReadyH.nil
 go_simp
 go_at_call 37
 refine (num13_any _ _).mono ?_
 rintro e wn ⟨rfl, rfl⟩
 refine hK.out _ _ (hHeld) (fun hHeld => ?_)
 clear hK K
 try simp only [Act.put, List.setIfInBounds_toArray, List.set_cons_zero, List.set_cons_succ]
 refine wpAnyH_take (i := 25) (oi := ⟨_, _, _, _, _, _⟩) (v := ?_) rfl (by kernel_rfl) (by kernel_rfl) (by kernel_rfl) (fun _ _ _ h => h) (Or.inl ⟨by rfl, ?_⟩) (by assumption) ?_
 rotate_left
 ·intro w hSw
  try dsimp only at hSw
  go_simp
  try with_reducible rfl
 try simp only [Act.put, List.setIfInBounds_toArray, List.set_cons_zero, List.set_cons_succ]
 refine wpAnyH_take (i := 26) (oi := ⟨_, _, _, _, _, _⟩) (v := ?_) rfl (by kernel_rfl) (by kernel_rfl) (by kernel_rfl) (fun _ _ _ h => h) (Or.inl ⟨by rfl, ?_⟩) (by assumption) ?_
 rotate_left
 ·intro w hSw
  try dsimp only at hSw
  go_simp
  try with_reducible rfl
 try simp only [Act.put, List.setIfInBounds_toArray, List.set_cons_zero, List.set_cons_succ]
 refine wpAnyH_take (i := 27) (oi := ⟨_, _, _, _, _, _⟩) (v := ?_) rfl (by kernel_rfl) (by kernel_rfl) (by kernel_rfl) (fun _ _ _ h => h) (Or.inl ⟨by rfl, ?_⟩) (by assumption) ?_
 rotate_left
 ·intro w hSw
  try dsimp only at hSw
  go_simp
  try with_reducible rfl
 try simp only [Act.put, List.setIfInBounds_toArray, List.set_cons_zero, List.set_cons_succ]
 refine wpAnyH_done (by kernel_rfl) ?_ _
 go_wp2
 go_ret
 exact ⟨rfl, HBc.out⟩

theorem noT_size13 {s : ByteArray} (h : noT s = true) : s.size ≤ 1000 := by
 have e : s.toList = [] := by simpa [noT] using h
 have := congrArg List.length e
 have h2 : s.size = s.toList.length := by rw [toList_data, S2.ba_len]
 rw [h2, e]
 decide
theorem ok_sizes13 {o : Opr} (h : okB o = true) : o.2.1.size ≤ 1000 ∧ o.2.2.1.size ≤ 1000 := by
 have kb : ∀ k : ByteArray, keyB k = true → k.size ≤ 1000 := fun k hk => by have := of_decide_eq_true hk; omega
 unfold okB suitB at h
 simp only [Bool.and_eq_true] at h
 obtain ⟨⟨h1, _⟩, h⟩ := h
 refine ⟨kb _ h1, ?_⟩
 split at h
 ·simp only [Bool.and_eq_true] at h
  exact noT_size13 h.1
 split at h
 ·simp only [Bool.and_eq_true, Bool.or_eq_true] at h
  rcases h.1 with h | h
  ·exact noT_size13 h
  ·exact kb _ h.1
 split at h
 ·exact noT_size13 h
 split at h
 ·simp only [Bool.and_eq_true] at h
  exact kb _ h.1
 ·cases h
theorem bw_cut13 {w : World} {g k : Nat} {a : Option Addr} {n c : Nat} {l : List UInt8} (h : S2.Bw w g (.slice a n c) l) (hk : k < l.length) : S2.Bw w g (.slice a k c) (l.take k) := by
 obtain ⟨a', c', hv, h0, h1, h2⟩ := h
 cases hv
 obtain ⟨o, ho, hc⟩ := h2 (by rintro rfl; simp at hk)
 subst ho
 have e : (l.take k).length = k := by simp; omega
 refine ⟨_, c, by rw [e], (fun h => by cases h), by rw [e]; omega, fun _ => ⟨o, rfl, fun j x hj => hc j x ?_⟩⟩
 have hj2 : j < (l.take k).length := (List.getElem?_eq_some_iff.1 hj).1
 rw [e] at hj2
 rw [List.getElem?_take] at hj
 rw [if_pos hj2] at hj
 exact hj
theorem bw_keep13 {w x : World} {g : Nat} {v : Value} {l : List UInt8} (h : S2.Bw w g v l) (hb : Below w.heap.size w x) : S2.Bw x g v l := by
 obtain ⟨a, c, hv, h0, h1, h2⟩ := h
 refine ⟨a, c, hv, h0, h1, fun hne => ?_⟩
 obtain ⟨o, ho, hc⟩ := h2 hne
 refine ⟨o, ho, fun j y hj => ?_⟩
 rw [hb.cell (World.block_lt_of_cell? _ _ (hc j y hj))]
 exact hc j y hj
theorem put_of {m : Mg} (h : checkMB m = true) : PutM m := by
 have n := nice_of h
 have kb : ∀ k : ByteArray, keyB k = true → k.size ≤ 1000 := fun k hk => by have := of_decide_eq_true hk; omega
 refine ⟨fun o ho => ?_, fun o ho => kb _ (writes_keys _ _ n.writes o ho), fun o ho => kb _ (pairs_keys n.pairs o ho)⟩
 rcases n.ops with e | e
 ·rw [e] at ho
  cases ho
 ·exact ok_sizes13 ((check_kd e).2.2 o ho)
theorem check_zero {m : Mg} : checkM m = 0 ↔ checkMB m = true := by
 unfold checkM
 cases checkMB m <;> simp
theorem numM_of {m : Mg} (h : NM m) (hf : FewM m) : NumM m := ⟨h.no, h.nw, h.np, by have := hf.writes; omega, by have := hf.pairs; omega⟩
theorem put13_one (m : Mg) (l : PlM) (w : World) (h : MsAt w m l) (hf : FewM m) (hw : (Lit.int .i64 m.kind).wf = true) : Calls Tryz.prog 33 #[.agg (msR m l)] w fun e w' => ∃ v, e = .returned (.tuple #[v, .int .i64 (checkM m)]) ∧ Below w.heap.size w w' ∧ (checkMB m = true → ∃ g, S2.Row w' g v (layM m) ∧ S2.New w g) := by
 unfold checkM
 cases hck : checkMB m
 ·refine (put13_no m l w h hf hck hw).mono fun e w' hh => ?_
  exact ⟨_, hh.1, hh.2, fun h => by cases h⟩
 ·refine (put13_yes m l w h hf hck (put_of hck) hw).mono fun e w' hh => ?_
  obtain ⟨v, g, h1, h2, h3, h4⟩ := hh
  exact ⟨v, h1, h4, fun _ => ⟨g, h2, h3⟩⟩

theorem flat_szL {α : Type} (f : α → Nat) (g : α → List UInt8) (c : Nat) (h : ∀ x, (g x).length = c + f x) : ∀ l : List α, (l.flatMap g).length = c * l.length + szL f l
 | [] => by simp [szL]
 | x :: l => by
  have ih := flat_szL f g c h l
  have e : szL f (x :: l) = f x + szL f l := rfl
  rw [List.flatMap_cons, List.length_append, h, ih, e, List.length_cons, Nat.mul_add]
  omega
theorem layD_szL (d : SD.Dd) : (SD.layD d).length = 8 + 16 * d.length + szL fE d := by
 rw [SD.layD_len, SD.layF_len, szL_fE]
 omega
theorem lay_small {m : Mg} (h : smallM m = true) : (layM m).length ≤ 40000 := by
 obtain ⟨h1, h2⟩ := of_decide_eq_true h
 rw [layM_len, bodyM_is]
 show (S2.i8 m.kind ++ (S2.i8 m.frm ++ (S2.i8 m.dst ++ (S2.st m.id ++ (S2.st m.bal ++ (S2.st m.at_ ++ (cO.list.lay m.ops ++ (S2.tb m.fast ++ (cDs.lay m.deps ++ (S2.tb m.has ++ (S2.st m.acc ++ ((S2.tb m.val.1 ++ (S2.st m.val.2.1 ++ cDs.lay m.val.2.2)) ++ (cW.list.lay m.writes ++ cP.list.lay m.pairs))))))))))))).length + 8 ≤ _
 rw [show cDs.lay m.deps = SD.layD m.deps from SD.cD_layD _, show cDs.lay m.val.2.2 = SD.layD m.val.2.2 from SD.cD_layD _, cOs_lay]
 have e1 : (layP m.ops).length = 8 + (24 * m.ops.length + szL fO m.ops) := by
  unfold layP
  rw [List.length_append, S2.i8_length, flat_szL fO layO 24 (fun x => by rw [layO_len]; unfold fO; omega)]
 have e2 : (cW.list.lay m.writes).length = 8 + (13 * m.writes.length + szL fW m.writes) := by
  show (S2.i8 _ ++ m.writes.flatMap cW.lay).length = _
  rw [List.length_append, S2.i8_length, flat_szL fW cW.lay 13 (fun x => by rw [cW_len]; rfl)]
 have e3 : (cP.list.lay m.pairs).length = 8 + (12 * m.pairs.length + szL fP m.pairs) := by
  show (S2.i8 _ ++ m.pairs.flatMap cP.lay).length = _
  rw [List.length_append, S2.i8_length, flat_szL fP cP.lay 12 (fun x => by rw [cP_len]; rfl)]
 have e4 := layD_szL m.deps
 have e5 := layD_szL m.val.2.2
 have e6 := bool_len m.fast
 have e7 := bool_len m.has
 have e8 := bool_len m.val.1
 simp only [List.length_append, S2.i8_length, S2.st_length, e1, e2, e3, e4, e5, e6, e7, e8]
 omega
theorem lay_pos (m : Mg) : layM m ≠ [] := by
 intro e
 have h := layM_len m
 rw [e] at h
 simp at h
theorem parse13_some (g : Nat) (a : Option Addr) (n c : Nat) (B : List UInt8) (m : Mg) (w : World) (hB : S2.Bw w g (.slice a n c) B) (hcap : a ≠ none → n ≤ c) (hlen : n ≤ 50000) (hp : parseM B = some m) : Calls Tryz.prog 35 #[.slice a n c] w fun e w' => ∃ l, e = .returned (.tuple #[.agg (msR m l), .int .i64 0]) ∧ MsAt w' m l ∧ Below w.heap.size w w' := by
 have hn : n = B.length := by obtain ⟨_, _, hv, _⟩ := hB; cases hv; rfl
 subst hn
 refine (parse13_any g a c B w hB hcap hlen).mono fun e w' h => ?_
 unfold RetPm at h
 rw [hp] at h
 obtain ⟨l, h1, h2, h3⟩ := h
 exact ⟨l, h1, h2, h3⟩
theorem parse13_none (g : Nat) (a : Option Addr) (n c : Nat) (B : List UInt8) (w : World) (hB : S2.Bw w g (.slice a n c) B) (hcap : a ≠ none → n ≤ c) (hlen : n ≤ 50000) (hp : parseM B = none) : Calls Tryz.prog 35 #[.slice a n c] w fun e w' => ∃ l, e = .returned (.tuple #[.agg (msR mg0 l), .int .i64 130]) ∧ MsAt w' mg0 l ∧ Below w.heap.size w w' := by
 have hn : n = B.length := by obtain ⟨_, _, hv, _⟩ := hB; cases hv; rfl
 subst hn
 refine (parse13_any g a c B w hB hcap hlen).mono fun e w' h => ?_
 unfold RetPm at h
 rw [hp] at h
 obtain ⟨l, h1, h2, h3⟩ := h
 exact ⟨l, h1, h2, h3⟩
theorem row_form9 {w : World} {g : Nat} {v : Value} {l : List UInt8} (h : S2.Row w (some g) v l) : ∃ cap, v = .slice (some ⟨g, 0, none⟩) l.length cap ∧ l.length ≤ cap := by
 rcases h.1.2 with ⟨rfl, _⟩ | ⟨b, cap, cur, rfl, _, _, hc, _⟩
 ·have := h.2; simp [Value.ownBlock] at this
 ·have e : b = g := by have := h.2; simpa [Value.ownBlock] using this
  subst e
  exact ⟨cap, rfl, hc⟩
theorem below_app9 {w x y : World} {g : Option Nat} (h : Below w.heap.size w x) (k : x.grownBy y g) (hg : ∀ b, g = some b → w.heap.size ≤ b) : Below w.heap.size w y := h.grown k h.size hg
theorem new_app9 {B : Nat} {W : World} {g g' : Option Nat} (h : g' = g ∨ S2.New W g') (hW : B ≤ W.heap.size) (hg : ∀ k, g = some k → B ≤ k) : ∀ k, g' = some k → B ≤ k := by
 intro k e
 rcases h with h | h
 ·exact hg k (h ▸ e)
 ·exact Nat.le_trans hW (h k e)

theorem wireBack_walk (m : Mg) (l : PlM) (at_ : Int) (y : UInt8) (cut : Int) (W : World) (h : MsAt W m l) (hr : ReachM m) (hn : NM m) : Calls Tryz.prog 7 #[msV m l, .int .i64 at_, .int .u8 (y.toNat : Int), .int .i64 cut] W fun e w' => e = .returned (.bool true) ∧ Below W.heap.size W w' := by
 show Calls Tryz.prog 7 #[.agg (msR m l), .int .i64 at_, .int .u8 (y.toNat : Int), .int .i64 cut] W fun e w' => e = .returned (.bool true) ∧ Below W.heap.size W w'
 have HS := Lib.hid (fun (Y : World) (hY : Below W.heap.size W Y) => small13_any m l Y (h.later hY) hr)
 cases hs : smallM m
 ·simp only [hs] at HS
  obtain ⟨w0, he0, hw0, kQa, hb0⟩ := boxes1 W (.cells (msR m l) 61)
  have Ka0 := Lib.hid kQa
  have HB0 := Lib.hid hb0
  have HE0 := Lib.hid he0
  clear he0 hb0 kQa
  go_enter Tryz.func7, Tryz.ntmps7
  go_upto_region 1 with fail
  rw [← HE0.out]
  go_wp2_with (first | go_skip | ((with_reducible refine atC w1 ?_); go_at_call 32; refine (live13_any _).mono ?_; rintro e w2 ⟨rfl, h5⟩; have hw2 := Nat.le_trans hw1 h5.size; have HB2 : Hid (Below W.heap.size W w2) := Lib.hid (blThen HB1.out h5); have Ka2 := Lib.hid ((h5.block W.heap.size (by omega)).trans Ka1.out); clear h5) | ((with_reducible refine atC w0 ?_); go_at_call 31; refine (HS.out _ HB0.out).mono ?_; rintro e w1 ⟨rfl, h5⟩; have hw1 := Nat.le_trans hw0 h5.size; have HB1 : Hid (Below W.heap.size W w1) := Lib.hid (blThen HB0.out h5); have Ka1 := Lib.hid ((h5.block W.heap.size (by omega)).trans Ka0.out); clear h5) | ((with_reducible refine atDst 20 ?_); refine loadM _ rfl (by rfl) _ rfl Ka0.out rfl ?_))
  go_ret
  exact ⟨rfl, HB2.out⟩
 have hf := few_smallM hs
 have hsl := lay_small hs
 simp only [hs] at HS
 cases hck : checkMB m
 ·have HP := Lib.hid (fun (Y : World) (hY : Below W.heap.size W Y) => put13_no m l Y (h.later hY) hf hck hn.kind)
  have HCK : Hid (∀ Y : World, Below W.heap.size W Y → Calls Tryz.prog 38 #[.agg (msR m l)] Y fun e w' => e = .returned (.int .i64 130) ∧ Below Y.heap.size Y w') := Lib.hid (fun Y hY => by
   have hc := check13_any m l Y (h.later hY) hf hn.kind
   unfold checkM at hc
   rw [hck] at hc
   exact hc)
  clear hs hf hck h hsl
  obtain ⟨w0, he0, hw0, kQa, hb0⟩ := boxes1 W (.cells (msR m l) 61)
  have Ka0 := Lib.hid kQa
  have HB0 := Lib.hid hb0
  have HE0 := Lib.hid he0
  clear he0 hb0 kQa
  go_enter Tryz.func7, Tryz.ntmps7
  go_upto_region 1 with fail
  rw [← HE0.out]
  go_upto_region 5 with (first | go_skip | (go_at_call 37; refine (num13_any _ _).mono ?_; rintro e wn ⟨rfl, rfl⟩) | ((with_reducible refine atC w1 ?_); go_at_call 33; refine (HP.out _ HB1.out).mono ?_; rintro e w2 ⟨rfl, h5⟩; have hw2 := Nat.le_trans hw1 h5.size; have HB2 : Hid (Below W.heap.size W w2) := Lib.hid (blThen HB1.out h5); have Ka2 := Lib.hid ((h5.block W.heap.size (by omega)).trans Ka1.out); clear h5) | ((with_reducible refine atDst 25 ?_); refine loadM _ rfl (by rfl) _ rfl Ka1.out rfl ?_) | ((with_reducible refine atC w0 ?_); go_at_call 31; refine (HS.out _ HB0.out).mono ?_; rintro e w1 ⟨rfl, h5⟩; have hw1 := Nat.le_trans hw0 h5.size; have HB1 : Hid (Below W.heap.size W w1) := Lib.hid (blThen HB0.out h5); have Ka1 := Lib.hid ((h5.block W.heap.size (by omega)).trans Ka0.out); clear h5) | ((with_reducible refine atDst 20 ?_); refine loadM _ rfl (by rfl) _ rfl Ka0.out rfl ?_))
  refine wp_region_held_drew (S := fun Y => Below w2.heap.size w2 Y) (by kernel_rfl) ((Below.refl w2.heap.size w2).drew) (fun hHeld => ?_)
  refine wpAnyH_take (i := 0) (oi := ⟨_, _, _, _, _, _⟩) (v := ?_) rfl (by kernel_rfl) (by kernel_rfl) (by kernel_rfl) (fun _ _ _ h => h) (Or.inl ⟨by rfl, ?_⟩) (by assumption) ?_
  rotate_left
  ·intro w hSw
   try dsimp only at hSw
   go_simp
   try with_reducible rfl
  try simp only [Act.put, List.setIfInBounds_toArray, List.set_cons_zero, List.set_cons_succ]
  refine wpAnyH_take (i := 2) (oi := ⟨_, _, _, _, _, _⟩) rfl (by kernel_rfl) (by kernel_rfl) (by kernel_rfl) (fun _ _ _ h => h) (yields_row (by rfl) _ _ rfl _ 0 rfl (fun w h => (h.block W.heap.size (by omega)).trans Ka2.out) Tryz.underlying61 rfl (msR m l) szMsg all_at) (by assumption) ?_
  try simp only [Act.put, List.setIfInBounds_toArray, List.set_cons_zero, List.set_cons_succ]
  refine wpAnyH_ready (rs := [1]) (by kernel_rfl) (by simp) ?_
  refine AllReadyH.cons (o := ⟨_, _, _, _, _, _⟩) rfl (fun K hK => ?_) ?_
  rotate_left
  ·exact AllReadyH.nil
  go_simp
  go_at_call 37
  refine (num13_any _ _).mono ?_
  rintro e wn ⟨rfl, rfl⟩
  refine hK.out _ _ (hHeld) (fun hHeld => ?_)
  clear hK K
  try simp only [Act.put, List.setIfInBounds_toArray, List.set_cons_zero, List.set_cons_succ]
  refine wpAnyH_ready (rs := [3]) (by kernel_rfl) (by simp) ?_
  refine AllReadyH.cons (o := ⟨_, _, _, _, _, _⟩) rfl (fun K hK => ?_) ?_
  rotate_left
  ·exact AllReadyH.nil
  go_simp
  go_at_call 38
  refine (HCK.out _ (blThen HB2.out hHeld)).mono ?_
  rintro e wb ⟨rfl, h5⟩
  have HBb : Hid (Below w2.heap.size w2 wb) := Lib.hid (blThen hHeld h5)
  clear h5
  refine hK.out _ _ (HBb.out) (fun hHeld => ?_)
  clear hK K
  try simp only [Act.put, List.setIfInBounds_toArray, List.set_cons_zero, List.set_cons_succ]
  refine wpAnyH_ready (rs := [4]) (by kernel_rfl) (by simp) ?_
  refine AllReadyH.cons (o := ⟨_, _, _, _, _, _⟩) rfl (fun K hK => ?_) ?_
  rotate_left
  ·exact AllReadyH.nil
  go_simp
  go_at_call 37
  refine (num13_any _ _).mono ?_
  rintro e wn ⟨rfl, rfl⟩
  refine hK.out _ _ (HBb.out) (fun hHeld => ?_)
  clear hK K
  try simp only [Act.put, List.setIfInBounds_toArray, List.set_cons_zero, List.set_cons_succ]
  refine wpAnyH_take (i := 5) (oi := ⟨_, _, _, _, _, _⟩) (v := ?_) rfl (by kernel_rfl) (by kernel_rfl) (by kernel_rfl) (fun _ _ _ h => h) (Or.inl ⟨by rfl, ?_⟩) (by assumption) ?_
  rotate_left
  ·intro w hSw
   try dsimp only at hSw
   go_simp
   try with_reducible rfl
  try simp only [Act.put, List.setIfInBounds_toArray, List.set_cons_zero, List.set_cons_succ]
  refine wpAnyH_take (i := 6) (oi := ⟨_, _, _, _, _, _⟩) (v := ?_) rfl (by kernel_rfl) (by kernel_rfl) (by kernel_rfl) (fun _ _ _ h => h) (Or.inl ⟨by rfl, ?_⟩) (by assumption) ?_
  rotate_left
  ·intro w hSw
   try dsimp only at hSw
   go_simp
   try with_reducible rfl
  try simp only [Act.put, List.setIfInBounds_toArray, List.set_cons_zero, List.set_cons_succ]
  refine wpAnyH_take (i := 7) (oi := ⟨_, _, _, _, _, _⟩) (v := ?_) rfl (by kernel_rfl) (by kernel_rfl) (by kernel_rfl) (fun _ _ _ h => h) (Or.inl ⟨by rfl, ?_⟩) (by assumption) ?_
  rotate_left
  ·intro w hSw
   try dsimp only at hSw
   go_simp
   try with_reducible rfl
  try simp only [Act.put, List.setIfInBounds_toArray, List.set_cons_zero, List.set_cons_succ]
  refine wpAnyH_take (i := 8) (oi := ⟨_, _, _, _, _, _⟩) (v := ?_) rfl (by kernel_rfl) (by kernel_rfl) (by kernel_rfl) (fun _ _ _ h => h) (Or.inl ⟨by rfl, ?_⟩) (by assumption) ?_
  rotate_left
  ·intro w hSw
   try dsimp only at hSw
   go_simp
   try with_reducible rfl
  try simp only [Act.put, List.setIfInBounds_toArray, List.set_cons_zero, List.set_cons_succ]
  refine wpAnyH_take (i := 9) (oi := ⟨_, _, _, _, _, _⟩) (v := ?_) rfl (by kernel_rfl) (by kernel_rfl) (by kernel_rfl) (fun _ _ _ h => h) (Or.inl ⟨by rfl, ?_⟩) (by assumption) ?_
  rotate_left
  ·intro w hSw
   try dsimp only at hSw
   go_simp
   try with_reducible rfl
  try simp only [Act.put, List.setIfInBounds_toArray, List.set_cons_zero, List.set_cons_succ]
  refine wpAnyH_take (i := 10) (oi := ⟨_, _, _, _, _, _⟩) (v := ?_) rfl (by kernel_rfl) (by kernel_rfl) (by kernel_rfl) (fun _ _ _ h => h) (Or.inl ⟨by rfl, ?_⟩) (by assumption) ?_
  rotate_left
  ·intro w hSw
   try dsimp only at hSw
   go_simp
   try with_reducible rfl
  try simp only [Act.put, List.setIfInBounds_toArray, List.set_cons_zero, List.set_cons_succ]
  refine wpAnyH_take (i := 11) (oi := ⟨_, _, _, _, _, _⟩) (v := ?_) rfl (by kernel_rfl) (by kernel_rfl) (by kernel_rfl) (fun _ _ _ h => h) (Or.inl ⟨by rfl, ?_⟩) (by assumption) ?_
  rotate_left
  ·intro w hSw
   try dsimp only at hSw
   go_simp
   try with_reducible rfl
  try simp only [Act.put, List.setIfInBounds_toArray, List.set_cons_zero, List.set_cons_succ]
  refine wpAnyH_ready (rs := [12]) (by kernel_rfl) (by simp) ?_
  refine AllReadyH.cons (o := ⟨_, _, _, _, _, _⟩) rfl (fun K hK => ?_) ?_
  rotate_left
  ·exact AllReadyH.nil
  go_simp
  go_at_call 32
  refine (live13_any _).mono ?_
  rintro e wl ⟨rfl, h5⟩
  have HBl : Hid (Below w2.heap.size w2 wl) := Lib.hid (blThen HBb.out h5)
  clear h5
  refine hK.out _ _ (HBl.out) (fun hHeld => ?_)
  clear hK K
  try simp only [Act.put, List.setIfInBounds_toArray, List.set_cons_zero, List.set_cons_succ]
  refine wpAnyH_take (i := 13) (oi := ⟨_, _, _, _, _, _⟩) (v := ?_) rfl (by kernel_rfl) (by kernel_rfl) (by kernel_rfl) (fun _ _ _ h => h) (Or.inl ⟨by rfl, ?_⟩) (by assumption) ?_
  rotate_left
  ·intro w hSw
   try dsimp only at hSw
   go_simp
   try with_reducible rfl
  try simp only [Act.put, List.setIfInBounds_toArray, List.set_cons_zero, List.set_cons_succ]
  refine wpAnyH_take (i := 14) (oi := ⟨_, _, _, _, _, _⟩) (v := ?_) rfl (by kernel_rfl) (by kernel_rfl) (by kernel_rfl) (fun _ _ _ h => h) (Or.inl ⟨by rfl, ?_⟩) (by assumption) ?_
  rotate_left
  ·intro w hSw
   try dsimp only at hSw
   go_simp
   try with_reducible rfl
  try simp only [Act.put, List.setIfInBounds_toArray, List.set_cons_zero, List.set_cons_succ]
  refine wpAnyH_done (by kernel_rfl) ?_ _
  go_wp2
  go_ret
  exact ⟨rfl, blThen HB2.out HBl.out⟩
 have hz := check_zero.2 hck
 have HP := Lib.hid (fun (Y : World) (hY : Below W.heap.size W Y) => put13_one m l Y (h.later hY) hf hn.kind)
 have HSM : Hid (∀ (Y : World) (lx : PlM), Below W.heap.size W Y → MsAt Y m lx → Calls Tryz.prog 40 #[.agg (msR m lx), .agg (msR m l)] Y fun e w' => e = .returned (.bool true) ∧ Below Y.heap.size Y w') := Lib.hid (fun Y lx hY hx => by
  have hq := rsameM_any m m lx l Y hx (h.later hY) hf hf
  rw [decide_eq_true rfl] at hq
  exact hq)
 have HSZ : Hid (∀ (Y : World) (lx : PlM), MsAt Y mg0 lx → Calls Tryz.prog 40 #[.agg (msR mg0 lx), .agg (msR mg0 lN)] Y fun e w' => e = .returned (.bool true) ∧ Below Y.heap.size Y w') := Lib.hid (fun Y lx hx => by
  have hq := rsameM_any mg0 mg0 lx lN Y hx (ms_nil _) few_mg0 few_mg0
  rw [decide_eq_true rfl] at hq
  exact hq)
 have hnm := numM_of hn hf
 have HPS := Lib.hid (parseM_back hck hnm)
 have HPT := Lib.hid (fun (k : Nat) (x y : UInt8) (hx : (layM m)[k]? = some x) (hxy : x ≠ y) => parseM_turned hck hnm hx hxy (by omega))
 have HPC := Lib.hid (fun (k : Nat) (hk : k < (layM m).length) => parseM_cut hck hnm hk (by omega))
 have HPM := Lib.hid (fun (x : UInt8) => parseM_more hck hnm x)
 have HNE := Lib.hid (lay_pos m)
 have HCB := Lib.hid hck
 obtain ⟨B, hB⟩ : ∃ x, x = layM m := ⟨_, rfl⟩
 rw [← hB] at HPS HPT HPC HPM HNE hsl HP
 rw [hz] at HP
 have HLB := Lib.hid hsl
 clear hz hs hf hck h hsl hB hnm
 obtain ⟨w0, he0, hw0, kQa, hb0⟩ := boxes1 W (.cells (msR m l) 61)
 have Ka0 := Lib.hid kQa
 have HB0 := Lib.hid hb0
 have HE0 := Lib.hid he0
 clear he0 hb0 kQa
 go_enter Tryz.func7, Tryz.ntmps7
 go_upto_region 1 with fail
 rw [← HE0.out]
 go_upto_region 6 with (first | go_skip | (go_at_call 37; refine (num13_any _ _).mono ?_; rintro e wn ⟨rfl, rfl⟩) | ((with_reducible refine atC w1 ?_); go_at_call 33; refine (HP.out _ HB1.out).mono ?_; rintro e w2 ⟨va, rfl, h5, hp⟩; have hw2 := Nat.le_trans hw1 h5.size; have HB2 : Hid (Below W.heap.size W w2) := Lib.hid (blThen HB1.out h5); have Ka2 := Lib.hid ((h5.block W.heap.size (by omega)).trans Ka1.out); have HR := Lib.hid hp; clear h5 hp) | ((with_reducible refine atDst 25 ?_); refine loadM _ rfl (by rfl) _ rfl Ka1.out rfl ?_) | ((with_reducible refine atC w0 ?_); go_at_call 31; refine (HS.out _ HB0.out).mono ?_; rintro e w1 ⟨rfl, h5⟩; have hw1 := Nat.le_trans hw0 h5.size; have HB1 : Hid (Below W.heap.size W w1) := Lib.hid (blThen HB0.out h5); have Ka1 := Lib.hid ((h5.block W.heap.size (by omega)).trans Ka0.out); clear h5) | ((with_reducible refine atDst 20 ?_); refine loadM _ rfl (by rfl) _ rfl Ka0.out rfl ?_))
 obtain ⟨gB, hrB, hnB⟩ := HR.out HCB.out
 obtain ⟨g, rfl⟩ := hrB.some_of HNE.out
 obtain ⟨c, rfl, hc⟩ := row_form9 hrB
 have HCAP : Hid (B.length ≤ c) := Lib.hid hc
 have HBW : Hid (S2.Bw w2 g (.slice (some ⟨g, 0, none⟩) B.length c) B) := Lib.hid hrB.bs.bw
 clear hrB hnB hc HR
 go_upto_region 9 with (first | go_skip | (go_at_call 37; refine (num13_any _ _).mono ?_; rintro e wn ⟨rfl, rfl⟩) | ((with_reducible refine atC w4 ?_); go_at_call 40; refine (HSM.out _ lx HB4.out HX4.out).mono ?_; rintro e w5 ⟨rfl, h5⟩; have HB5 : Hid (Below W.heap.size W w5) := Lib.hid (blThen HB4.out h5); have HD5 : Hid (Below w2.heap.size w2 w5) := Lib.hid (blThen HD4.out h5); clear h5) | ((with_reducible refine atDst 56 ?_); refine loadM _ rfl (by rfl) _ rfl Ka4.out rfl ?_) | ((with_reducible refine atDst 55 ?_); refine loadM _ rfl (by rfl) _ rfl KX4.out rfl ?_) | ((with_reducible refine atW (w3.alloc (.cells #[.int .i64 0, .int .i64 0, .int .i64 0, .int .i64 0, .int .i64 0, .int .i64 0, .int .i64 0, .int .i64 0, .int .i64 0, .slice none 0 0, .bool false, .slice none 0 0, .bool false, .int .i64 0, .int .i64 0, .bool false, .int .i64 0, .int .i64 0, .slice none 0 0, .slice none 0 0, .slice none 0 0] 61)) ?_); refine storeM _ _ rfl rfl _ rfl rfl (new_blockC w3 _ _) rfl rfl (ms_one HX.out) ?_; intro w4 h1 h2; have hbx : Below w3.heap.size w3 w4 := below_grown9 (blAlloc (Below.refl _ _) _) h2 (Nat.le_refl _); have KX4 := Lib.hid h1; have HX4 := Lib.hid (HX.out.later hbx); have HB4 : Hid (Below W.heap.size W w4) := Lib.hid (blThen HB3.out hbx); have HD4 : Hid (Below w2.heap.size w2 w4) := Lib.hid (blThen HD3.out hbx); have Ka4 := Lib.hid ((hbx.block W.heap.size (by omega)).trans Ka3.out); have hw4 := Nat.le_trans hw3 hbx.size; clear h1 h2 hbx) | ((with_reducible refine atC w2 ?_); go_at_call 35; refine (parse13_some g _ _ c B m _ HBW.out (fun _ => HCAP.out) (by have := HLB.out; omega) HPS.out).mono ?_; rintro e w3 ⟨lx, rfl, hx, h5⟩; have HX := Lib.hid hx; have HB3 : Hid (Below W.heap.size W w3) := Lib.hid (blThen HB2.out h5); have HD3 : Hid (Below w2.heap.size w2 w3) := Lib.hid h5; have Ka3 := Lib.hid ((h5.block W.heap.size (by omega)).trans Ka2.out); have hw3 := Nat.le_trans hw2 h5.size; clear h5 hx))
 have HBW5 := Lib.hid (bw_keep13 HBW.out HD5.out)
 clear HD5 HD4 HD3 HB4 HB3 KX4 HX4 HX Ka4 Ka3 HBW
 generalize w5 = wq at *
 go_cut [75] from 60 to 75 (fun s75 wx => wx = wq ∧ ∃ tb : Bool, s75 = .bool tb ∧ (tb = true → ∃ (k : Nat) (x : UInt8), at_ = (k : Int) ∧ B[k]? = some x ∧ x ≠ y))
 case first =>
  by_cases h0 : 0 ≤ at_
  ·by_cases h1 : at_ < (B.length : Int)
   ·obtain ⟨k, rfl⟩ := Int.eq_ofNat_of_zero_le h0
    have hk : k < B.length := by omega
    obtain ⟨x, hx⟩ := S2.get_lt hk
    obtain ⟨ob, cb, he, cx⟩ := HBW5.out.at hx
    simp only [Value.slice.injEq, Option.some.injEq, Addr.mk.injEq, true_and, and_true] at he
    obtain ⟨rfl, rfl⟩ := he
    unfold S2.bv at cx
    rw [Nat.zero_add] at cx
    have HGX := Lib.hid hx
    clear hx
    by_cases hxy : x = y
    ·have e1 : ((x.toNat : Int) != (y.toNat : Int)) = false := by rw [hxy]; simp
     clear hxy
     go_wp2_with fail
     go_meet
     exact ⟨rfl, false, rfl, fun h => by cases h⟩
    ·have HXY := Lib.hid hxy
     have e1 : ((x.toNat : Int) != (y.toNat : Int)) = true := by
      have hh : ¬ (x.toNat : Int) = (y.toNat : Int) := fun h => HXY.out (UInt8.toNat_inj.1 (by omega))
      simpa using hh
     clear hxy
     go_wp2_with fail
     go_meet
     exact ⟨rfl, true, rfl, fun _ => ⟨k, x, rfl, HGX.out, HXY.out⟩⟩
   ·go_wp2_with fail
    go_meet
    exact ⟨rfl, false, rfl, fun h => by cases h⟩
  ·go_wp2_with fail
   go_meet
   exact ⟨rfl, false, rfl, fun h => by cases h⟩
 case rest =>
  obtain ⟨e1, tb, e2, hk0⟩ := hcut
  rw [e1, e2]
  clear e1 e2
  have HKT := Lib.hid hk0
  clear hk0
  go_upto_if 75 with fail
  go_cut [] from 76 to 96 (fun wx => Below wq.heap.size wq wx)
  case first =>
   cases tb
   ·go_wp2_with fail
    go_meet
    exact Below.refl _ _
   ·obtain ⟨k, x, rfl, hx, hxy⟩ := HKT.out rfl
    have hk : k < B.length := (List.getElem?_eq_some_iff.1 hx).1
    have HPN := Lib.hid (HPT.out k x y hx hxy)
    have HL1 : Hid (([] : List UInt8).length + B.length ≤ 1099511627776) := by show _ ≤ _; have := HLB.out; simp; omega
    clear hxy hx HKT
    go_upto_region 12 with (first | go_skip | (at_builtin; refine S2.wpList_app rfl (.tmp 76) (.tmp 77) 32 rfl rfl rfl (S2.row_empty _) (HBW5.out.keep (S := fun _ => False) (S2.Keeps.alloc _ _ _) (fun _ h => h)).src HL1.out ?_; intro v1 w1 g1 h1' h2 h3; have h1 : S2.Row w1 g1 v1 B := h1'; clear h1'; obtain ⟨g2, rfl⟩ := h1.some_of (S2.not_nil hk); have hg2 : wq.heap.size ≤ g2 := (by rcases h3 with h | h; cases h; exact Nat.le_refl _; exact Nat.le_trans (by simp) (h g2 rfl)); obtain ⟨hset, ⟨u, hu⟩, hfz⟩ := S2.row_set h1 k hk y; have hkk := S2.kGrown (S := fun x => wq.heap.size ≤ x) (S2.Keeps.alloc _ _ _) h2 (fun k e => by cases e; exact .inl (Nat.le_refl _)); obtain ⟨c1, rfl, hc1⟩ := row_form9 h1; have HC1 := Lib.hid hc1; have HSET := Lib.hid hset; have HK := Lib.hid hkk; clear h1 h2 h3 hset hkk hc1))
    have hW : S2.Keeps (fun x => wq.heap.size ≤ x) wq (w1.setCell ⟨g2, k, none⟩ (S2.bv y)) := S2.kSet HK.out (.inl hg2) _
    have HSB : Hid (S2.Bw (w1.setCell ⟨g2, k, none⟩ (S2.bv y)) g2 (.slice (some ⟨g2, 0, none⟩) B.length c1) (B.set k y)) := Lib.hid HSET.out.bw
    have HSD : Hid (Below wq.heap.size wq (w1.setCell ⟨g2, k, none⟩ (S2.bv y))) := Lib.hid (hW.below (Nat.le_refl _) (fun k hk h => by omega))
    unfold S2.bv at HSB HSD hW
    clear hW hfz hu HK HSET
    generalize w1.setCell ⟨g2, k, none⟩ (Value.int .u8 y.toNat) = ws at *
    go_wp2_with (first | go_skip | (go_at_call 37; refine (num13_any _ _).mono ?_; rintro e wn ⟨rfl, rfl⟩) | ((with_reducible refine atC w8 ?_); go_at_call 40; refine (HSZ.out w8 ly HX8.out).mono ?_; rintro e w9 ⟨rfl, h5⟩; have HD9 : Hid (Below wq.heap.size wq w9) := Lib.hid (blThen HD8.out h5); clear h5) | ((with_reducible refine atDst 92 ?_); refine loadM _ rfl (by rfl) _ rfl KX8.out rfl ?_) | ((with_reducible refine atW (w7.alloc (.cells #[.int .i64 0, .int .i64 0, .int .i64 0, .int .i64 0, .int .i64 0, .int .i64 0, .int .i64 0, .int .i64 0, .int .i64 0, .slice none 0 0, .bool false, .slice none 0 0, .bool false, .int .i64 0, .int .i64 0, .bool false, .int .i64 0, .int .i64 0, .slice none 0 0, .slice none 0 0, .slice none 0 0] 61)) ?_); refine storeM _ _ rfl rfl _ rfl rfl (new_blockC w7 _ _) rfl rfl (ms_one HX.out) ?_; intro w8 h1 h2; have hbx : Below w7.heap.size w7 w8 := below_grown9 (blAlloc (Below.refl _ _) _) h2 (Nat.le_refl _); have KX8 := Lib.hid h1; have HX8 := Lib.hid (HX.out.later hbx); have HD8 : Hid (Below wq.heap.size wq w8) := Lib.hid (blThen HD7.out hbx); clear h1 h2 hbx) | ((with_reducible refine atC ws ?_); go_at_call 35; refine (parse13_none g2 _ _ c1 (B.set k y) _ HSB.out (fun _ => HC1.out) (by have := HLB.out; omega) HPN.out).mono ?_; rintro e w7 ⟨ly, rfl, hx, h5⟩; have HX := Lib.hid hx; have HD7 : Hid (Below wq.heap.size wq w7) := Lib.hid (blThen HSD.out h5); clear h5 hx))
    go_meet
    exact HD9.out
  case rest =>
   rename World => wr
   have HBR : Hid (Below W.heap.size W wr) := Lib.hid (blThen HB5.out hcut)
   have HBW6 := Lib.hid (bw_keep13 HBW5.out hcut)
   clear hcut HBW5 HB5 HKT
   go_upto_region 15 with fail
   go_cut [104] from 97 to 104 (fun s104 wx => wx = wr ∧ ∃ tb : Bool, s104 = .bool tb ∧ (tb = true → ∃ k : Nat, cut = (k : Int) ∧ k < B.length))
   case first =>
    by_cases h0 : 0 ≤ cut
    ·by_cases h1 : cut < (B.length : Int)
     ·go_wp2_with fail
      go_meet
      exact ⟨rfl, true, rfl, fun _ => ⟨cut.toNat, by omega, by omega⟩⟩
     ·go_wp2_with fail
      go_meet
      exact ⟨rfl, false, rfl, fun h => by cases h⟩
    ·go_wp2_with fail
     go_meet
     exact ⟨rfl, false, rfl, fun h => by cases h⟩
   case rest =>
    obtain ⟨e1, tc, e2, hk0⟩ := hcut
    rw [e1, e2]
    clear e1 e2
    have HKT := Lib.hid hk0
    clear hk0
    go_upto_if 104 with fail
    go_cut [] from 105 to 114 (fun wx => Below wr.heap.size wr wx)
    case first =>
     cases tc
     ·go_wp2_with fail
      go_meet
      exact Below.refl _ _
     ·obtain ⟨k, rfl, hk⟩ := HKT.out rfl
      clear HKT
      have hkc : (k : Int) ≤ (c : Int) := by have := HCAP.out; omega
      have HBK := Lib.hid (bw_cut13 HBW6.out hk)
      have HPK := Lib.hid (HPC.out k hk)
      go_wp2_with (first | go_skip | (go_at_call 37; refine (num13_any _ _).mono ?_; rintro e wn ⟨rfl, rfl⟩) | ((with_reducible refine atW (w7.alloc (.cells #[.int .i64 0, .int .i64 0, .int .i64 0, .int .i64 0, .int .i64 0, .int .i64 0, .int .i64 0, .int .i64 0, .int .i64 0, .slice none 0 0, .bool false, .slice none 0 0, .bool false, .int .i64 0, .int .i64 0, .bool false, .int .i64 0, .int .i64 0, .slice none 0 0, .slice none 0 0, .slice none 0 0] 61)) ?_); refine storeM _ _ rfl rfl _ rfl rfl (new_blockC w7 _ _) rfl rfl (ms_one HX.out) ?_; intro w8 h1 h2; have hbx : Below w7.heap.size w7 w8 := below_grown9 (blAlloc (Below.refl _ _) _) h2 (Nat.le_refl _); have HD8 : Hid (Below wr.heap.size wr w8) := Lib.hid (blThen HD7.out hbx); clear h1 h2 hbx) | ((with_reducible refine atC wr ?_); go_at_call 35; refine (parse13_none g _ _ c (B.take k) _ HBK.out (fun _ => by have := HCAP.out; omega) (by have := HLB.out; omega) HPK.out).mono ?_; rintro e w7 ⟨ly, rfl, hx, h5⟩; have HX := Lib.hid hx; have HD7 : Hid (Below wr.heap.size wr w7) := Lib.hid h5; clear h5 hx))
      go_meet
      exact HD8.out
    case rest =>
     rename World => wt
     have HBT : Hid (Below W.heap.size W wt) := Lib.hid (blThen HBR.out hcut)
     have HBW7 := Lib.hid (bw_keep13 HBW6.out hcut)
     clear hcut HBW6 HBR HKT
     have HL1 : Hid (([] : List UInt8).length + B.length ≤ 1099511627776) := by show _ ≤ _; have := HLB.out; simp; omega
     have HL2 : Hid (B.length + [y].length ≤ 1099511627776) := by show _ ≤ _; have := HLB.out; simp; omega
     go_wp2_with (first | go_skip | ((with_reducible refine atC w8 ?_); go_at_call 32; refine (live13_any _).mono ?_; rintro e w9 ⟨rfl, h5⟩; have HD9 : Hid (Below wt.heap.size wt w9) := Lib.hid (blThen HD8.out h5); clear h5) | (go_at_call 37; refine (num13_any _ _).mono ?_; rintro e wn ⟨rfl, rfl⟩) | ((with_reducible refine atW (w7.alloc (.cells #[.int .i64 0, .int .i64 0, .int .i64 0, .int .i64 0, .int .i64 0, .int .i64 0, .int .i64 0, .int .i64 0, .int .i64 0, .slice none 0 0, .bool false, .slice none 0 0, .bool false, .int .i64 0, .int .i64 0, .bool false, .int .i64 0, .int .i64 0, .slice none 0 0, .slice none 0 0, .slice none 0 0] 61)) ?_); refine storeM _ _ rfl rfl _ rfl rfl (new_blockC w7 _ _) rfl rfl (ms_one HX.out) ?_; intro w8 h1 h2; have hbx : Below w7.heap.size w7 w8 := below_grown9 (blAlloc (Below.refl _ _) _) h2 (Nat.le_refl _); have HD8 : Hid (Below wt.heap.size wt w8) := Lib.hid (blThen HD7.out hbx); clear h1 h2 hbx) | ((with_reducible refine atC w2 ?_); go_at_call 35; refine (parse13_none g5 _ _ c4 (B ++ [y]) _ HR4.out (fun _ => HC4.out) (by have := HLB.out; omega) (HPM.out y)).mono ?_; rintro e w7 ⟨ly, rfl, hx, h5⟩; have HX := Lib.hid hx; have HD7 : Hid (Below wt.heap.size wt w7) := Lib.hid (blThen HX4.out h5); clear h5 hx) | (have _q := HR3.out; clear _q; at_builtin; refine S2.wpList_app rfl (.tmp 118) (.tmp 120) 32 rfl rfl rfl (HR3.out.keep (S2.Keeps.alloc (fun _ => False) _ _) (fun _ _ h => h)) (S2.one_src w1 y _ rfl _ rfl _ rfl) HL2.out ?_; intro v4 w2 g4 h1 h2 h3; obtain ⟨g5, rfl⟩ := h1.some_of (by simp); obtain ⟨c4, hv4, hc4⟩ := row_form9 h1; have el : (B ++ [y]).length = B.length + 1 := (by simp); rw [el] at hv4 hc4; subst hv4; have HR4 : Hid (S2.Bw w2 g5 (.slice (some ⟨g5, 0, none⟩) (B.length + 1) c4) (B ++ [y])) := Lib.hid h1.bs.bw; have HC4 := Lib.hid hc4; have HX4 : Hid (Below wt.heap.size wt w2) := Lib.hid (below_app9 (blAlloc HX3.out _) h2 HN3.out); clear h1 h2 h3 hc4 el) | (at_builtin; refine S2.wpList_app rfl (.tmp 116) (.tmp 117) 32 rfl rfl rfl (S2.row_empty _) (HBW7.out.keep (S := fun _ => False) (S2.Keeps.alloc _ _ _) (fun _ h => h)).src HL1.out ?_; intro v3 w1 g3 h1' h2 h3; have h1 : S2.Row w1 g3 v3 B := h1'; clear h1'; obtain ⟨p3, n3, q3, rfl⟩ := h1.form; have HR3 := Lib.hid h1; have HX3 : Hid (Below wt.heap.size wt w1) := Lib.hid (below_app9 (blAlloc (Below.refl _ _) _) h2 (fun k e => by cases e; exact Nat.le_refl _)); have HN3 : Hid (∀ k, g3 = some k → wt.heap.size ≤ k) := Lib.hid (new_app9 h3 (by simp) (fun k e => by cases e; exact Nat.le_refl _)); clear h1 h2 h3))
     go_ret
     exact ⟨rfl, blThen HBT.out HD9.out⟩

section
variable {H : Type} {enc : TypeId × Value → H} {P : Program} {w : World} {base : Nat} {spare : TypeId → Bool} {held : Bool}
theorem trodAll_four13 {t0 t1 t2 t3 : TypeId} {args : Array Value} {ds : List (DataW H)} {ps : List MemPlace} (h : DataW.TrodAll enc P w base spare held [t0, t1, t2, t3] args.toList ds ps) :
  ∃ v0 v1 v2 v3 d0 d1 d2 d3 p0 p1 p2 p3, args = #[v0, v1, v2, v3] ∧ ds = [d0, d1, d2, d3] ∧ ps = p0 ++ p1 ++ p2 ++ p3 ∧ DataW.Trod enc P w base spare held t0 v0 d0 p0 ∧ DataW.Trod enc P w base spare held t1 v1 d1 p1 ∧ DataW.Trod enc P w base spare held t2 v2 d2 p2 ∧ DataW.Trod enc P w base spare held t3 v3 d3 p3 := by
 obtain ⟨v0, vs0, d0, ds0, p0, q0, hargs, rfl, rfl, h0, r0⟩ := trodAll_cons h
 obtain ⟨v1, vs1, d1, ds1, p1, q1, rfl, rfl, rfl, h1, r1⟩ := trodAll_cons r0
 obtain ⟨v2, vs2, d2, ds2, p2, q2, rfl, rfl, rfl, h2, r2⟩ := trodAll_cons r1
 obtain ⟨v3, vs3, d3, ds3, p3, q3, rfl, rfl, rfl, h3, r3⟩ := trodAll_cons r2
 obtain ⟨rfl, rfl, rfl⟩ := trodAll_nil r3
 exact ⟨v0, v1, v2, v3, d0, d1, d2, d3, p0, p1, p2, p3, by cases args; simp_all, rfl, by simp, h0, h1, h2, h3⟩
end
theorem wireBack_lifted (os : Os) (started : os.Started) (H : Type) (enc : TypeId × Value → H) :
  ReturnsInHanded {} Tryz.checked os 7 .any (Rows.wireBackSpec.pre6 enc Tryz.prog Tryz.f7 Rows.wireBackRow.domain false) (Rows.wireBackSpec.post enc Tryz.prog Tryz.f7 false true false false) := by
 refine law_lift_sized (C := Tryz.checked) own0 started (by kernel_rfl) Tryz.func7 laid0 rfl (by kernel_rfl) (fun _ _ _ _ => trodAll_mk1 (shut_bool Tryz.underlying4 true)) (fun ds h => match ds, h with | [_, _, _, _], _ => ⟨rfl, rfl, rfl⟩)
  (ChangeSpec.witness6 (enc := enc) (C := Tryz.checked) false ⟨#[], #[.agg #[.int .i64 0, .int .i64 0, .int .i64 0, .int .i64 0, .int .i64 0, .int .i64 0, .int .i64 0, .int .i64 0, .int .i64 0, .slice none 0 0, .bool false, .slice none 0 0, .bool false, .int .i64 0, .int .i64 0, .bool false, .int .i64 0, .int .i64 0, .slice none 0 0, .slice none 0 0, .slice none 0 0], .int .i64 0, .int .u8 0, .int .i64 0], []⟩ 24 (by kernel_rfl) (by kernel_rfl) (by kernel_rfl) (by kernel_rfl)) ?_
 intro W base args ds before hval0 hA0 hlt hsz
 have hval : ∀ (j : Nat) t v, Tryz.f7.params[j]? = some t → args[j]? = some v → Value.okWide Tryz.prog W .any base t v := hval0
 have hA : DataW.TrodAll enc Tryz.prog W 0 (fun _ => true) true Tryz.f7.params.toList args.toList ds before := hA0
 rw [Tryz.params7] at hA hval
 obtain ⟨v0, v1, v2, v3, d0, d1, d2, d3, p0, p1, p2, p3, rfl, rfl, rfl, h0, h1, h2, h3⟩ := trodAll_four13 hA
 obtain ⟨m, lm, rfl, am, nm, km⟩ := open_msg13 (hval 0 61 v0 rfl rfl) h0
 obtain ⟨at_, rfl, rfl, rfl, wat_⟩ := open_int Tryz.underlying3 (hval 1 3 v1 rfl rfl) h1
 obtain ⟨b, rfl, rfl, rfl, wb⟩ := open_int Tryz.underlying5 (hval 2 5 v2 rfl rfl) h2
 obtain ⟨y, rfl⟩ := S2.byte_wf wb
 obtain ⟨cut, rfl, rfl, rfl, wcut⟩ := open_int Tryz.underlying3 (hval 3 3 v3 rfl rfl) h3
 exact wireBack_walk m lm at_ y cut W am (km.reach hsz (j := 0) rfl rfl) nm
theorem wireBack_f_inPlace : (Rows.wireBackRow.inPlace == Tryz.prog.inPlace 7) = true := by kernel_rfl
theorem wireBack_f_unfollowed : (Rows.wireBackRow.unfollowed == Tryz.prog.unfollowed 7) = true := by kernel_rfl
theorem wireBack_f_recurses : (Rows.wireBackRow.recurses == Tryz.prog.recurses 7) = true := by kernel_rfl
theorem wireBack_f_named : (Rows.wireBackRow.named == Tryz.prog.varsNamed 7) = true := by kernel_rfl
theorem wireBack_laid : laidOutB Tryz.prog = true := by kernel_rfl
theorem wireBack_rowed : mapsRowed Tryz.prog = true := by kernel_rfl
theorem wireBack_closed : joinedFacts Tryz.prog 7 Tryz.f7 Rows.wireBackSpec Rows.wireBackRow = true := by
 unfold joinedFacts
 rw [wireBack_laid, wireBack_rowed, wireBack_f_inPlace, wireBack_f_unfollowed, wireBack_f_recurses, wireBack_f_named]
 kernel_rfl
theorem wireBack_holds : Rows.WireBackSaid :=
 OpenClaim.holds_of_wide 7 Tryz.f7 rfl rfl rfl rfl rfl rfl rfl ⟨rfl, rfl, rfl, rfl, rfl⟩ rfl rfl rfl rfl rfl (by kernel_rfl) Tryz.func7 wireBack_closed
  (of_decide_eq_true (by kernel_rfl)) (by unfold Func.isWrapper; rw [if_neg (of_decide_eq_false (by kernel_rfl))]; exact ⟨rfl, rfl⟩)
  (fun os started H enc _ => wireBack_lifted os started H enc)
#print axioms wireBack_holds
end SI
end Go.Proofs.YtgipkikedacmdaaGreat
