/- Lists of what nodes tell: those that fit, their votes, whether one differs. Conditions: at most a thousand, that hang on nothing and hold no value. -/
import Derived.Lib.SliceRun
import Derived.WalkSpells
import Derived.Test.YtpdfcojcmhadnaaGreatMg48
import Derived.Test.YtpdfcojcmhadnaaGreatMg46
import Derived.Test.YtpdfcojcmhadnaaGreatMg12
import Derived.Test.YtpdfcojcmhadnaaGreatMg00
set_option maxRecDepth 100000
set_option maxHeartbeats 16000000
set_option linter.unusedVariables false
set_option linter.unusedSimpArgs false
namespace Go.Proofs.YtpdfcojcmhadnaaGreat
open S3 SC SN SP
namespace SB
open Go.ChangeShapes Go.WideShapes Go.ChangeAt Go.RowKit Go.Joins Go.Deep
theorem info_T : (Tryz.prog.info? 40).map (fun i => (i.zero, i.size, i.bytes)) = some (some (.agg #[.int .i64 0, .slice none 0 0, .int .i64 0, .int .i64 0, .bool false, .slice none 0 0, .bool false, .int .i64 0, .int .i64 0, .bool false, .int .i64 0, .int .i64 0, .slice none 0 0]), eT.K, 152) := by kernel_rfl
theorem all_atB {C : Array Value} : ∀ j v, C.toList[j]? = some v → C[0 + j]? = some v := by
  intro j v h
  rw [Nat.zero_add]
  simpa using h
theorem told_at {w : World} {a : Option Addr} {n c : Nat} {L : List Td} (h : SlG eT w (.slice a n c) L) {k : Nat} {q : Td} (hq : L[k]? = some q) : ∃ g o, a = some ⟨g, o, none⟩ ∧ g < w.heap.size ∧ w.rangeAt g (o + k * 13) (tV q).toList := by
  obtain ⟨g, o, ha, hg, hr⟩ := h.at hq
  exact ⟨g, o, ha, hg, fun j u hu => hr j u hu⟩
theorem range_inB {w x : World} {g o : Nat} {cs : List Value} (h : w.rangeAt g o cs) (hg : g < w.heap.size) (hb : Below w.heap.size w x) : x.rangeAt g o cs := fun j v hv => cell_in hb hg (h j v hv)
theorem load_told {w : World} {ops : Array Oper} {rest : List Oper} {o : Oper} {a : Act} {Q : Exit → Act → World → Prop} (X : Td) (x : Operand) (ho : o.op = .load 40 x) (hgd : o.guard = none) (g f : Nat) (hx : a.eval x = .pointer (some ⟨g, f, none⟩))
    (hc : w.rangeAt g f (tV X).toList) (h : wpList Tryz.prog ops Q rest (a.put o.dst (.agg (tV X))) w) : wpList Tryz.prog ops Q (o :: rest) a w :=
  wpList_load_mid hgd 40 x ho g f hx (tV X).toList _ hc Tryz.underlying40 rfl szT h
theorem store_told {w : World} {ops : Array Oper} {rest : List Oper} {o : Oper} {a : Act} {Q : Exit → Act → World → Prop} (x y : Operand) (ho : o.op = .store 40 x y) (hgd : o.guard = none) (g : Nat) (hx : a.eval x = .pointer (some ⟨g, 0, none⟩)) {cells : Array Value} (hy : a.eval y = .agg cells) {old : Array Value}
    (hg : w.heap[g]? = some (.cells old 40 (0, 0))) (hold : old.size = 13) (hcs : cells.size = 13) (h1 : cells.all (·.oneCell') = true)
    (h : ∀ w', w'.heap[g]? = some (.cells cells 40 (0, 0)) → w.grownBy w' (some g) → wpList Tryz.prog ops Q rest (a.put o.dst undef) w') : wpList Tryz.prog ops Q (o :: rest) a w := by
  refine wpList_store_row hgd 40 x y ho g cells hx hy 40 old hg (by rw [hcs]; exact szT) (by rw [hold, hcs]) h1 (h _ (setRow_heap w g old cells _ _ hg) ?_)
  exact ⟨rfl, rfl, rfl, by simp, fun j hj hne => setRow_other w g j cells (fun e => hne (by rw [e]))⟩
theorem one_GB (X : World) (t : TypeId) (x : Td) (n : Nat) (cs : Array Value) (hcs : cs = tV x) (h : X.heap.size = n) : SlG eT (X.alloc (.cells cs t)) (.slice (some ⟨n, 0, none⟩) 1 1) [x] := by
  subst h
  subst hcs
  refine ⟨_, 1, rfl, fun h => (by cases h), fun _ => ⟨X.heap.size, 0, rfl, by simp, fun i y hi j u hu => ?_⟩⟩
  have hb := new_blockB X (tV x) t
  cases i with
  | zero =>
    simp only [List.getElem?_cons_zero, Option.some.injEq] at hi
    subst hi
    simp only [World.cell?, hb]
    rw [Nat.zero_mul, Nat.add_zero, Nat.zero_add, ← Array.getElem?_toList]
    exact hu
  | succ i => simp at hi
def RetP (W : World) (l : List Td) (e : Ending) (w' : World) : Prop := ∃ v, e = .returned v ∧ OwnG eT 40 w' W.heap.size v l ∧ Below W.heap.size W w'
theorem filt_yes {p : Td → Bool} {l : List Td} {k : Nat} {x : Td} (h : l[k]? = some x) (hp : p x = true) : (l.take (k + 1)).filter p = (l.take k).filter p ++ [x] := by
  rw [List.take_add_one, h, List.filter_append]
  simp [hp]
theorem filt_no {p : Td → Bool} {l : List Td} {k : Nat} {x : Td} (h : l[k]? = some x) (hp : p x = false) : (l.take (k + 1)).filter p = (l.take k).filter p := by
  rw [List.take_add_one, h, List.filter_append]
  simp [hp]
theorem filt_len (p : Td → Bool) (l : List Td) (k : Nat) : ((l.take k).filter p).length ≤ l.length := Nat.le_trans (List.length_filter_le _ _) (by rw [List.length_take]; omega)
theorem pickKnows_any (va : Value) (l : List Td) (W : World) (hlen : l.length ≤ 1000) (hl : SlG eT W va l)
     : Calls Tryz.prog 28 #[va, .func (.func 29) #[] #[]] W (RetP W (l.filter (fun x => decide (0 < x.k)))) := by
  obtain ⟨a, c, rfl⟩ := hl.form
  have HL := Lib.hid hl
  clear hl
  go_enter Tryz.func28, Tryz.ntmps28
  go_wp2
  go_loopw [5, 10] (fun v i wr => ∃ k : Nat, k ≤ l.length ∧ i = .int .i64 k ∧ OwnG eT 40 wr W.heap.size v ((l.take k).filter (fun x => decide (0 < x.k))) ∧ Below W.heap.size W wr) (fun _ i _ => l.length - (RowKit.intOf i).toNat)
  case atStart => exact ⟨0, Nat.zero_le _, rfl, OwnG.nil _ _, Below.refl _ _⟩
  case round =>
    obtain ⟨k, hk, rfl, ho, hb⟩ := hrel
    have HB := Lib.hid hb
    have HO := Lib.hid ho
    obtain ⟨av, cv, rfl⟩ := ho.form
    clear ho hb
    have HLN := Lib.hid (filt_len (fun x => decide (0 < x.k)) l k)
    by_cases hlt : k < l.length
    · obtain ⟨x, hx⟩ := at_lt hlt
      have hk0 : (0 : Int) ≤ (k : Int) := by omega
      have hk1 : (k : Int) < (l.length : Int) := by omega
      have hdk : decide ((k : Int) < (l.length : Int)) = true := decide_eq_true hk1
      obtain ⟨g, o, rfl, hg, hr⟩ := told_at HL.out hx
      have HR := Lib.hid (range_inB hr hg HB.out)
      have HG := Lib.hid (Nat.lt_of_lt_of_le hg HB.out.size)
      clear hr hg
      have HFY := Lib.hid (fun h => filt_yes (p := (fun x => decide (0 < x.k))) hx h)
      have HFN := Lib.hid (fun h => filt_no (p := (fun x => decide (0 < x.k))) hx h)
      have HC : Hid (∀ Y : World, Below W.heap.size W Y → Calls Tryz.prog 29 #[.agg (tV x)] Y fun e w' => e = .returned (.bool ((fun x => decide (0 < x.k)) x)) ∧ Below Y.heap.size Y w') := Lib.hid (fun Y hY => knows_any x Y)
      clear hx
      generalize hM : (l.take k).filter (fun x => decide (0 < x.k)) = M at *
      clear hM
      generalize hmn : M.length = mn at HLN HO ⊢
      have HMN := Lib.hid hmn
      clear hmn
      have HP : Hid (∃ b, (fun x => decide (0 < x.k)) x = b) := Lib.hid ⟨_, rfl⟩
      obtain ⟨b, hp⟩ := HP.out
      rw [hp] at HC
      have HPX := Lib.hid hp
      obtain ⟨n, oa, ok, oc, ⟨v1, v2⟩, f⟩ := x
      simp only [tV] at HR HC
      cases b
      · go_wp2_with (first
          | go_skip
          | ((with_reducible refine atW wr ?_); refine wpList_load_mid rfl _ _ rfl g (o + k * 13) rfl _ _ HR.out Tryz.underlying40 rfl szT ?_)
          | (refine store_told _ _ rfl rfl _ rfl rfl (new_blockB wr _ _) rfl rfl (by simp [Value.oneCell']) ?_; intro w2 h1 h2; have K2 := Lib.hid h1; have HB2r : Hid (Below wr.heap.size wr w2) := Lib.hid (below_grownB (blAlloc (Below.refl _ _) _) h2 (Nat.le_refl _)); have HB2 : Hid (Below W.heap.size W w2) := Lib.hid (blThen HB.out HB2r.out); have HL2 : Hid (wr.heap.size < w2.heap.size) := Lib.hid (Nat.lt_of_lt_of_le (by simp) h2.size); clear h1 h2)
          | ((with_reducible refine atW w2 ?_); refine wpList_load_part _ _ rfl (by rfl) _ 0 rfl K2.out Tryz.underlying40 rfl #[.int .i64 n, .slice oa ok oc, .int .i64 v1, .int .i64 v2, .bool f, .slice none 0 0, .bool false, .int .i64 0, .int .i64 0, .bool false, .int .i64 0, .int .i64 0, .slice none 0 0] (by kernel_rfl) all_atB ?_)
          | (go_at_call 29; go_must (refine (HC.out w2 HB2.out).mono ?_; rintro e w3 ⟨rfl, h5⟩; have HB3 : Hid (Below W.heap.size W w3) := Lib.hid (blThen HB2.out h5); have HB3r : Hid (Below wr.heap.size wr w3) := Lib.hid (blThen HB2r.out h5); clear h5)))
        go_roundw
        case rel => exact ⟨k + 1, hlt, by go_num, by rw [HFN.out HPX.out]; exact HO.out.later HB3r.out, HB3.out⟩
        case measure => simp [RowKit.intOf]; omega
      · go_wp2_with (first
          | go_skip
          | ((with_reducible refine atW wr ?_); refine wpList_load_mid rfl _ _ rfl g (o + k * 13) rfl _ _ HR.out Tryz.underlying40 rfl szT ?_)
          | (refine store_told _ _ rfl rfl _ rfl rfl (new_blockB wr _ _) rfl rfl (by simp [Value.oneCell']) ?_; intro w2 h1 h2; have K2 := Lib.hid h1; have HB2r : Hid (Below wr.heap.size wr w2) := Lib.hid (below_grownB (blAlloc (Below.refl _ _) _) h2 (Nat.le_refl _)); have HB2 : Hid (Below W.heap.size W w2) := Lib.hid (blThen HB.out HB2r.out); have HL2 : Hid (wr.heap.size < w2.heap.size) := Lib.hid (Nat.lt_of_lt_of_le (by simp) h2.size); clear h1 h2)
          | ((with_reducible refine atW w2 ?_); refine wpList_load_part _ _ rfl (by rfl) _ 0 rfl K2.out Tryz.underlying40 rfl #[.int .i64 n, .slice oa ok oc, .int .i64 v1, .int .i64 v2, .bool f, .slice none 0 0, .bool false, .int .i64 0, .int .i64 0, .bool false, .int .i64 0, .int .i64 0, .slice none 0 0] (by kernel_rfl) all_atB ?_)
          | ((with_reducible refine atW w3 ?_); refine wpList_load_part _ _ rfl (by rfl) _ 0 rfl K3.out Tryz.underlying40 rfl #[.int .i64 n, .slice oa ok oc, .int .i64 v1, .int .i64 v2, .bool f, .slice none 0 0, .bool false, .int .i64 0, .int .i64 0, .bool false, .int .i64 0, .int .i64 0, .slice none 0 0] (by kernel_rfl) all_atB ?_)
          | (go_at_call 29; go_must (refine (HC.out w2 HB2.out).mono ?_; rintro e w3 ⟨rfl, h5⟩; have K3 := row_upB K2 HL2 h5; have HB3 : Hid (Below W.heap.size W w3) := Lib.hid (blThen HB2.out h5); have HB3r : Hid (Below wr.heap.size wr w3) := Lib.hid (blThen HB2r.out h5); clear h5))
          | (at_builtin; go_must (refine append_G 35 _ 152 info_T Tryz.underlying35 rfl (by decide) rfl _ _ rfl W.heap.size _ M rfl ((HO.out.later HB3r.out).later (blAlloc (Below.refl _ _) _)) _ [⟨n, oa, ok, oc, (v1, v2), f⟩] rfl (one_GB _ _ _ _ _ rfl rfl) (by have := HLN.out; have := HMN.out; simp only [List.length_cons, List.length_nil]; omega) (blAlloc HB3.out _).size ?_; intro v4 w4 h1 h2; have HO4 := Lib.hid h1; have HB4 : Hid (Below W.heap.size W w4) := grown_belowG (blAlloc HB3.out _) ((HO.out.later HB3r.out).later (blAlloc (Below.refl _ _) _)) (Nat.le_refl _) (blAlloc HB3.out _).size h2; clear h1 h2)))
        go_roundw
        case rel => exact ⟨k + 1, hlt, by go_num, by rw [HFY.out HPX.out]; exact HO4.out, HB4.out⟩
        case measure => simp [RowKit.intOf]; omega
    · have hge : ¬ (k : Int) < (l.length : Int) := by omega
      have hdk : decide ((k : Int) < (l.length : Int)) = false := decide_eq_false hge
      have HE := Lib.hid (show (l.take k).filter (fun x => decide (0 < x.k)) = l.filter (fun x => decide (0 < x.k)) by rw [List.take_of_length_le (by omega)])
      rw [HE.out] at HO
      go_wp2
      go_ret
      exact ⟨_, rfl, by rw [← HE.out] at HO ⊢; exact HO.out, HB.out⟩
theorem pickHolds_any (va : Value) (l : List Td) (W : World) (hlen : l.length ≤ 1000) (hl : SlG eT W va l)
     : Calls Tryz.prog 28 #[va, .func (.func 30) #[] #[]] W (RetP W (l.filter (fun (_ : Td) => false))) := by
  obtain ⟨a, c, rfl⟩ := hl.form
  have HL := Lib.hid hl
  clear hl
  go_enter Tryz.func28, Tryz.ntmps28
  go_wp2
  go_loopw [5, 10] (fun v i wr => ∃ k : Nat, k ≤ l.length ∧ i = .int .i64 k ∧ OwnG eT 40 wr W.heap.size v ((l.take k).filter (fun (_ : Td) => false)) ∧ Below W.heap.size W wr) (fun _ i _ => l.length - (RowKit.intOf i).toNat)
  case atStart => exact ⟨0, Nat.zero_le _, rfl, OwnG.nil _ _, Below.refl _ _⟩
  case round =>
    obtain ⟨k, hk, rfl, ho, hb⟩ := hrel
    have HB := Lib.hid hb
    have HO := Lib.hid ho
    obtain ⟨av, cv, rfl⟩ := ho.form
    clear ho hb
    have HLN := Lib.hid (filt_len (fun (_ : Td) => false) l k)
    by_cases hlt : k < l.length
    · obtain ⟨x, hx⟩ := at_lt hlt
      have hk0 : (0 : Int) ≤ (k : Int) := by omega
      have hk1 : (k : Int) < (l.length : Int) := by omega
      have hdk : decide ((k : Int) < (l.length : Int)) = true := decide_eq_true hk1
      obtain ⟨g, o, rfl, hg, hr⟩ := told_at HL.out hx
      have HR := Lib.hid (range_inB hr hg HB.out)
      have HG := Lib.hid (Nat.lt_of_lt_of_le hg HB.out.size)
      clear hr hg
      have HFY := Lib.hid (fun h => filt_yes (p := (fun (_ : Td) => false)) hx h)
      have HFN := Lib.hid (fun h => filt_no (p := (fun (_ : Td) => false)) hx h)
      have HC : Hid (∀ Y : World, Below W.heap.size W Y → Calls Tryz.prog 30 #[.agg (tV x)] Y fun e w' => e = .returned (.bool ((fun (_ : Td) => false) x)) ∧ Below Y.heap.size Y w') := Lib.hid (fun Y hY => holds_any x Y)
      clear hx
      generalize hM : (l.take k).filter (fun (_ : Td) => false) = M at *
      clear hM
      generalize hmn : M.length = mn at HLN HO ⊢
      have HMN := Lib.hid hmn
      clear hmn
      have HP : Hid (∃ b, (fun (_ : Td) => false) x = b) := Lib.hid ⟨_, rfl⟩
      obtain ⟨b, hp⟩ := HP.out
      rw [hp] at HC
      have HPX := Lib.hid hp
      obtain ⟨n, oa, ok, oc, ⟨v1, v2⟩, f⟩ := x
      simp only [tV] at HR HC
      cases b
      · go_wp2_with (first
          | go_skip
          | ((with_reducible refine atW wr ?_); refine wpList_load_mid rfl _ _ rfl g (o + k * 13) rfl _ _ HR.out Tryz.underlying40 rfl szT ?_)
          | (refine store_told _ _ rfl rfl _ rfl rfl (new_blockB wr _ _) rfl rfl (by simp [Value.oneCell']) ?_; intro w2 h1 h2; have K2 := Lib.hid h1; have HB2r : Hid (Below wr.heap.size wr w2) := Lib.hid (below_grownB (blAlloc (Below.refl _ _) _) h2 (Nat.le_refl _)); have HB2 : Hid (Below W.heap.size W w2) := Lib.hid (blThen HB.out HB2r.out); have HL2 : Hid (wr.heap.size < w2.heap.size) := Lib.hid (Nat.lt_of_lt_of_le (by simp) h2.size); clear h1 h2)
          | ((with_reducible refine atW w2 ?_); refine wpList_load_part _ _ rfl (by rfl) _ 0 rfl K2.out Tryz.underlying40 rfl #[.int .i64 n, .slice oa ok oc, .int .i64 v1, .int .i64 v2, .bool f, .slice none 0 0, .bool false, .int .i64 0, .int .i64 0, .bool false, .int .i64 0, .int .i64 0, .slice none 0 0] (by kernel_rfl) all_atB ?_)
          | (go_at_call 30; go_must (refine (HC.out w2 HB2.out).mono ?_; rintro e w3 ⟨rfl, h5⟩; have HB3 : Hid (Below W.heap.size W w3) := Lib.hid (blThen HB2.out h5); have HB3r : Hid (Below wr.heap.size wr w3) := Lib.hid (blThen HB2r.out h5); clear h5)))
        go_roundw
        case rel => exact ⟨k + 1, hlt, by go_num, by rw [HFN.out HPX.out]; exact HO.out.later HB3r.out, HB3.out⟩
        case measure => simp [RowKit.intOf]; omega
      · exact absurd hp (by simp)
    · have hge : ¬ (k : Int) < (l.length : Int) := by omega
      have hdk : decide ((k : Int) < (l.length : Int)) = false := decide_eq_false hge
      have HE := Lib.hid (show (l.take k).filter (fun (_ : Td) => false) = l.filter (fun (_ : Td) => false) by rw [List.take_of_length_le (by omega)])
      rw [HE.out] at HO
      go_wp2
      go_ret
      exact ⟨_, rfl, by rw [← HE.out] at HO ⊢; exact HO.out, HB.out⟩
theorem pickKeeps_any (sa : Option Addr) (sc : Nat) (S : List S4.Sh) (p : Int) (bt bp : Nat) (va : Value) (l : List Td) (W : World) (hlen : l.length ≤ 1000) (hl : SlG eT W va l)
    (hS : S.length ≤ 1000000) (hn5 : ∀ s ∈ S, s.nodes.length ≤ 1000000) (ha : S4.Hl W sa S) (hbt : bt < W.heap.size) (hbp : bp < W.heap.size) (ht : W.cell? ⟨bt, 0, none⟩ = some (.slice sa S.length sc)) (hp : W.cell? ⟨bp, 0, none⟩ = some (.int .i64 p)) : Calls Tryz.prog 28 #[va, .func (.func 50) #[] #[.pointer (some ⟨bt, 0, none⟩), .pointer (some ⟨bp, 0, none⟩)]] W (RetP W (l.filter (keepB S p))) := by
  obtain ⟨a, c, rfl⟩ := hl.form
  have HL := Lib.hid hl
  clear hl
  go_enter Tryz.func28, Tryz.ntmps28
  go_wp2
  go_loopw [5, 10] (fun v i wr => ∃ k : Nat, k ≤ l.length ∧ i = .int .i64 k ∧ OwnG eT 40 wr W.heap.size v ((l.take k).filter (keepB S p)) ∧ Below W.heap.size W wr) (fun _ i _ => l.length - (RowKit.intOf i).toNat)
  case atStart => exact ⟨0, Nat.zero_le _, rfl, OwnG.nil _ _, Below.refl _ _⟩
  case round =>
    obtain ⟨k, hk, rfl, ho, hb⟩ := hrel
    have HB := Lib.hid hb
    have HO := Lib.hid ho
    obtain ⟨av, cv, rfl⟩ := ho.form
    clear ho hb
    have HLN := Lib.hid (filt_len (keepB S p) l k)
    by_cases hlt : k < l.length
    · obtain ⟨x, hx⟩ := at_lt hlt
      have hk0 : (0 : Int) ≤ (k : Int) := by omega
      have hk1 : (k : Int) < (l.length : Int) := by omega
      have hdk : decide ((k : Int) < (l.length : Int)) = true := decide_eq_true hk1
      obtain ⟨g, o, rfl, hg, hr⟩ := told_at HL.out hx
      have HR := Lib.hid (range_inB hr hg HB.out)
      have HG := Lib.hid (Nat.lt_of_lt_of_le hg HB.out.size)
      clear hr hg
      have HFY := Lib.hid (fun h => filt_yes (p := (keepB S p)) hx h)
      have HFN := Lib.hid (fun h => filt_no (p := (keepB S p)) hx h)
      have HC : Hid (∀ Y : World, Below W.heap.size W Y → Calls Tryz.prog 50 #[.agg (tV x), .pointer (some ⟨bt, 0, none⟩), .pointer (some ⟨bp, 0, none⟩)] Y fun e w' => e = .returned (.bool ((keepB S p) x)) ∧ Below Y.heap.size Y w') := Lib.hid (fun Y hY => keeps1_any x sa sc S p bt bp Y hS hn5 (ha.later hY) (Nat.lt_of_lt_of_le hbt hY.size) (Nat.lt_of_lt_of_le hbp hY.size) (cell_in hY hbt ht) (cell_in hY hbp hp))
      clear hx
      generalize hM : (l.take k).filter (keepB S p) = M at *
      clear hM
      generalize hmn : M.length = mn at HLN HO ⊢
      have HMN := Lib.hid hmn
      clear hmn
      have HP : Hid (∃ b, (keepB S p) x = b) := Lib.hid ⟨_, rfl⟩
      obtain ⟨b, hp⟩ := HP.out
      rw [hp] at HC
      have HPX := Lib.hid hp
      obtain ⟨n, oa, ok, oc, ⟨v1, v2⟩, f⟩ := x
      simp only [tV] at HR HC
      cases b
      · go_wp2_with (first
          | go_skip
          | ((with_reducible refine atW wr ?_); refine wpList_load_mid rfl _ _ rfl g (o + k * 13) rfl _ _ HR.out Tryz.underlying40 rfl szT ?_)
          | (refine store_told _ _ rfl rfl _ rfl rfl (new_blockB wr _ _) rfl rfl (by simp [Value.oneCell']) ?_; intro w2 h1 h2; have K2 := Lib.hid h1; have HB2r : Hid (Below wr.heap.size wr w2) := Lib.hid (below_grownB (blAlloc (Below.refl _ _) _) h2 (Nat.le_refl _)); have HB2 : Hid (Below W.heap.size W w2) := Lib.hid (blThen HB.out HB2r.out); have HL2 : Hid (wr.heap.size < w2.heap.size) := Lib.hid (Nat.lt_of_lt_of_le (by simp) h2.size); clear h1 h2)
          | ((with_reducible refine atW w2 ?_); refine wpList_load_part _ _ rfl (by rfl) _ 0 rfl K2.out Tryz.underlying40 rfl #[.int .i64 n, .slice oa ok oc, .int .i64 v1, .int .i64 v2, .bool f, .slice none 0 0, .bool false, .int .i64 0, .int .i64 0, .bool false, .int .i64 0, .int .i64 0, .slice none 0 0] (by kernel_rfl) all_atB ?_)
          | (go_at_call 50; go_must (refine (HC.out w2 HB2.out).mono ?_; rintro e w3 ⟨rfl, h5⟩; have HB3 : Hid (Below W.heap.size W w3) := Lib.hid (blThen HB2.out h5); have HB3r : Hid (Below wr.heap.size wr w3) := Lib.hid (blThen HB2r.out h5); clear h5)))
        go_roundw
        case rel => exact ⟨k + 1, hlt, by go_num, by rw [HFN.out HPX.out]; exact HO.out.later HB3r.out, HB3.out⟩
        case measure => simp [RowKit.intOf]; omega
      · go_wp2_with (first
          | go_skip
          | ((with_reducible refine atW wr ?_); refine wpList_load_mid rfl _ _ rfl g (o + k * 13) rfl _ _ HR.out Tryz.underlying40 rfl szT ?_)
          | (refine store_told _ _ rfl rfl _ rfl rfl (new_blockB wr _ _) rfl rfl (by simp [Value.oneCell']) ?_; intro w2 h1 h2; have K2 := Lib.hid h1; have HB2r : Hid (Below wr.heap.size wr w2) := Lib.hid (below_grownB (blAlloc (Below.refl _ _) _) h2 (Nat.le_refl _)); have HB2 : Hid (Below W.heap.size W w2) := Lib.hid (blThen HB.out HB2r.out); have HL2 : Hid (wr.heap.size < w2.heap.size) := Lib.hid (Nat.lt_of_lt_of_le (by simp) h2.size); clear h1 h2)
          | ((with_reducible refine atW w2 ?_); refine wpList_load_part _ _ rfl (by rfl) _ 0 rfl K2.out Tryz.underlying40 rfl #[.int .i64 n, .slice oa ok oc, .int .i64 v1, .int .i64 v2, .bool f, .slice none 0 0, .bool false, .int .i64 0, .int .i64 0, .bool false, .int .i64 0, .int .i64 0, .slice none 0 0] (by kernel_rfl) all_atB ?_)
          | ((with_reducible refine atW w3 ?_); refine wpList_load_part _ _ rfl (by rfl) _ 0 rfl K3.out Tryz.underlying40 rfl #[.int .i64 n, .slice oa ok oc, .int .i64 v1, .int .i64 v2, .bool f, .slice none 0 0, .bool false, .int .i64 0, .int .i64 0, .bool false, .int .i64 0, .int .i64 0, .slice none 0 0] (by kernel_rfl) all_atB ?_)
          | (go_at_call 50; go_must (refine (HC.out w2 HB2.out).mono ?_; rintro e w3 ⟨rfl, h5⟩; have K3 := row_upB K2 HL2 h5; have HB3 : Hid (Below W.heap.size W w3) := Lib.hid (blThen HB2.out h5); have HB3r : Hid (Below wr.heap.size wr w3) := Lib.hid (blThen HB2r.out h5); clear h5))
          | (at_builtin; go_must (refine append_G 35 _ 152 info_T Tryz.underlying35 rfl (by decide) rfl _ _ rfl W.heap.size _ M rfl ((HO.out.later HB3r.out).later (blAlloc (Below.refl _ _) _)) _ [⟨n, oa, ok, oc, (v1, v2), f⟩] rfl (one_GB _ _ _ _ _ rfl rfl) (by have := HLN.out; have := HMN.out; simp only [List.length_cons, List.length_nil]; omega) (blAlloc HB3.out _).size ?_; intro v4 w4 h1 h2; have HO4 := Lib.hid h1; have HB4 : Hid (Below W.heap.size W w4) := grown_belowG (blAlloc HB3.out _) ((HO.out.later HB3r.out).later (blAlloc (Below.refl _ _) _)) (Nat.le_refl _) (blAlloc HB3.out _).size h2; clear h1 h2)))
        go_roundw
        case rel => exact ⟨k + 1, hlt, by go_num, by rw [HFY.out HPX.out]; exact HO4.out, HB4.out⟩
        case measure => simp [RowKit.intOf]; omega
    · have hge : ¬ (k : Int) < (l.length : Int) := by omega
      have hdk : decide ((k : Int) < (l.length : Int)) = false := decide_eq_false hge
      have HE := Lib.hid (show (l.take k).filter (keepB S p) = l.filter (keepB S p) by rw [List.take_of_length_le (by omega)])
      rw [HE.out] at HO
      go_wp2
      go_ret
      exact ⟨_, rfl, by rw [← HE.out] at HO ⊢; exact HO.out, HB.out⟩
def eV : Enc (Int × Int) := ⟨fun s => [.int .i64 s.1, .int .i64 s.2], 2, fun _ => rfl, fun x => by simp [Value.oneCell'], by decide⟩
theorem info_V : (Tryz.prog.info? 24).map (fun i => (i.zero, i.size, i.bytes)) = some (some (.agg #[.int .i64 0, .int .i64 0]), eV.K, 16) := by kernel_rfl
theorem one_VB (X : World) (t : TypeId) (x : Int × Int) (n : Nat) (cs : Array Value) (hcs : cs = #[.int .i64 x.1, .int .i64 x.2]) (h : X.heap.size = n) : SlG eV (X.alloc (.cells cs t)) (.slice (some ⟨n, 0, none⟩) 1 1) [x] := by
  subst h
  subst hcs
  refine ⟨_, 1, rfl, fun h => (by cases h), fun _ => ⟨X.heap.size, 0, rfl, by simp, fun i y hi j u hu => ?_⟩⟩
  have hb := new_blockB X #[.int .i64 x.1, .int .i64 x.2] t
  cases i with
  | zero =>
    simp only [List.getElem?_cons_zero, Option.some.injEq] at hi
    subst hi
    simp only [World.cell?, hb]
    rw [Nat.zero_mul, Nat.add_zero, Nat.zero_add, ← Array.getElem?_toList]
    exact hu
  | succ i => simp at hi
theorem slV {w : World} {a : Option Addr} {n c : Nat} {l : List (Int × Int)} (h : SlG eV w (.slice a n c) l) : S1.SL w a l := by
  intro hne
  obtain ⟨a', c', hv, _, hr⟩ := h
  obtain ⟨g, o, ha, hg, hrow⟩ := hr hne
  simp only [Value.slice.injEq] at hv
  refine ⟨g, o, hv.1.trans ha, hg, fun i x y hi => ?_⟩
  exact ⟨hrow i (x, y) hi 0 _ rfl, hrow i (x, y) hi 1 _ rfl⟩
theorem map_take {l : List Td} {k : Nat} {x : Td} (h : l[k]? = some x) : (l.take (k + 1)).map Td.v = (l.take k).map Td.v ++ [x.v] := by
  rw [List.take_add_one, h, List.map_append]
  rfl
theorem map_len (l : List Td) (k : Nat) : ((l.take k).map Td.v).length ≤ l.length := by rw [List.length_map, List.length_take]; omega
def RetV (W : World) (l : List (Int × Int)) (e : Ending) (w' : World) : Prop := ∃ v, e = .returned v ∧ OwnG eV 24 w' W.heap.size v l ∧ Below W.heap.size W w'
theorem each_any (va : Value) (l : List Td) (W : World) (hlen : l.length ≤ 1000) (hl : SlG eT W va l) : Calls Tryz.prog 41 #[va, .func (.func 42) #[] #[]] W (RetV W (l.map Td.v)) := by
  obtain ⟨a, c, rfl⟩ := hl.form
  have HL := Lib.hid hl
  clear hl
  go_enter Tryz.func41, Tryz.ntmps41
  go_wp2
  go_loopw [5, 10] (fun v i wr => ∃ k : Nat, k ≤ l.length ∧ i = .int .i64 k ∧ OwnG eV 24 wr W.heap.size v ((l.take k).map Td.v) ∧ Below W.heap.size W wr) (fun _ i _ => l.length - (RowKit.intOf i).toNat)
  case atStart => exact ⟨0, Nat.zero_le _, rfl, OwnG.nil _ _, Below.refl _ _⟩
  case round =>
    obtain ⟨k, hk, rfl, ho, hb⟩ := hrel
    have HB := Lib.hid hb
    have HO := Lib.hid ho
    obtain ⟨av, cv, rfl⟩ := ho.form
    clear ho hb
    have HLN := Lib.hid (map_len l k)
    by_cases hlt : k < l.length
    · obtain ⟨x, hx⟩ := at_lt hlt
      have hk0 : (0 : Int) ≤ (k : Int) := by omega
      have hk1 : (k : Int) < (l.length : Int) := by omega
      have hdk : decide ((k : Int) < (l.length : Int)) = true := decide_eq_true hk1
      obtain ⟨g, o, rfl, hg, hr⟩ := told_at HL.out hx
      have HR := Lib.hid (range_inB hr hg HB.out)
      have HG := Lib.hid (Nat.lt_of_lt_of_le hg HB.out.size)
      clear hr hg
      have HFY := Lib.hid (map_take hx)
      have HC : Hid (∀ Y : World, Calls Tryz.prog 42 #[.agg (tV x)] Y fun e w' => e = .returned (.agg #[.int .i64 x.v.1, .int .i64 x.v.2]) ∧ Below Y.heap.size Y w') := Lib.hid (fun Y => vote_any x Y)
      clear hx
      generalize hM : (l.take k).map Td.v = M at *
      clear hM
      generalize hmn : M.length = mn at HLN HO ⊢
      have HMN := Lib.hid hmn
      clear hmn
      obtain ⟨n, oa, ok, oc, ⟨v1, v2⟩, f⟩ := x
      simp only [tV] at HR HC
      go_wp2_with (first
          | go_skip
          | ((with_reducible refine atW wr ?_); refine wpList_load_mid rfl _ _ rfl g (o + k * 13) rfl _ _ HR.out Tryz.underlying40 rfl szT ?_)
          | (refine store_told _ _ rfl rfl _ rfl rfl (new_blockB wr _ _) rfl rfl (by simp [Value.oneCell']) ?_; intro w2 h1 h2; have K2 := Lib.hid h1; have HB2r : Hid (Below wr.heap.size wr w2) := Lib.hid (below_grownB (blAlloc (Below.refl _ _) _) h2 (Nat.le_refl _)); have HB2 : Hid (Below W.heap.size W w2) := Lib.hid (blThen HB.out HB2r.out); have HL2 : Hid (wr.heap.size < w2.heap.size) := Lib.hid (Nat.lt_of_lt_of_le (by simp) h2.size); clear h1 h2)
          | ((with_reducible refine atW w2 ?_); refine wpList_load_part _ _ rfl (by rfl) _ 0 rfl K2.out Tryz.underlying40 rfl #[.int .i64 n, .slice oa ok oc, .int .i64 v1, .int .i64 v2, .bool f, .slice none 0 0, .bool false, .int .i64 0, .int .i64 0, .bool false, .int .i64 0, .int .i64 0, .slice none 0 0] (by kernel_rfl) all_atB ?_)
          | (go_at_call 42; go_must (refine (HC.out w2).mono ?_; rintro e w3 ⟨rfl, h5⟩; have HB3 : Hid (Below W.heap.size W w3) := Lib.hid (blThen HB2.out h5); have HB3r : Hid (Below wr.heap.size wr w3) := Lib.hid (blThen HB2r.out h5); clear h5))
          | (at_builtin; go_must (refine append_G 49 _ 16 info_V Tryz.underlying49 rfl (by decide) rfl _ _ rfl W.heap.size _ M rfl ((HO.out.later HB3r.out).later (blAlloc (Below.refl _ _) _)) _ [(v1, v2)] rfl (one_VB _ _ _ _ _ rfl rfl) (by have := HLN.out; have := HMN.out; simp only [List.length_cons, List.length_nil]; omega) (blAlloc HB3.out _).size ?_; intro v4 w4 h1 h2; have HO4 := Lib.hid h1; have HB4 : Hid (Below W.heap.size W w4) := grown_belowG (blAlloc HB3.out _) ((HO.out.later HB3r.out).later (blAlloc (Below.refl _ _) _)) (Nat.le_refl _) (blAlloc HB3.out _).size h2; clear h1 h2)))
      go_roundw
      case rel => exact ⟨k + 1, hlt, by go_num, by rw [HFY.out]; exact HO4.out, HB4.out⟩
      case measure => simp [RowKit.intOf]; omega
    · have hge : ¬ (k : Int) < (l.length : Int) := by omega
      have hdk : decide ((k : Int) < (l.length : Int)) = false := decide_eq_false hge
      have HE := Lib.hid (show (l.take k).map Td.v = l.map Td.v by rw [List.take_of_length_le (by omega)])
      clear HLN
      generalize (l.take k).map Td.v = M at *
      generalize M.length = mn at HO ⊢
      go_wp2
      go_ret
      exact ⟨_, rfl, by rw [← HE.out]; exact HO.out, HB.out⟩
theorem get0_any (p : Int) (w : World) : Calls Tryz.prog 52 #[.slice none 0 0, .int .i64 p] w fun e w' => e = .returned (.slice none 0 0) ∧ Below w.heap.size w w' := by
  go_enter Tryz.func52, Tryz.ntmps52
  go_wp2
  go_loopw [9] (fun i wr => i = .int .i64 0 ∧ Below w.heap.size w wr) (fun i _ => 0)
  case atStart => exact ⟨rfl, Below.refl _ _⟩
  case round =>
    obtain ⟨rfl, hb⟩ := hrel
    go_wp2
    go_ret
    exact ⟨rfl, hb⟩
def differsB (i1 i2 : Int) (x : Td) : Bool := !firstB x (i1, i2)
theorem differs_any (x : Td) (i1 i2 p : Int) (sa : Option Addr) (sc bi bp bs : Nat) (w : World) (hbi : bi < w.heap.size) (hbp : bp < w.heap.size) (hbs : bs < w.heap.size) (h1 : w.cell? ⟨bi, 0, none⟩ = some (.int .i64 i1)) (h2 : w.cell? ⟨bi, 1, none⟩ = some (.int .i64 i2)) (h3 : w.cell? ⟨bp, 0, none⟩ = some (.int .i64 p)) (h4 : w.cell? ⟨bs, 0, none⟩ = some (.slice sa 0 sc)) :
    Calls Tryz.prog 53 #[.agg (tV x), .pointer (some ⟨bi, 0, none⟩), .pointer (some ⟨bp, 0, none⟩), .pointer (some ⟨bs, 0, none⟩)] w fun e w' => e = .returned (.bool (differsB i1 i2 x)) ∧ Below w.heap.size w w' := by
  obtain ⟨w0, he0, HS0, K0, HB0⟩ := box1B w (.cells (tV x) 40)
  have c1 := cell_in HB0.out hbi h1
  have c2 := cell_in HB0.out hbi h2
  have c3 := cell_in HB0.out hbp h3
  have c4 := cell_in HB0.out hbs h4
  have l1 := Nat.lt_of_lt_of_le hbi HB0.out.size
  have l2 := Nat.lt_of_lt_of_le hbp HB0.out.size
  have l3 := Nat.lt_of_lt_of_le hbs HB0.out.size
  have l4 : w.heap.size < w0.heap.size := by have := HS0.out; omega
  have HF : Hid (∀ Y : World, Calls Tryz.prog 54 #[.agg (tV x), .agg #[.int .i64 i1, .int .i64 i2]] Y fun e w' => e = .returned (.bool (firstB x (i1, i2))) ∧ Below Y.heap.size Y w') := Lib.hid (fun Y => isFirst_any x i1 i2 Y)
  have HQ : Hid (∀ Y : World, Calls Tryz.prog 55 #[.slice none 0 0, .slice sa 0 sc] Y fun e w' => e = .returned (.bool true) ∧ Below Y.heap.size Y w') := Lib.hid (fun Y => SD.equalS_any none sa 0 sc [] [] Y (by decide) (fun h => absurd rfl h) (fun h => absurd rfl h))
  have HG : Hid (∀ Y : World, Calls Tryz.prog 52 #[.slice none 0 0, .int .i64 p] Y fun e w' => e = .returned (.slice none 0 0) ∧ Below Y.heap.size Y w') := Lib.hid (fun Y => get0_any p Y)
  have HK : Hid (differsB i1 i2 x = !firstB x (i1, i2)) := rfl
  rw [HK.out]
  clear h1 h2 h3 h4 HK
  generalize firstB x (i1, i2) = b at *
  obtain ⟨n, oa, ok, oc, ⟨v1, v2⟩, f⟩ := x
  simp only [tV] at *
  have k0 := K0.out
  have d0 : w0.cell? ⟨w.heap.size, 0, none⟩ = some (.int .i64 n) := by simp [World.cell?, k0]
  have d1 : w0.cell? ⟨w.heap.size, 1, none⟩ = some (.slice oa ok oc) := by simp [World.cell?, k0]
  have d2 : w0.cell? ⟨w.heap.size, 2, none⟩ = some (.int .i64 v1) := by simp [World.cell?, k0]
  have d3 : w0.cell? ⟨w.heap.size, 3, none⟩ = some (.int .i64 v2) := by simp [World.cell?, k0]
  have d4 : w0.cell? ⟨w.heap.size, 4, none⟩ = some (.bool f) := by simp [World.cell?, k0]
  have d5 : w0.cell? ⟨w.heap.size, 5, none⟩ = some (.slice none 0 0) := by simp [World.cell?, k0]
  have d6 : w0.cell? ⟨w.heap.size, 6, none⟩ = some (.bool false) := by simp [World.cell?, k0]
  have d7 : w0.cell? ⟨w.heap.size, 7, none⟩ = some (.int .i64 0) := by simp [World.cell?, k0]
  have d8 : w0.cell? ⟨w.heap.size, 8, none⟩ = some (.int .i64 0) := by simp [World.cell?, k0]
  have d9 : w0.cell? ⟨w.heap.size, 9, none⟩ = some (.bool false) := by simp [World.cell?, k0]
  have d10 : w0.cell? ⟨w.heap.size, 10, none⟩ = some (.int .i64 0) := by simp [World.cell?, k0]
  have d11 : w0.cell? ⟨w.heap.size, 11, none⟩ = some (.int .i64 0) := by simp [World.cell?, k0]
  have d12 : w0.cell? ⟨w.heap.size, 12, none⟩ = some (.slice none 0 0) := by simp [World.cell?, k0]
  clear k0
  go_enter Tryz.func53, Tryz.ntmps53
  go_upto_region 1 with fail
  rw [← he0]
  clear he0
  cases b
  all_goals
    try simp only [Bool.not_true, Bool.not_false]
    refine S1.region_aft (by kernel_rfl) (by kernel_rfl) ?_
    repeat (go_big_quiet_step (first | (go_at_call 54; exact S1.aft_of (HF.out _)) | (go_at_call 52; exact S1.aft_of (HG.out _)) | (go_at_call 55; exact S1.aft_of (HQ.out _))))
    refine wpQuiet_nil ?_
    rintro w2 ⟨z, rfl⟩
    have HB2 : Hid (Below w.heap.size w z.x) := Lib.hid (blThen HB0.out z.h)
    generalize z.x = w3 at *
    go_wp2
    go_ret
    exact ⟨rfl, HB2.out⟩
theorem indexD_any (i1 i2 p : Int) (sa : Option Addr) (sc bi bp bs : Nat) (va : Value) (l : List Td) (W : World) (hlen : l.length ≤ 1000) (hl : SlG eT W va l) (hbi : bi < W.heap.size) (hbp : bp < W.heap.size) (hbs : bs < W.heap.size) (h1 : W.cell? ⟨bi, 0, none⟩ = some (.int .i64 i1)) (h2 : W.cell? ⟨bi, 1, none⟩ = some (.int .i64 i2)) (h3 : W.cell? ⟨bp, 0, none⟩ = some (.int .i64 p)) (h4 : W.cell? ⟨bs, 0, none⟩ = some (.slice sa 0 sc)) :
    Calls Tryz.prog 75 #[va, .func (.func 53) #[] #[.pointer (some ⟨bi, 0, none⟩), .pointer (some ⟨bp, 0, none⟩), .pointer (some ⟨bs, 0, none⟩)]] W fun e w' => e = .returned (.int .i64 (SD.idxQ (differsB i1 i2) l)) ∧ Below W.heap.size W w' := by
  obtain ⟨a, c, rfl⟩ := hl.form
  have HL := Lib.hid hl
  have HD : Hid (∀ (x : Td) (Y : World), Below W.heap.size W Y → Calls Tryz.prog 53 #[.agg (tV x), .pointer (some ⟨bi, 0, none⟩), .pointer (some ⟨bp, 0, none⟩), .pointer (some ⟨bs, 0, none⟩)] Y fun e w' => e = .returned (.bool (differsB i1 i2 x)) ∧ Below Y.heap.size Y w') := Lib.hid (fun x Y hY => differs_any x i1 i2 p sa sc bi bp bs Y (Nat.lt_of_lt_of_le hbi hY.size) (Nat.lt_of_lt_of_le hbp hY.size) (Nat.lt_of_lt_of_le hbs hY.size) (cell_in hY hbi h1) (cell_in hY hbi h2) (cell_in hY hbp h3) (cell_in hY hbs h4))
  clear hl h1 h2 h3 h4
  go_enter Tryz.func75, Tryz.ntmps75
  go_wp2
  go_loopw [8] (fun i wr => ∃ k : Nat, k ≤ l.length ∧ i = .int .i64 k ∧ (l.take k).any (differsB i1 i2) = false ∧ Below W.heap.size W wr) (fun i _ => l.length - (RowKit.intOf i).toNat)
  case atStart => exact ⟨0, Nat.zero_le _, rfl, rfl, Below.refl _ _⟩
  case round =>
    obtain ⟨k, hk, rfl, hn, hb⟩ := hrel
    by_cases hlt : k < l.length
    · obtain ⟨x, hx⟩ := at_lt hlt
      have hk0 : (0 : Int) ≤ (k : Int) := by omega
      have hk1 : (k : Int) < (l.length : Int) := by omega
      have hdk : decide ((k : Int) < (l.length : Int)) = true := decide_eq_true hk1
      obtain ⟨g, o, rfl, hg, hr⟩ := told_at HL.out hx
      have HR := Lib.hid (range_inB hr hg hb)
      have HB := Lib.hid hb
      have HN := Lib.hid hn
      have HX := Lib.hid hx
      have HC : Hid (∀ (Y : World), Below W.heap.size W Y → Calls Tryz.prog 53 #[.agg (tV x), .pointer (some ⟨bi, 0, none⟩), .pointer (some ⟨bp, 0, none⟩), .pointer (some ⟨bs, 0, none⟩)] Y fun e w' => e = .returned (.bool (differsB i1 i2 x)) ∧ Below Y.heap.size Y w') := Lib.hid (HD.out x)
      clear hr hg hb hn hx HD
      have HP : Hid (∃ b, differsB i1 i2 x = b) := Lib.hid ⟨_, rfl⟩
      obtain ⟨b, hp⟩ := HP.out
      rw [hp] at HC
      have HPX := Lib.hid hp
      have HM := Lib.hid (fun h => SD.any_take_t (p := differsB i1 i2) HX.out HN.out h)
      have HE := Lib.hid (fun h => SD.idxQ_hit (p := differsB i1 i2) HX.out h HN.out)
      clear hp HX HN
      cases b
      · go_wp2_with (first
          | go_skip
          | ((with_reducible refine atW wr ?_); refine load_told x _ rfl rfl g (o + k * 13) rfl HR.out ?_)
          | (go_at_call 53; go_must (refine (HC.out wr HB.out).mono ?_; rintro e w3 ⟨rfl, h5⟩; have HB3 : Hid (Below W.heap.size W w3) := Lib.hid (blThen HB.out h5); clear h5)))
        go_roundw
        case rel => exact ⟨k + 1, hlt, by go_num, HM.out HPX.out, HB3.out⟩
        case measure => simp [RowKit.intOf]; omega
      · go_wp2_with (first
          | go_skip
          | ((with_reducible refine atW wr ?_); refine load_told x _ rfl rfl g (o + k * 13) rfl HR.out ?_)
          | (go_at_call 53; go_must (refine (HC.out wr HB.out).mono ?_; rintro e w3 ⟨rfl, h5⟩; have HB3 : Hid (Below W.heap.size W w3) := Lib.hid (blThen HB.out h5); clear h5)))
        go_ret
        exact ⟨by rw [HE.out HPX.out]; rfl, HB3.out⟩
    · have hdk : decide ((k : Int) < (l.length : Int)) = false := decide_eq_false (by omega)
      rw [List.take_of_length_le (by omega)] at hn
      have HE := Lib.hid (SD.idxQ_miss hn)
      clear hn
      go_wp2
      go_ret
      exact ⟨by rw [HE.out]; rfl, hb⟩
theorem idx_any (p : Td → Bool) (l : List Td) : decide ((0 : Int) ≤ SD.idxQ p l) = l.any p := by
  unfold SD.idxQ
  cases h : l.any p
  · simp
  · simp
theorem containsD_any (i1 i2 p : Int) (sa : Option Addr) (sc bi bp bs : Nat) (va : Value) (l : List Td) (W : World) (hlen : l.length ≤ 1000) (hl : SlG eT W va l) (hbi : bi < W.heap.size) (hbp : bp < W.heap.size) (hbs : bs < W.heap.size) (h1 : W.cell? ⟨bi, 0, none⟩ = some (.int .i64 i1)) (h2 : W.cell? ⟨bi, 1, none⟩ = some (.int .i64 i2)) (h3 : W.cell? ⟨bp, 0, none⟩ = some (.int .i64 p)) (h4 : W.cell? ⟨bs, 0, none⟩ = some (.slice sa 0 sc)) :
    Calls Tryz.prog 56 #[va, .func (.func 53) #[] #[.pointer (some ⟨bi, 0, none⟩), .pointer (some ⟨bp, 0, none⟩), .pointer (some ⟨bs, 0, none⟩)]] W fun e w' => e = .returned (.bool (l.any (differsB i1 i2))) ∧ Below W.heap.size W w' := by
  have HC := Lib.hid (indexD_any i1 i2 p sa sc bi bp bs va l W hlen hl hbi hbp hbs h1 h2 h3 h4)
  have HI := Lib.hid (idx_any (differsB i1 i2) l)
  clear hl h1 h2 h3 h4
  generalize SD.idxQ (differsB i1 i2) l = q at *
  generalize l.any (differsB i1 i2) = b at *
  have HI2 := HI.out
  subst HI2
  go_enter Tryz.func56, Tryz.ntmps56
  go_wp2_with (go_at_call 75; go_must (refine HC.out.mono ?_; rintro e w3 ⟨rfl, h5⟩; have HB3 := Lib.hid h5; clear h5))
  go_ret
  exact ⟨rfl, HB3.out⟩
end SB
end Go.Proofs.YtpdfcojcmhadnaaGreat
