/- TopoOnce: each key lies in just one shard, whose nodes are those that own it; two quorums meet; whatever the topology and the text, the law returns true and leaves its arguments as they were. Conditions: none. -/
import Derived.Test.YtkgfpppbpjinaaaTr
set_option linter.unusedVariables false
set_option linter.unusedSimpArgs false
namespace Go.Proofs.Ytkgfpppbpjinaaa
open Go.ChangeShapes Go.WideShapes Go.ChangeAt Go.RowKit Go.Joins Go.Deep

theorem rise_uniq : ∀ {l m : List Int}, l.Pairwise (· < ·) → m.Pairwise (· < ·) → (∀ x, x ∈ l ↔ x ∈ m) → l = m
  | [], [], _, _, _ => rfl
  | [], y :: m, _, _, h => by
    have := (h y).2 (by simp)
    cases this
  | x :: l, [], _, _, h => by
    have := (h x).1 (by simp)
    cases this
  | x :: l, y :: m, h1, h2, h => by
    obtain ⟨a1, a2⟩ := List.pairwise_cons.1 h1
    obtain ⟨b1, b2⟩ := List.pairwise_cons.1 h2
    have e : x = y := by
      rcases List.mem_cons.1 ((h x).1 (by simp)) with e | hx
      · exact e
      · rcases List.mem_cons.1 ((h y).2 (by simp)) with e | hy
        · exact e.symm
        · have := a1 y hy
          have := b1 x hx
          omega
    subst e
    congr 1
    refine rise_uniq a2 b2 fun z => ?_
    have hz := h z
    simp only [List.mem_cons] at hz
    constructor
    · intro hzl
      have := a1 z hzl
      rcases hz.1 (.inr hzl) with e | hm
      · omega
      · exact hm
    · intro hzm
      have := b1 z hzm
      rcases hz.2 (.inr hzm) with e | hm
      · omega
      · exact hm
/-- How many of the nodes are below k. -/
def cnt (s : Sh) (k : Nat) : Nat := (ofTo (fun m => hasN s.nodes m) k).length
theorem cnt_len (s : Sh) (k : Nat) : cnt s k ≤ k := ofTo_len _ _
theorem cnt_succ (s : Sh) (k : Nat) : cnt s (k + 1) = cnt s k + (if hasN s.nodes (k : Int) = true then 1 else 0) := by
  unfold cnt
  rw [ofTo_succ, List.length_append]
  split <;> rfl
theorem cnt_one {l : List Sh} (h : Topo l) {s : Sh} (hs : s ∈ l) : cnt s 1 = 0 := by
  rw [cnt_succ]
  have : hasN s.nodes ((0 : Nat) : Int) = false := by
    cases hh : hasN s.nodes ((0 : Nat) : Int)
    · rfl
    · have := h.node s hs _ (hasN_mem.1 hh)
      omega
  rw [this]
  rfl
theorem cnt_all {l : List Sh} (h : Topo l) {s : Sh} (hs : s ∈ l) : cnt s 8 = s.nodes.length := by
  unfold cnt
  congr 1
  refine rise_uniq (ofTo_rises _ _) (h.rise s hs) fun x => ?_
  rw [ofTo_mem]
  constructor
  · rintro ⟨i, _, hp, rfl⟩
    exact hasN_mem.1 hp
  · intro hx
    have := h.node s hs x hx
    obtain ⟨m, rfl⟩ := Int.eq_ofNat_of_zero_le (show 0 ≤ x by omega)
    exact ⟨m, by omega, hasN_mem.2 hx, rfl⟩
theorem inS_point (t k : ByteArray) : inS (t, t ++ ⟨#[0]⟩) k = (t.toList == k.toList) := by
  show (!ltT k t && (noT (t ++ ⟨#[0]⟩) || ltT k (t ++ ⟨#[0]⟩))) = _
  rw [noT_next, lt_next]
  cases h1 : ltT k t
  · cases h2 : ltT t k
    · rw [lt_total h1 h2]
      simp
    · have : t.toList ≠ k.toList := by
        intro e
        rw [text_ext e, lt_irrefl] at h2
        cases h2
      simp [this]
  · have : t.toList ≠ k.toList := by
      intro e
      rw [text_ext e, lt_irrefl] at h1
      cases h1
    simp [this]
theorem set_point (k : ByteArray) : IsSet [(k, k ++ ⟨#[0]⟩)] := set_one (by
  show (noT (k ++ ⟨#[0]⟩) || ltT k (k ++ ⟨#[0]⟩)) = true
  rw [lt_next, lt_irrefl]
  simp)
theorem touch_point {l : List Sh} {k : ByteArray} {i : Nat} (h : At l k i) : touchL l [(k, k ++ ⟨#[0]⟩)] = [(i : Int)] := by
  refine rise_uniq (ofTo_rises _ _) (List.pairwise_singleton _ _) fun x => ?_
  unfold touchL
  rw [ofTo_mem, List.mem_singleton]
  have hp : ∀ j, j < l.length → shMeets l [(k, k ++ ⟨#[0]⟩)] j = decide (j = i) := by
    intro j hj
    obtain ⟨s, hs⟩ := at_lt hj
    rw [shMeets_at hs, ← h.2 j s hs, Bool.eq_iff_iff, meets_iff]
    constructor
    · rintro ⟨y, h1, h2⟩
      rw [memL_one, inS_point] at h2
      rw [text_ext (by simpa using h2 : k.toList = y.toList)]
      exact h1
    · intro h1
      exact ⟨k, h1, by rw [memL_one, inS_point]; simp⟩
  constructor
  · rintro ⟨j, hj, hpj, rfl⟩
    rw [hp j hj] at hpj
    rw [of_decide_eq_true hpj]
  · rintro rfl
    exact ⟨i, h.1, by rw [hp i h.1]; simp, rfl⟩
theorem hl_cells {w : World} {g o : Nat} {l : List Sh} (h : Hl w (some ⟨g, o, none⟩) l) {k : Nat} {s : Sh} (hs : l[k]? = some s) : w.cell? ⟨g, o + k * 3, none⟩ = some (.string s.sp.1) ∧ w.cell? ⟨g, o + k * 3 + 1, none⟩ = some (.string s.sp.2) ∧ w.cell? ⟨g, o + k * 3 + 2, none⟩ = some (.slice s.na s.nodes.length s.nc) ∧ g < w.heap.size := by
  obtain ⟨g', o', he, hg, c0, c1, c2⟩ := h.at hs
  simp only [Option.some.injEq, Addr.mk.injEq, and_true] at he
  obtain ⟨rfl, rfl⟩ := he
  exact ⟨c0, c1, c2, hg⟩
theorem quo_facts {m : Nat} (h1 : 1 ≤ m) (h5 : m ≤ 5) : ∃ q : Int, wrap64 (wrap64 ((m : Int).tdiv 2) + 1) = q ∧ 0 < q ∧ q ≤ 3 ∧ (m : Int) < 2 * q ∧ q ≤ (m : Int) ∧ 2 * (q - 1) ≤ (m : Int) := by
  have h : m = 1 ∨ m = 2 ∨ m = 3 ∨ m = 4 ∨ m = 5 := by omega
  rcases h with rfl | rfl | rfl | rfl | rfl
  · exact ⟨1, by decide +kernel, by decide, by decide, by decide, by decide, by decide⟩
  · exact ⟨2, by decide +kernel, by decide, by decide, by decide, by decide, by decide⟩
  · exact ⟨2, by decide +kernel, by decide, by decide, by decide, by decide, by decide⟩
  · exact ⟨3, by decide +kernel, by decide, by decide, by decide, by decide, by decide⟩
  · exact ⟨3, by decide +kernel, by decide, by decide, by decide, by decide, by decide⟩

set_option maxRecDepth 100000 in
set_option maxHeartbeats 16000000 in
theorem topoOnce_walk (a : Option Addr) (c : Nat) (l : List Sh) (key : ByteArray) (w : World) (hh : Hl w a l) (hm : l.length ≤ 9223372036854775807) :
    Calls Try.prog 5 #[.slice a l.length c, .string key] w fun e w' => e = .returned (.bool true) ∧ Below w.heap.size w w' := by
  have HH := Lib.hid hh
  have HLM := Lib.hid hm
  have HB := Lib.hid (Below.refl w.heap.size w)
  clear hh hm
  go_enter Try.func5, Try.ntmps5
  go_wp2_with fail
  refine (tsmall_any _ _ l _ [] _ HH.out (⟨none, 0, rfl, fun _ => rfl, fun h => absurd rfl h⟩) HLM.out (Nat.zero_le _)).mono ?_
  rintro e _ ⟨b, rfl, h30, hb⟩
  replace HB := Lib.hid (blThen HB.out hb)
  replace HH := Lib.hid (HH.out.later hb)
  clear hb
  cases b
  · go_wp2_with fail
    refine (tlive_any _).mono ?_
    rintro e _ ⟨rfl, hb⟩
    go_wp2
    go_ret
    exact ⟨rfl, blThen HB.out hb⟩
  have H30 := Lib.hid (h30 rfl)
  clear h30
  by_cases hbig : 4000 < key.size
  · have hbigI : (4000 : Int) < (key.size : Int) := by omega
    have hd : decide ((4000 : Int) < (key.size : Int)) = true := decide_eq_true hbigI
    go_wp2_with fail
    refine (tlive_any _).mono ?_
    rintro e _ ⟨rfl, hb⟩
    go_wp2
    go_ret
    exact ⟨rfl, blThen HB.out hb⟩
  have hbigI : ¬ (4000 : Int) < (key.size : Int) := by omega
  have hd : decide ((4000 : Int) < (key.size : Int)) = false := decide_eq_false hbigI
  have HK4 : Hid (key.size ≤ 4000) := by show _ ≤ _; omega
  clear hbig hbigI
  go_wp2_with fail
  refine (tcheck_any _ _ l _ HH.out).mono ?_
  rintro e _ ⟨rfl, hb⟩
  replace HB := Lib.hid (blThen HB.out hb)
  replace HH := Lib.hid (HH.out.later hb)
  clear hb
  generalize htb : topoB l = tb
  have HTB := Lib.hid htb
  clear htb
  cases tb
  · rw [show errT false = 40 from rfl]
    go_wp2_with fail
    refine (tnum_any _ _).mono ?_
    rintro e _ ⟨rfl, rfl⟩
    go_wp2_with fail
    refine (tlive_any _).mono ?_
    rintro e _ ⟨rfl, hb⟩
    go_wp2
    go_ret
    exact ⟨rfl, blThen HB.out hb⟩
  rw [show errT true = 0 from rfl]
  go_wp2_with fail
  refine (tnum_any _ _).mono ?_
  rintro e _ ⟨rfl, rfl⟩
  have HTP := Lib.hid (topo_of HTB.out)
  have HN5 := Lib.hid (topo_n5 HTP.out)
  have H8 : Hid (l.length ≤ 1000000) := Nat.le_trans HTP.out.len (by decide)
  clear HTB
  obtain ⟨i, hi⟩ := HTP.out.once key
  have hil := hi.1
  obtain ⟨s, hs⟩ := at_lt hil
  have HAT : Hid (At l key i) := hi
  have HS := Lib.hid hs
  have HSM := Lib.hid (List.mem_of_getElem? hs)
  clear hi hs
  have hl8 := HTP.out.len
  have HSH := Lib.hid (fun n => topo_sh HTP.out n)
  go_wp2_with fail
  refine (find_any _ _ l key i _ H8.out HH.out HTP.out.full HAT.out).mono ?_
  rintro e W1 ⟨rfl, hb⟩
  replace HB := Lib.hid (blThen HB.out hb)
  replace HH := Lib.hid (HH.out.later hb)
  clear hb
  have hi0 : (0 : Int) ≤ (i : Int) := by omega
  have hi1 : (i : Int) < (l.length : Int) := by omega
  have hin : ¬ (i : Int) < 0 := by omega
  have hin2 : ¬ (l.length : Int) ≤ (i : Int) := by omega
  have hdi : decide ((i : Int) < 0) = false := decide_eq_false hin
  have hdl : decide ((l.length : Int) ≤ (i : Int)) = false := decide_eq_false hin2
  have hdlN : decide (l.length ≤ i) = false := decide_eq_false (by omega)
  go_wp2
  go_loopw [6] (fun v wr => ∃ k : Nat, k ≤ l.length ∧ v = .int .i64 k ∧ Below W1.heap.size W1 wr) (fun v _ => l.length - (intOf v).toNat)
  case atStart => exact ⟨0, Nat.zero_le _, rfl, Below.refl _ _⟩
  case round =>
    obtain ⟨k, hk, rfl, hbr⟩ := hrel
    have HR := Lib.hid hbr
    by_cases hlt : k < l.length
    · obtain ⟨t, ht⟩ := at_lt hlt
      obtain ⟨g, o, rfl, hg, d0, d1, d2⟩ := HH.out.at ht
      have c0 := cell_in hbr hg d0
      have c1 := cell_in hbr hg d1
      have hgw := Nat.lt_of_lt_of_le hg hbr.size
      have hk0 : (0 : Int) ≤ (k : Int) := by omega
      have hk1 : (k : Int) < (l.length : Int) := by omega
      have hdk : decide ((k : Int) < (l.length : Int)) = true := decide_eq_true hk1
      have HIS : Hid (memL [t.sp] key = decide (k = i)) := by show _ = _; rw [memL_one]; exact HAT.out.2 k t ht
      clear ht hbr d0 d1 d2
      by_cases hki : k = i
      · have hdq : decide (k = i) = true := decide_eq_true hki
        have hke : ((k : Int) == (i : Int)) = true := by simp; omega
        clear hki
        go_wp2_with fail
        refine (refhas_any _ [t.sp] key _ (by simp) (sl_one _ t.sp _ rfl)).mono ?_
        rintro r w2 ⟨rfl, hb1⟩
        rw [HIS.out, hdq]
        have HR2 := Lib.hid ((blAlloc HR.out _).trans (hb1.mono (blAlloc HR.out _).size))
        clear hb1 c0 c1 hdq
        go_wp2
        go_roundw
        case rel => exact ⟨k + 1, hlt, by go_num, HR2.out⟩
        case measure => simp [intOf]; omega
      · have hdq : decide (k = i) = false := decide_eq_false hki
        have hke : ((k : Int) == (i : Int)) = false := by simp; omega
        clear hki
        go_wp2_with fail
        refine (refhas_any _ [t.sp] key _ (by simp) (sl_one _ t.sp _ rfl)).mono ?_
        rintro r w2 ⟨rfl, hb1⟩
        rw [HIS.out, hdq]
        have HR2 := Lib.hid ((blAlloc HR.out _).trans (hb1.mono (blAlloc HR.out _).size))
        clear hb1 c0 c1 hdq
        go_wp2
        go_roundw
        case rel => exact ⟨k + 1, hlt, by go_num, HR2.out⟩
        case measure => simp [intOf]; omega
    · have hdk : decide ((k : Int) < (l.length : Int)) = false := decide_eq_false (by omega)
      have hb := hbr
      clear hbr HR
      replace HB := Lib.hid (blThen HB.out hb)
      replace HH := Lib.hid (HH.out.later hb)
      clear hb
      obtain ⟨g, o, rfl, hg, d0, d1, d2⟩ := HH.out.at HS.out
      have HIL := Lib.hid (HH.out.1 s HSM.out)
      have HL5 := Lib.hid (HN5.out s HSM.out)
      have HON := Lib.hid (fun n => Nat.le_trans (uniL_len (ownTo l n l.length)) (Nat.le_trans (ownTo_len l n l.length) H8.out))
      go_wp2
      go_loopw [7, 8] (fun ov v wr2 => ∃ k : Nat, 1 ≤ k ∧ k ≤ 8 ∧ v = .int .i64 k ∧ ov = .int .i64 (cnt s k) ∧ Below wr.heap.size wr wr2) (fun _ v _ => 8 - (intOf v).toNat)
      case atStart => exact ⟨1, Nat.le_refl _, by decide, rfl, by rw [cnt_one HTP.out HSM.out]; rfl, Below.refl _ _⟩
      case round =>
        obtain ⟨k, hk1, hk8, rfl, rfl, hb2⟩ := hrel
        have hcn := Nat.le_trans (cnt_len s k) hk8
        by_cases hlt : k ≤ 7
        · have hdk : decide ((k : Int) ≤ 7) = true := decide_eq_true (by omega)
          have HCS := Lib.hid (cnt_succ s k)
          have HE1 : Hid (memL (ownL l (k : Int)) key = hasN s.nodes (k : Int)) := by show _ = _; rw [find_all HAT.out.2, shHas_at HS.out]
          have HKK : Hid ((nodeB (k : Int) && anyHas l [(i : Int)] (k : Int)) = hasN s.nodes (k : Int)) := by show _ = _; rw [any_one, shHas_at HS.out, nodeB_iff.2 ⟨by omega, by omega⟩, Bool.true_and]
          generalize hx : hasN s.nodes (k : Int) = x at *
          have HX := Lib.hid hx
          have hb2d := hb2.drew
          have HB2D := Lib.hid hb2d
          have hl0 := HH.out.later hb2d
          have il0 := HIL.out.later hb2d
          have c2 := cell_in hb2 hg d2
          have hgw2 := Nat.lt_of_lt_of_le hg hb2.size
          clear hx hb2 hb2d
          have HON1 := Lib.hid (HON.out (k : Int))
          go_wp2
          go_region_with (first
            | (go_at_call 25; refine (owned_any _ _ l (k : Int) _ H8.out HN5.out (HSH.out k) hl0).mono ?_; rintro e w3 ⟨v3, rfl, ho3, hb3⟩; obtain ⟨a3, c3, rfl⟩ := ho3.form; have HS3 := Lib.hid ho3.sl; have HR3 := Lib.hid (blThen HB2D.out hb3); have il1 := HIL.out.later HR3.out; have c2b := cell_in HR3.out hg d2; have hgw3 := Nat.lt_of_lt_of_le hg HR3.out.size; clear ho3 hb3)
            | (go_at_call 30; refine (refhas_any _ (ownL l (k : Int)) key _ HON1.out HS3.out).mono ?_; rintro e w4 ⟨rfl, hb4⟩; have HR4 := Lib.hid (blThen HR3.out hb4); have il2 := HIL.out.later HR4.out; have c2c := cell_in HR4.out hg d2; have hgw4 := Nat.lt_of_lt_of_le hg HR4.out.size; rw [HE1.out]; clear hb4)
            | (go_at_call 15; refine (refin_i _ _ s.nodes (k : Int) _ HL5.out ?_).mono ?_; (focus assumption); rintro e w5 ⟨rfl, rfl⟩; rw [HX.out]))
          all_goals
            have HH4 := Lib.hid (HH.out.later HR4.out)
            clear c2c hgw4 il2 c2b hgw3 il1 c2 hgw2 il0 hl0
            cases x
            all_goals
              go_wp2_with fail
              refine (keeps_any _ _ l (k : Int) _ _ [(i : Int)] _ H8.out (by simp) HN5.out (HH4.out.later (blAlloc (Below.refl _ _) _)) (one_newI _ _ _ rfl)).mono ?_
              rintro e w6 ⟨rfl, hb6⟩
              rw [HKK.out]
              have HR6 := Lib.hid ((blAlloc HR4.out _).trans (hb6.mono (blAlloc HR4.out _).size))
              clear hb6
              go_wp2
              go_roundw
              case rel => exact ⟨k + 1, by omega, by omega, by go_num, by rw [HCS.out]; first | rfl | go_num, HR6.out⟩
              case measure => simp [intOf]; omega
        · obtain rfl : k = 8 := by omega
          have HCA := Lib.hid (cnt_all HTP.out HSM.out)
          have hm15 := HTP.out.few s HSM.out
          obtain ⟨q, hq, hq0, hq3, hq4, hq5, hq6⟩ := quo_facts hm15.1 hm15.2
          have hk4 := HK4.out
          have hd4 : decide ((s.nodes.length : Int) < 2 * q) = true := decide_eq_true hq4
          have hd5 : decide (q ≤ (s.nodes.length : Int)) = true := decide_eq_true hq5
          have QUO := quorum_any s
          unfold shV at QUO
          have HTT := Lib.hid (touch_point HAT.out)
          rw [HCA.out]
          have hb := hb2
          clear hb2 HIL HON hcn
          replace HB := Lib.hid (blThen HB.out hb)
          replace HH := Lib.hid (HH.out.later hb)
          clear hb
          obtain ⟨e0, e1, e2, hge⟩ := hl_cells HH.out HS.out
          clear d0 d1 d2 hg
          go_wp2_with fail
          refine (QUO _).mono ?_
          rintro e wq ⟨rfl, hb⟩
          rw [hq]
          have HSP := Lib.hid ((sl_one wr (key, key ++ ⟨#[0]⟩) _ rfl).later hb)
          replace hb := blThen (blAlloc (Below.refl _ _) _) hb
          replace HB := Lib.hid (blThen HB.out hb)
          replace HH := Lib.hid (HH.out.later hb)
          clear hb
          clear e0 e1 e2 hge
          obtain ⟨e0, e1, e2, hge⟩ := hl_cells HH.out HS.out
          go_wp2_with fail
          refine (QUO _).mono ?_
          rintro e _ ⟨rfl, hb⟩
          replace HB := Lib.hid (blThen HB.out hb)
          replace HH := Lib.hid (HH.out.later hb)
          replace HSP := Lib.hid (HSP.out.later hb)
          clear hb
          rw [hq]
          clear e0 e1 e2 hge
          go_wp2_with fail
          refine (touch_any _ _ l _ [(key, key ++ ⟨#[0]⟩)] _ H8.out (by simp) HTP.out.full (set_point key) HH.out HSP.out).mono ?_
          rintro e _ ⟨_, rfl, ho, hb⟩
          obtain ⟨ar, cr, rfl⟩ := ho.form
          have HIr := Lib.hid ho.at
          clear ho
          replace HB := Lib.hid (blThen HB.out hb)
          replace HH := Lib.hid (HH.out.later hb)
          replace HSP := Lib.hid (HSP.out.later hb)
          clear hb
          rw [HTT.out] at HIr ⊢
          clear HSP
          go_wp2_with fail
          refine (ints_any _ _ _ _ [(i : Int)] [(i : Int)] _ (by simp) (HIr.out.later (blAlloc (Below.refl _ _) _)) (one_newI _ _ _ rfl)).mono ?_
          rintro e _ ⟨rfl, hb⟩
          replace hb := blThen (blAlloc (Below.refl _ _) _) hb
          replace HB := Lib.hid (blThen HB.out hb)
          replace HH := Lib.hid (HH.out.later hb)
          replace HIr := Lib.hid (HIr.out.later hb)
          clear hb
          rw [show sameI [(i : Int)] [(i : Int)] = true by simp [sameI]]
          clear HIr
          go_wp2_with fail
          refine (tlive_any _).mono ?_
          rintro e _ ⟨rfl, hb⟩
          go_wp2
          go_ret
          exact ⟨rfl, blThen HB.out hb⟩

set_option maxRecDepth 100000 in
theorem topoOnce_lifted (os : Os) (started : os.Started) (H : Type) (enc : TypeId × Value → H) :
    ReturnsInHanded {} Try.checked os 5 .any (Rows.topoOnceSpec.pre6 enc Try.prog Try.f5 Rows.topoOnceRow.domain false) (Rows.topoOnceSpec.post enc Try.prog Try.f5 false true false false) := by
  refine law_lift (C := Try.checked) own0 started (by kernel_rfl) Try.func5 laid0 rfl (by kernel_rfl) (fun _ _ _ _ => trodAll_mk1 (shut_bool Try.underlying4 true)) (fun ds h => match ds, h with | [_, _], _ => ⟨rfl, rfl, rfl⟩)
    (ChangeSpec.witness6 (enc := enc) (C := Try.checked) false ⟨#[], #[.slice none 0 0, .string ⟨#[]⟩], []⟩ 8 (by kernel_rfl) (by kernel_rfl) (by kernel_rfl) (by kernel_rfl)) ?_
  intro W base args ds before hval0 hA0 hlt
  have hval : ∀ (j : Nat) t v, Try.f5.params[j]? = some t → args[j]? = some v → Value.okWide Try.prog W .any base t v := hval0
  have hA : DataW.TrodAll enc Try.prog W 0 (fun _ => true) true Try.f5.params.toList args.toList ds before := hA0
  rw [Try.params5] at hA hval
  obtain ⟨v0, v1, d0, d1, p0, p1, rfl, rfl, rfl, h0, h1⟩ := trodAll_two hA
  obtain ⟨a0, l0, c0, rfl, hh0, hm0⟩ := open_shards (hval 0 22 v0 rfl rfl) h0
  obtain ⟨s1, rfl, rfl, rfl, hh1⟩ := Go.ChangeMaps.open_string Try.underlying9 (hval 1 9 v1 rfl rfl) h1
  exact topoOnce_walk _ _ l0 s1 W hh0 hm0

theorem topoOnce_holds : Rows.TopoOnceSaid :=
  OpenClaim.holds_of_wide 5 Try.f5 rfl rfl rfl rfl rfl rfl rfl ⟨rfl, rfl, rfl, rfl, rfl⟩ rfl rfl rfl rfl rfl (by kernel_rfl) Try.func5 (by kernel_rfl)
    (of_decide_eq_true (by kernel_rfl)) (by unfold Func.isWrapper; rw [if_neg (of_decide_eq_false (by kernel_rfl))]; exact ⟨rfl, rfl⟩)
    (fun os started H enc _ => topoOnce_lifted os started H enc)

#print axioms topoOnce_holds

end Go.Proofs.Ytkgfpppbpjinaaa
