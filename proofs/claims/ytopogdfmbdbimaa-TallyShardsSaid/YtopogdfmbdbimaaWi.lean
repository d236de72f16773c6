/- New: the walk. Conditions: lists of at most a million. -/
import Derived.Test.YtopogdfmbdbimaaWh
set_option linter.unusedVariables false
namespace Go.Proofs.Ytopogdfmbdbimaa
open Go.RowKit Go.Sort Go.Shelf Go.Maps

theorem OwnS.formN {w : World} {base : Nat} {v : Value} {l : List Sh} (h : OwnS w base v l) (n : Nat) (hn : l.length = n) : ∃ a c, v = .slice a n c := by
  subst hn
  obtain ⟨a, c, hv, _⟩ := h.row
  exact ⟨a, c, hv⟩
/-- The nodes of the shards at these places, shard by shard. -/
def msOf (l : List Sh) (Q : List Int) : List (List Int) := (Q.filter fun i => (atSh l i).isSome).map fun i => nodesL l [i]
theorem msOf_take {l : List Sh} {Q : List Int} {k : Nat} {i : Int} (h : Q[k]? = some i) : msOf l (Q.take (k + 1)) = msOf l (Q.take k) ++ if (atSh l i).isSome = true then [nodesL l [i]] else [] := by
  unfold msOf
  rw [List.take_add_one, h, List.filter_append, List.map_append]
  cases h2 : (atSh l i).isSome <;> simp [h2]
theorem msOf_len (l : List Sh) (Q : List Int) : (msOf l Q).length ≤ Q.length := by
  unfold msOf
  rw [List.length_map]
  exact List.length_filter_le _ _

theorem nodesL_len (l : List Sh) (P : List Int) : (nodesL l P).length ≤ 8 := ofTo_len _ _
set_option maxRecDepth 100000 in
set_option maxHeartbeats 4000000 in
theorem tnew_any (W0 w : World) (a : Option Addr) (c : Nat) (l : List Sh) (ap : Option Addr) (cp : Nat) (S : List Int) (hlen : l.length ≤ 1000000) (hn5 : ∀ s ∈ l, s.nodes.length ≤ 1000000) (hls : S.length ≤ 1000000) (ha : Hl W0 a l) (hb0 : Below W0.heap.size W0 w) (hp : Il w ap cp S) :
    Calls Try.prog 11 #[.slice a l.length c, .slice ap S.length cp] w fun e w' => ∃ b mb vs vn ms, e = .returned (.pointer (some ⟨b, 0, none⟩)) ∧ NT w w' b mb vs vn ms (nodesL l S) ∧ ms.map (·.nodes) = msOf l (compL (sortL S)) := by
  have hha : Hl w a l := ha.later hb0
  have HA := Lib.hid hha
  have HP := Lib.hid hp
  have HN5 := Lib.hid hn5
  have hmm := @run_makeMap Try.prog
  clear ha hp hn5 hb0 hha
  go_enter Try.func11, Try.ntmps11
  go_wp2_with (go_at_call 31; refine (nodes_any _ _ l _ _ S _ hlen hls HN5.out HA.out HP.out).mono ?_; rintro e w1 ⟨vn, rfl, ho, hb⟩; obtain ⟨na, nc, rfl⟩ := ho.form; have HO := Lib.hid ho; have HB := Lib.hid hb; clear ho hb)
  have hbm := blAlloc HB.out (.map #[] 0)
  have hT : NT w ((w1.alloc (.map #[] 0)).alloc (.cells #[.slice none 0 0, .slice na (nodesL l S).length nc, .map (some w1.heap.size)] 48)) (w1.heap.size + 1) w1.heap.size (.slice none 0 0) (.slice na (nodesL l S).length nc) [] (nodesL l S) := by
    have h1 : Below w1.heap.size w1 ((w1.alloc (.map #[] 0)).alloc (.cells #[.slice none 0 0, .slice na (nodesL l S).length nc, .map (some w1.heap.size)] 48)) := blAlloc (blAlloc (Below.refl _ _) _) _
    refine ⟨?_, OwnS.nil _ _, fun m hm => (by cases hm), HO.out.later h1, ?_, ?_, HB.out.size, blAlloc hbm _⟩
    · have h := heap_alloc_new (w1.alloc (.map #[] 0)) (.cells #[.slice none 0 0, .slice na (nodesL l S).length nc, .map (some w1.heap.size)] 48)
      rwa [World.size_alloc] at h
    · exact World.ownsMap.alloc (World.ownsMap_made w1 _ _ _) _
    · have := HB.out.size
      omega
  have HLS := Lib.hid (nodesL_len l S)
  generalize ((w1.alloc (.map #[] 0)).alloc (.cells #[.slice none 0 0, .slice na (nodesL l S).length nc, .map (some w1.heap.size)] 48)) = X at *
  generalize w1.heap.size = mb at *
  generalize mb + 1 = b at *
  clear hmm hbm HB HO
  have HT := Lib.hid hT
  have hbl := hT.blk.lt
  clear hT
  refine (values_any ap S.length cp _).mono ?_
  rintro e w2 ⟨rfl, rfl⟩
  go_wp2_with fail
  refine (sortedValues_any X.heap.size ap cp S _ hls ((HP.out.later HT.out.bel).later (blAlloc (Below.refl _ _) _)) (box1_new X _ _)).mono ?_
  rintro e w3 ⟨v3, rfl, ho, hb⟩
  have HB3 := Lib.hid (blThen (blAlloc (Below.refl X.heap.size X) _) hb)
  have HO3 := Lib.hid (ho.mono (base := X.heap.size) (by simp))
  clear ho hb
  go_wp2_with fail
  refine (compactI_any X.heap.size v3 (sortL S) w3 (by rw [sortL_length]; exact hls) HO3.out).mono ?_
  rintro e w4 ⟨v4, rfl, ho, hg⟩
  have HB4 := Lib.hid (grown_belowI HB3.out HO3.out (Nat.le_refl _) HB3.out.size hg)
  have HQL : Hid ((compL (sortL S)).length ≤ 1000000) := Nat.le_trans (compL_length _) (by rw [sortL_length]; exact hls)
  generalize hQe : compL (sortL S) = Q at *
  have HQE := Lib.hid hQe
  clear hQe
  obtain ⟨qa, qc, rfl⟩ := ho.form
  have HQ := Lib.hid (ho.mono (base := w.heap.size) HT.out.bel.size)
  have HT4 := Lib.hid (HT.out.later HB4.out)
  have hbl4 := HT4.out.blk.lt
  clear ho hg HB3 HB4 HO3 HT hbl
  go_wp2
  go_loopw [19] (fun i wr => ∃ (k : Nat) (vs : Value) (ms : List Sh), k ≤ Q.length ∧ i = .int .i64 k ∧ NT w wr b mb vs (.slice na (nodesL l S).length nc) ms (nodesL l S) ∧ ms.map (·.nodes) = msOf l (Q.take k) ∧ OwnI wr w.heap.size (.slice qa Q.length qc) Q) (fun i _ => Q.length - (intOf i).toNat)
  case atStart => exact ⟨0, _, [], Nat.zero_le _, rfl, HT4.out, rfl, HQ.out⟩
  case round =>
    clear HQ
    obtain ⟨k, vs, ms, hk, rfl, ht, hm, hb⟩ := hrel
    have HT := Lib.hid ht
    have HM := Lib.hid hm
    have HB := Lib.hid hb
    have hql : Q.length ≤ 1000000 := HQL.out
    by_cases hlt : k < Q.length
    · obtain ⟨i, hi⟩ := at_lt hlt
      obtain ⟨gp, op, rfl, hgw, c0⟩ := HB.out.at.at hi
      have hk0 : (0 : Int) ≤ (k : Int) := by omega
      have hk1 : (k : Int) < (Q.length : Int) := by omega
      have hdk : decide ((k : Int) < (Q.length : Int)) = true := decide_eq_true hk1
      have HMT := Lib.hid (msOf_take (l := l) hi)
      clear hi ht hm hb
      by_cases hi0 : 0 ≤ i
      · have hd0 : decide ((0 : Int) ≤ i) = true := decide_eq_true hi0
        by_cases hil : i < (l.length : Int)
        · have hdl : decide (i < (l.length : Int)) = true := decide_eq_true hil
          have HSI : Hid ((atSh l i).isSome = true) := by show _ = _; rw [atSh_isSome, decide_eq_true ⟨hi0, hil⟩]
          obtain ⟨va, vc, rfl, _⟩ := HT.out.own.row
          have t0 := HT.out.blk.c0
          have hbl := HT.out.blk.lt
          have HML : Hid (ms.length ≤ 1000000) := by
            show _ ≤ _
            have h1 := congrArg List.length HM.out
            rw [List.length_map] at h1
            have h2 := msOf_len l (Q.take k)
            rw [List.length_take] at h2
            have := HQL.out
            omega
          go_wp2
          go_region_law (first
            | (refine step_s rfl (.tmp 35) (.tmp 41) rfl wr w.heap.size (v := .slice va ms.length vc) (d := ms) (ad := ⟨w6.heap.size, 0, none⟩) (cap := 1) (m := ⟨(⟨#[]⟩, ⟨#[]⟩), xa, xc, nodesL l [i]⟩) (by simp [Act.eval]) (by simp [Act.eval]) HT.out.own (by repeat (first | with_reducible exact Keeps.refl _ _ | with_reducible exact Keeps.ofBelow HB3.out | with_reducible refine keepsAlloc ?_ _ | with_reducible refine keepsDrew ?_)) (sh_one (w0 := w6) rfl rfl) HML.out HT.out.bel.size ?_; intro v' w' h1 h2; obtain ⟨ao, an, rfl⟩ := h1.formN (ms.length + 1) (by simp); have hpush := HT.out.push (by repeat (first | with_reducible exact Keeps.refl _ _ | with_reducible exact Keeps.ofBelow HB3.out | with_reducible refine keepsAlloc ?_ _ | with_reducible refine keepsDrew ?_)) (HO6.out.keep (by repeat (first | with_reducible exact Keeps.refl _ _ | with_reducible refine keepsAlloc ?_ _ | with_reducible refine keepsDrew ?_)) (fun _ _ h => h)) h1 h2; have HN := Lib.hid hpush.2.1; have HQN := Lib.hid (hpush.2.2 _ _ HB.out); have q0 := hpush.1.c0; have q1 := hpush.1.f 0; have q2 := hpush.1.lt; clear h1 h2 hpush)
            | (try go_simp; go_at_call 31; refine (nodes_any _ _ l _ _ [i] _ hlen (by simp) HN5.out (HA.out.later (HT.out.bel.trans ((show Below wr.heap.size wr _ from (by repeat (first | with_reducible exact Below.refl _ _ | with_reducible refine blAlloc ?_ _ | with_reducible refine Below.drew ?_))).mono HT.out.bel.size))) (by exact il_one (w0 := wr) rfl rfl)).mono ?_; rintro e w6 ⟨v6, rfl, ho, hb⟩; obtain ⟨xa, xc, rfl⟩ := ho.form; have HO6 : Hid (OwnI w6 w.heap.size (.slice xa (nodesL l [i]).length xc) (nodesL l [i])) := ho.mono (Nat.le_trans HT.out.bel.size (by simp)); have HB3 : Hid (Below wr.heap.size wr w6) := blThen (by repeat (first | with_reducible exact Below.refl _ _ | with_reducible refine blAlloc ?_ _ | with_reducible refine Below.drew ?_)) hb; have t6 := cell_in HB3.out hbl t0; have hb6 := Nat.lt_of_lt_of_le hbl HB3.out.size; clear ho hb))
          all_goals
            go_wp2
            go_roundw
            case rel => exact ⟨k + 1, _, _, hlt, by go_num, HN.out, by rw [HMT.out, HSI.out, List.map_append, HM.out]; simp, HQN.out⟩
            case measure => simp [intOf]; omega
        · have hdl : decide (i < (l.length : Int)) = false := decide_eq_false hil
          have HSI : Hid ((atSh l i).isSome = false) := by show _ = _; rw [atSh_isSome, decide_eq_false (by omega)]
          go_wp2
          go_roundw
          case rel => exact ⟨k + 1, vs, ms, hlt, by go_num, HT.out, by rw [HMT.out, HSI.out, HM.out]; simp, HB.out⟩
          case measure => simp [intOf]; omega
      · have hd0 : decide ((0 : Int) ≤ i) = false := decide_eq_false hi0
        have HSI : Hid ((atSh l i).isSome = false) := by show _ = _; rw [atSh_isSome, decide_eq_false (by omega)]
        go_wp2
        go_roundw
        case rel => exact ⟨k + 1, vs, ms, hlt, by go_num, HT.out, by rw [HMT.out, HSI.out, HM.out]; simp, HB.out⟩
        case measure => simp [intOf]; omega
    · have hdk : decide ((k : Int) < (Q.length : Int)) = false := decide_eq_false (by omega)
      rw [List.take_of_length_le (by omega)] at hm
      clear HM
      have HM := Lib.hid hm
      clear hm ht hb
      go_wp2
      go_ret
      exact ⟨b, mb, _, _, ms, rfl, HT.out, by rw [HQE.out]; exact HM.out⟩

end Go.Proofs.Ytopogdfmbdbimaa
