/- The crew of shards; Keeps, Nodes. Conditions: lists of at most a million. -/
import Derived.Test.YtopogdfmbdbimaaTh
set_option linter.unusedVariables false
namespace Go.Proofs.Ytopogdfmbdbimaa
open Go.RowKit

theorem anyHas_take {l : List Sh} {P : List Int} {k : Nat} {i : Int} (h : P[k]? = some i) (n : Int) : anyHas l (P.take (k + 1)) n = (anyHas l (P.take k) n || atHas l i n) := by
  unfold anyHas
  rw [List.take_add_one, h, List.any_append]
  simp
/-- The crew of the shards at these places. -/
def crewF (l : List Sh) (P : List Int) (n : Nat) : Bool := nodeB (n : Int) && anyHas l P (n : Int)
theorem below_set {w x y : World} {b : Nat} (h : Below w.heap.size w x) (hb : w.heap.size ≤ b) (hg : x.grownBy y (some b)) : Below w.heap.size w y :=
  h.grown hg h.size (fun k hk => by cases hk; exact hb)

set_option maxRecDepth 100000 in
set_option maxHeartbeats 2000000 in
theorem crewOf_any (a : Option Addr) (c : Nat) (l : List Sh) (ap : Option Addr) (cp : Nat) (P : List Int) (w : World) (hlen : l.length ≤ 1000000) (hlp : P.length ≤ 1000000) (hn5 : ∀ s ∈ l, s.nodes.length ≤ 1000000) (ha : Hl w a l) (hp : Il w ap cp P) :
    Calls Try.prog 44 #[.slice a l.length c, .slice ap P.length cp] w fun e w' => e = .returned (.agg (crewA (crewF l P))) ∧ Below w.heap.size w w' := by
  have HA := Lib.hid ha
  have HP := Lib.hid hp
  have HN5 := Lib.hid hn5
  clear ha hp hn5
  have hb0 := blAlloc (blAlloc (Below.refl w.heap.size w) (.cells (crewA (fun _ => false)) 62)) (.cells (crewA (fun _ => false)) 62)
  have hc0 : Crew ((w.alloc (.cells (crewA (fun _ => false)) 62)).alloc (.cells (crewA (fun _ => false)) 62)) w.heap.size (fun _ => false) := (crew_new w _).later ((Below.refl _ _).alloc (Nat.le_refl _) _) (by simp)
  have hc1 : Crew ((w.alloc (.cells (crewA (fun _ => false)) 62)).alloc (.cells (crewA (fun _ => false)) 62)) (w.heap.size + 1) (fun _ => false) := by have h := crew_new (w.alloc (.cells (crewA (fun _ => false)) 62)) (fun _ => false); rwa [World.size_alloc] at h
  have HB0 := Lib.hid hb0
  have HC0 := Lib.hid hc0
  have HC1 := Lib.hid hc1
  clear hb0 hc0 hc1
  unfold crewA at HB0 HC0 HC1
  go_enter Try.func44, Try.ntmps44
  go_wp2
  go_loopw [10] (fun i wr => ∃ k : Nat, k ≤ P.length ∧ i = .int .i64 k ∧ Crew wr w.heap.size (fun _ => false) ∧ Crew wr (w.heap.size + 1) (crewF l (P.take k)) ∧ Below w.heap.size w wr) (fun i _ => P.length - (intOf i).toNat)
  case atStart => exact ⟨0, Nat.zero_le _, rfl, HC0.out, HC1.out.congr (fun m _ => by simp [crewF, anyHas]), HB0.out⟩
  case round =>
    obtain ⟨k, hk, rfl, hr, hcr, hb⟩ := hrel
    by_cases hlt : k < P.length
    · obtain ⟨i, hi⟩ := at_lt hlt
      obtain ⟨gp, op, rfl, hgp, d0⟩ := HP.out.at hi
      have c0 := cell_in hb hgp d0
      have hgw := Nat.lt_of_lt_of_le hgp hb.size
      have hk0 : (0 : Int) ≤ (k : Int) := by omega
      have hk1 : (k : Int) < (P.length : Int) := by omega
      have hdk : decide ((k : Int) < (P.length : Int)) = true := decide_eq_true hk1
      have HI := Lib.hid hi
      have HB := Lib.hid hb
      have HR := Lib.hid hr
      have HCR := Lib.hid hcr
      clear hi hb hr hcr d0
      by_cases hi0 : 0 ≤ i
      · obtain ⟨q, rfl⟩ := Int.eq_ofNat_of_zero_le hi0
        have hd0 : decide ((0 : Int) ≤ (q : Int)) = true := decide_eq_true hi0
        by_cases hil : q < l.length
        · obtain ⟨s, hs⟩ := at_lt hil
          obtain ⟨g, o, rfl, hg, e0, e1, e2⟩ := HA.out.at hs
          have f2 := cell_in HB.out hg e2
          have hgw2 := Nat.lt_of_lt_of_le hg HB.out.size
          have hq0 : (0 : Int) ≤ (q : Int) := by omega
          have hq1 : (q : Int) < (l.length : Int) := by omega
          have hdq : decide ((q : Int) < (l.length : Int)) = true := decide_eq_true hq1
          have HL5 := Lib.hid (HN5.out s (List.mem_of_getElem? hs))
          have HIL := Lib.hid (HA.out.1 s (List.mem_of_getElem? hs))
          have HS := Lib.hid hs
          have HNX : Hid (s.nodes ≠ [] → ∀ g o, s.na = some ⟨g, o, none⟩ → g ≠ w.heap.size + 1) := by
            intro hne g' o' e'
            obtain ⟨g2, o2, e3, hg2, _⟩ := HIL.out.2 hne
            rw [e3] at e'
            simp only [Option.some.injEq, Addr.mk.injEq, and_true] at e'
            omega
          clear hs e0 e1 e2
          go_wp2_with (go_at_call 53; refine (add_any _ _ _ _ s.nodes _ HL5.out HCR.out (HIL.out.later HB.out) HNX.out).mono ?_; rintro e w2 ⟨rfl, h1, h2⟩; have H1 := Lib.hid h1; have H2 := Lib.hid h2; clear h1 h2)
          go_roundw
          case rel => exact ⟨k + 1, hlt, by go_num, HR.out.beside H2.out (by omega), H1.out.congr (fun m _ => by unfold crewF inC; rw [anyHas_take HI.out, atHas_at HS.out, ← Bool.and_or_distrib_left]), below_set HB.out (by omega) H2.out⟩
          case measure => simp [intOf]; omega
        · have hdq : decide ((q : Int) < (l.length : Int)) = false := decide_eq_false (by omega)
          have HO := Lib.hid (atHas_out (l := l) (i := (q : Int)) (by omega))
          go_wp2
          go_roundw
          case rel => exact ⟨k + 1, hlt, by go_num, HR.out, HCR.out.congr (fun m _ => by unfold crewF; rw [anyHas_take HI.out, HO.out, Bool.or_false]), HB.out⟩
          case measure => simp [intOf]; omega
      · have hd0 : decide ((0 : Int) ≤ i) = false := decide_eq_false hi0
        have HO := Lib.hid (atHas_neg (l := l) (i := i) (by omega))
        go_wp2
        go_roundw
        case rel => exact ⟨k + 1, hlt, by go_num, HR.out, HCR.out.congr (fun m _ => by unfold crewF; rw [anyHas_take HI.out, HO.out, Bool.or_false]), HB.out⟩
        case measure => simp [intOf]; omega
    · have hdk : decide ((k : Int) < (P.length : Int)) = false := decide_eq_false (by omega)
      have HCF : Hid (Crew wr (w.heap.size + 1) (crewF l P)) := by have h := hcr; rwa [List.take_of_length_le (by omega)] at h
      have HB := Lib.hid hb
      have HR := Lib.hid hr
      clear hcr hb hr
      have e0 := HCF.out.cell (m := 0) (by decide)
      have e1 := HCF.out.cell (m := 1) (by decide)
      have e2 := HCF.out.cell (m := 2) (by decide)
      have e3 := HCF.out.cell (m := 3) (by decide)
      have e4 := HCF.out.cell (m := 4) (by decide)
      have e5 := HCF.out.cell (m := 5) (by decide)
      have e6 := HCF.out.cell (m := 6) (by decide)
      have e7 := HCF.out.cell (m := 7) (by decide)
      have r0 := HR.out.cell (m := 0) (by decide)
      have r1 := HR.out.cell (m := 1) (by decide)
      have r2 := HR.out.cell (m := 2) (by decide)
      have r3 := HR.out.cell (m := 3) (by decide)
      have r4 := HR.out.cell (m := 4) (by decide)
      have r5 := HR.out.cell (m := 5) (by decide)
      have r6 := HR.out.cell (m := 6) (by decide)
      have r7 := HR.out.cell (m := 7) (by decide)
      have z0 := HR.out.frozen 0
      have z1 := HR.out.frozen 1
      have z2 := HR.out.frozen 2
      have z3 := HR.out.frozen 3
      have z4 := HR.out.frozen 4
      have z5 := HR.out.frozen 5
      have z6 := HR.out.frozen 6
      have z7 := HR.out.frozen 7
      have hl0 := HR.out.lt
      have hl1 := HCF.out.lt
      go_wp2
      refine bodyPost_ret (v := .agg (crewA (crewF l P))) ?_ rfl ⟨rfl, ?_⟩
      · simp [results, Try.results44, go_sem, crewA, r0, r1, r2, r3, r4, r5, r6, r7]
      · exact blSet (blSet (blSet (blSet (blSet (blSet (blSet (blSet (HB.out) (p := ⟨w.heap.size, 0, none⟩) (Nat.le_refl _) _) (p := ⟨w.heap.size, 1, none⟩) (Nat.le_refl _) _) (p := ⟨w.heap.size, 2, none⟩) (Nat.le_refl _) _) (p := ⟨w.heap.size, 3, none⟩) (Nat.le_refl _) _) (p := ⟨w.heap.size, 4, none⟩) (Nat.le_refl _) _) (p := ⟨w.heap.size, 5, none⟩) (Nat.le_refl _) _) (p := ⟨w.heap.size, 6, none⟩) (Nat.le_refl _) _) (p := ⟨w.heap.size, 7, none⟩) (Nat.le_refl _) _

set_option maxRecDepth 100000 in
set_option maxHeartbeats 1000000 in
theorem rising_any (b : Nat) (f : Nat → Bool) (w : World) (hc : Crew w b f) :
    Calls Try.prog 45 #[.pointer (some ⟨b, 0, none⟩)] w fun e w' => ∃ v, e = .returned v ∧ OwnI w' w.heap.size v (ofTo f 8) ∧ Below w.heap.size w w' := by
  have HC := Lib.hid hc
  clear hc
  go_enter Try.func45, Try.ntmps45
  go_wp2
  go_loopw [3, 7] (fun v i wr => ∃ k : Nat, k ≤ 8 ∧ i = .int .i64 k ∧ OwnI wr w.heap.size v (ofTo f k) ∧ Below w.heap.size w wr) (fun _ i _ => 8 - (intOf i).toNat)
  case atStart => exact ⟨0, Nat.zero_le _, rfl, OwnI.nil _ _, Below.refl _ _⟩
  case round =>
    obtain ⟨k, hk, rfl, ho, hb⟩ := hrel
    obtain ⟨av, cv, rfl⟩ := ho.form
    have HO := Lib.hid ho
    have HB := Lib.hid hb
    by_cases hlt : k < 8
    · have hcr := HC.out.later hb HC.out.lt
      have c0 := hcr.cell hlt
      have hbl := hcr.lt
      have hk0 : (0 : Int) ≤ (k : Int) := by omega
      have hk1 : (k : Int) < 8 := by omega
      have hdk : decide ((k : Int) < 8) = true := decide_eq_true hk1
      have HL := Lib.hid (ofTo_len f k)
      clear ho hb hcr
      cases hf : f k
      · have HX : Hid (ofTo f (k + 1) = ofTo f k) := by show _ = _; rw [ofTo_succ, hf]; simp
        rw [hf] at c0
        go_wp2
        go_quiet (fail)
        go_wp2
        go_roundw
        case rel => exact ⟨k + 1, hlt, by go_num, by rw [HX.out]; exact HO.out.later ⟨rfl, rfl, rfl, Nat.le_refl _, fun _ _ => rfl⟩, HB.out.trans ⟨rfl, rfl, rfl, Nat.le_refl _, fun _ _ => rfl⟩⟩
        case measure => simp [intOf]; omega
      · have HX : Hid (ofTo f (k + 1) = ofTo f k ++ [(k : Int)]) := by show _ = _; rw [ofTo_succ, hf]; simp
        rw [hf] at c0
        go_wp2
        go_quiet (fail)
        have h0 : Below wr.heap.size wr (wr.drewN nq) := ⟨rfl, rfl, rfl, Nat.le_refl _, fun _ _ => rfl⟩
        have HO2 := Lib.hid (HO.out.later h0)
        have HB2 := Lib.hid (HB.out.trans (h0.mono HB.out.size))
        clear h0
        generalize wr.drewN nq = w2 at *
        go_wp2_with (at_builtin; refine append_i rfl _ _ rfl w.heap.size _ (ofTo f k) rfl (HO2.out.later (blAlloc (Below.refl _ _) _)) _ _ _ [(k : Int)] rfl rfl (one_newI _ _ _ rfl) (by have := HL.out; simp; omega) (by have := HB2.out.size; simp; omega) ?_; intro v1 w3 h1 h2; have H1 := Lib.hid h1; have H2 := Lib.hid (grown_belowI (blAlloc HB2.out _) (HO2.out.later (blAlloc (Below.refl _ _) _)) (Nat.le_refl _) (by have := HB2.out.size; simp; omega) h2); clear h1 h2)
        go_roundw
        case rel => exact ⟨k + 1, hlt, by go_num, by rw [HX.out]; exact H1.out, H2.out⟩
        case measure => simp [intOf]; omega
    · obtain rfl : k = 8 := by omega
      clear ho hb
      go_wp2
      go_ret
      exact ⟨_, rfl, HO.out, HB.out⟩

/-- It returns a list of numbers of its own, and leaves older memory as it was. -/
def RetI (w : World) (r : List Int) (e : Ending) (w' : World) : Prop := ∃ v, e = .returned v ∧ OwnI w' w.heap.size v r ∧ Below w.heap.size w w'
set_option maxHeartbeats 1000000 in
theorem nodes_any (a : Option Addr) (c : Nat) (l : List Sh) (ap : Option Addr) (cp : Nat) (P : List Int) (w : World) (hlen : l.length ≤ 1000000) (hlp : P.length ≤ 1000000) (hn5 : ∀ s ∈ l, s.nodes.length ≤ 1000000) (ha : Hl w a l) (hp : Il w ap cp P) :
    Calls Try.prog 31 #[.slice a l.length c, .slice ap P.length cp] w (RetI w (nodesL l P)) := by
  have HA := Lib.hid ha
  have HP := Lib.hid hp
  have HV : Hid (ofTo (crewF l P) 8 = nodesL l P) := rfl
  clear ha hp
  go_enter Try.func31, Try.ntmps31
  go_wp2_with fail
  refine (crewOf_any _ _ l _ _ P _ hlen hlp hn5 HA.out HP.out).mono ?_
  rintro e w1 ⟨rfl, hb⟩
  have HB := Lib.hid hb
  have hcr := crew_new w1 (crewF l P)
  clear hb
  generalize crewF l P = f at *
  have HCR := Lib.hid hcr
  clear hcr
  unfold crewA at *
  go_wp2_with fail
  refine (rising_any _ f _ HCR.out).mono ?_
  rintro e w' ⟨v, rfl, ho, hb⟩
  have HO := Lib.hid (ho.mono (Nat.le_trans HB.out.size (by simp)))
  have HB2 := Lib.hid (blThen (blAlloc HB.out _) hb)
  clear ho hb
  go_wp2
  go_ret
  exact ⟨v, rfl, by rw [← HV.out]; exact HO.out, HB2.out⟩

end Go.Proofs.Ytopogdfmbdbimaa
