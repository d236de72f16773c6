/- Rows of lists of stamps of the call's own; the program's All of Deps. Conditions: at most a thousand Deps, a million stamps in all. -/
import Derived.WalkSpells
import Derived.Test.YtjlkgbejldcklaaGreatMg36
import Derived.Test.YtjlkgbejldcklaaGreatMg23
import Derived.Test.YtjlkgbejldcklaaGreatMg35
import Derived.Test.YtjlkgbejldcklaaGreatMg09
import Derived.Test.YtjlkgbejldcklaaGreatMg33
/- Bytes read as dependencies: what comes of it; such as are the bytes of dependencies, and no others. No program is named but through stage 2's readings. -/
set_option linter.unusedVariables false
namespace Go.Proofs.YtjlkgbejldcklaaGreat
open S1
namespace SD
open Go.RowKit

/-! ### A number's bytes -/
theorem low_cons (n k : Nat) : S2.low n (k + 1) = UInt8.ofNat n :: S2.low (n / 256) k := by
  unfold S2.low
  rw [List.range_succ_eq_map, List.map_cons, List.map_map]
  congr 1
  refine List.map_congr_left fun i _ => ?_
  show UInt8.ofNat (n >>> (8 * (i + 1))) = UInt8.ofNat ((n / 256) >>> (8 * i))
  congr 1
  rw [Nat.mul_add, Nat.add_comm (8 * i), Nat.shiftRight_add, Nat.shiftRight_eq_div_pow n (8 * 1)]
theorem low_leN : ∀ l : List UInt8, S2.low (S2.leN l) l.length = l := by
  intro l
  induction l with
  | nil => rfl
  | cons x r ih =>
    rw [List.length_cons, low_cons]
    have hx : x.toNat < 256 := x.toNat_lt
    have e1 : S2.leN (x :: r) = x.toNat + 256 * S2.leN r := rfl
    have e2 : (x.toNat + 256 * S2.leN r) / 256 = S2.leN r := by omega
    rw [e1, e2, ih]
    congr 1
    have e3 : UInt8.ofNat (x.toNat + 256 * S2.leN r) = UInt8.ofNat x.toNat := by
      apply UInt8.toNat_inj.1
      simp only [UInt8.toNat_ofNat']
      omega
    rw [e3]
    simp
theorem wrap_same (N : Nat) (h : N < 2 ^ 64) : (IntKind.u64.wrap (wrap64 (N : Int))).toNat = N := by
  have e : ∀ n : Int, IntKind.u64.wrap n = n % 18446744073709551616 := fun _ => rfl
  rw [e]
  unfold wrap64
  omega
/-- The bytes of the number that eight bytes say. -/
theorem i8_rd (r : List UInt8) (h : 8 ≤ r.length) : S2.i8 (S2.rd r) = r.take 8 := by
  have hl : (r.take 8).length = 8 := by rw [List.length_take]; omega
  have hlt := S2.leN_lt (r.take 8)
  rw [hl] at hlt
  unfold S2.i8 S2.rd
  rw [wrap_same _ hlt]
  have := low_leN (r.take 8)
  rwa [hl] at this
theorem inv_i {r : List UInt8} (h : 8 ≤ r.length) : S2.i8 (S2.rd r) ++ r.drop 8 = r := by
  rw [i8_rd r h, List.take_append_drop]
theorem st_rdS {r : List UInt8} (h : 16 ≤ r.length) : S2.st (S2.rdS r) = r.take 16 := by
  unfold S2.st S2.rdS
  rw [i8_rd r (by omega), i8_rd (r.drop 8) (by rw [List.length_drop]; omega)]
  rw [← List.take_add]
theorem flat_rdL (r : List UInt8) : ∀ n, 8 + 16 * n ≤ r.length → (S2.rdL r n).flatMap S2.st = (r.drop 8).take (16 * n) := by
  intro n
  induction n with
  | zero => intro _; simp [S2.rdL]
  | succ n ih =>
    intro h
    rw [S2.rdL_succ, List.flatMap_append, ih (by omega)]
    simp only [List.flatMap_cons, List.flatMap_nil, List.append_nil]
    rw [st_rdS (by rw [List.length_drop]; omega)]
    have e : r.drop (8 + 16 * n) = (r.drop 8).drop (16 * n) := by rw [List.drop_drop]
    rw [e, show 16 * (n + 1) = 16 * n + 16 by omega, List.take_add]
theorem inv_l {r : List UInt8} (h : S2.hasL r) : S2.sts (S2.rdL r (S2.rd r).toNat) ++ r.drop (8 + 16 * (S2.rd r).toNat) = r := by
  obtain ⟨h1, h2, h3⟩ := h
  unfold S2.sts
  rw [S2.rdL_length, Int.toNat_of_nonneg h2, flat_rdL r _ (by omega), i8_rd r h1]
  rw [← List.take_add, List.take_append_drop]

/-! ### Read, one behind the other -/
def r1 (r : List UInt8) (bl : Bool) : List UInt8 := S2.behind (S2.okI r bl) 8 r
def one1 (r : List UInt8) (bl : Bool) : Int × List (Int × Int) := (S2.valI r bl, S2.valL (r1 r bl) (!S2.okI r bl))
def rest1 (r : List UInt8) (bl : Bool) : List UInt8 := S2.behind (S2.okL (r1 r bl) (!S2.okI r bl)) (8 + 16 * (S2.rd (r1 r bl)).toNat) (r1 r bl)
def dim1 (r : List UInt8) (bl : Bool) : Bool := !S2.okL (r1 r bl) (!S2.okI r bl)
def manyD : Nat → List UInt8 → Bool → Dd × List UInt8 × Bool
  | 0, r, bl => ([], r, bl)
  | n + 1, r, bl => ((manyD n r bl).1 ++ [one1 (manyD n r bl).2.1 (manyD n r bl).2.2], rest1 (manyD n r bl).2.1 (manyD n r bl).2.2, dim1 (manyD n r bl).2.1 (manyD n r bl).2.2)
theorem behind_ok {ok : Bool} (h : ok = true) (k : Nat) (l : List UInt8) : S2.behind ok k l = l.drop k := by
  subst h
  exact S2.behind_yes k l
theorem valI_yes {r : List UInt8} {bl : Bool} (h : S2.okI r bl = true) : S2.valI r bl = S2.rd r := by unfold S2.valI; rw [if_pos h]
theorem valL_yes {r : List UInt8} {bl : Bool} (h : S2.okL r bl = true) : S2.valL r bl = S2.rdL r (S2.rd r).toNat := by unfold S2.valL; rw [if_pos h]
theorem behind_len (ok : Bool) (k : Nat) (l : List UInt8) : (S2.behind ok k l).length ≤ l.length := by
  unfold S2.behind
  split
  · rw [List.length_drop]; omega
  · exact Nat.le_refl _
theorem r1_len (r : List UInt8) (bl : Bool) : (r1 r bl).length ≤ r.length := behind_len _ _ _
theorem rest1_len (r : List UInt8) (bl : Bool) : (rest1 r bl).length ≤ r.length := Nat.le_trans (behind_len _ _ _) (r1_len r bl)
theorem valL_len (r : List UInt8) (bl : Bool) : (S2.valL r bl).length ≤ r.length := by
  unfold S2.valL
  split
  · rename_i h
    rw [S2.rdL_length]
    unfold S2.okL at h
    simp only [Bool.and_eq_true, decide_eq_true_eq] at h
    obtain ⟨_, _, _, h3⟩ := h
    omega
  · exact Nat.zero_le _
theorem many_len (n : Nat) (r : List UInt8) (bl : Bool) : (manyD n r bl).1.length = n ∧ (manyD n r bl).2.1.length ≤ r.length ∧ ∀ x ∈ (manyD n r bl).1, x.2.length ≤ r.length := by
  induction n with
  | zero => exact ⟨rfl, Nat.le_refl _, fun x hx => by cases hx⟩
  | succ n ih =>
    obtain ⟨h1, h2, h3⟩ := ih
    refine ⟨?_, Nat.le_trans (rest1_len _ _) h2, fun x hx => ?_⟩
    · show ((manyD n r bl).1 ++ [_]).length = _
      rw [List.length_append, h1]
      rfl
    · rcases List.mem_append.1 hx with hx | hx
      · exact h3 x hx
      · rw [List.mem_singleton] at hx
        subst hx
        exact Nat.le_trans (Nat.le_trans (valL_len _ _) (r1_len _ _)) h2
/-- Read with open eyes, the bytes are those of what was read. -/
theorem one_inv {r : List UInt8} {bl : Bool} (h : dim1 r bl = false) : bl = false ∧ lay1 (one1 r bl) ++ rest1 r bl = r := by
  unfold dim1 at h
  simp only [Bool.not_eq_false'] at h
  have h2 := h
  unfold S2.okL at h2
  simp only [Bool.and_eq_true, decide_eq_true_eq, Bool.not_not] at h2
  obtain ⟨hi, hl⟩ := h2
  have hi2 := hi
  unfold S2.okI at hi2
  simp only [Bool.and_eq_true, decide_eq_true_eq, Bool.not_eq_true'] at hi2
  obtain ⟨hb, h8⟩ := hi2
  refine ⟨hb, ?_⟩
  have e1 : r1 r bl = r.drop 8 := behind_ok hi 8 r
  have e2 : rest1 r bl = (r.drop 8).drop (8 + 16 * (S2.rd (r.drop 8)).toNat) := (behind_ok h _ _).trans (by rw [e1])
  have e3 : one1 r bl = (S2.rd r, S2.rdL (r.drop 8) (S2.rd (r.drop 8)).toNat) := by
    unfold one1
    rw [valI_yes hi, valL_yes h, e1]
  rw [e2, e3]
  unfold lay1
  rw [e1] at hl
  rw [List.append_assoc, inv_l hl, inv_i h8]
theorem many_inv (n : Nat) (r : List UInt8) (bl : Bool) (h : (manyD n r bl).2.2 = false) : bl = false ∧ layF (manyD n r bl).1 ++ (manyD n r bl).2.1 = r := by
  induction n with
  | zero => exact ⟨h, by simp [manyD, layF]⟩
  | succ n ih =>
    obtain ⟨h1, h2⟩ := one_inv (r := (manyD n r bl).2.1) (bl := (manyD n r bl).2.2) h
    obtain ⟨h3, h4⟩ := ih h1
    refine ⟨h3, ?_⟩
    have e : layF (manyD (n + 1) r bl).1 = layF (manyD n r bl).1 ++ lay1 (one1 (manyD n r bl).2.1 (manyD n r bl).2.2) := by
      show layF ((manyD n r bl).1 ++ [_]) = _
      unfold layF
      rw [List.flatMap_append]
      simp
    rw [e, List.append_assoc]
    show _ ++ (lay1 _ ++ rest1 _ _) = _
    rw [h2, h4]
/-- What Parse comes to. -/
def parseD (B : List UInt8) : Option Dd :=
  if S2.valI B false < 0 ∨ 8 < S2.valI B false then none
  else if S2.doneN (manyD (S2.valI B false).toNat (r1 B false) (!S2.okI B false)).2.1 (manyD (S2.valI B false).toNat (r1 B false) (!S2.okI B false)).2.2 = 0 ∧ checkD (manyD (S2.valI B false).toNat (r1 B false) (!S2.okI B false)).1 = 0 then some (manyD (S2.valI B false).toNat (r1 B false) (!S2.okI B false)).1 else none
theorem done_zero {l : List UInt8} {bl : Bool} (h : S2.doneN l bl = 0) : bl = false ∧ l = [] := by
  unfold S2.doneN at h
  cases bl
  · cases l with
    | nil => exact ⟨rfl, rfl⟩
    | cons x r => simp at h
  · simp at h
theorem parse_some {B : List UInt8} {d : Dd} (h : parseD B = some d) : layD d = B ∧ checkD d = 0 := by
  unfold parseD at h
  split at h
  · cases h
  · rename_i h0
    split at h
    · rename_i h1
      obtain ⟨h1, h2⟩ := h1
      obtain ⟨h3, h4⟩ := done_zero h1
      obtain ⟨h5, h6⟩ := many_inv _ _ _ h3
      have hl := (many_len (S2.valI B false).toNat (r1 B false) (!S2.okI B false)).1
      have hd := Option.some.inj h
      rw [h4, List.append_nil] at h6
      rw [hd] at h6 hl h2
      refine ⟨?_, h2⟩
      simp only [Bool.not_eq_false'] at h5
      have h7 := h5
      unfold S2.okI at h7
      simp only [Bool.not_false, Bool.true_and, decide_eq_true_eq] at h7
      have e1 : S2.valI B false = S2.rd B := valI_yes h5
      have e2 : r1 B false = B.drop 8 := behind_ok h5 8 B
      unfold layD
      rw [h6, e2, hl, e1]
      rw [e1] at h0
      rw [Int.toNat_of_nonneg (by omega), inv_i h7]
    · cases h
/-- Dependencies that may be, laid: read they are themselves. -/
theorem one_front {x : Int × List (Int × Int)} (h1 : (Lit.int .i64 x.1).wf = true) (h2 : ∀ s ∈ x.2, (Lit.int .i64 s.1).wf = true ∧ (Lit.int .i64 s.2).wf = true) (h3 : x.2.length ≤ 1250) (R : List UInt8) :
    one1 (lay1 x ++ R) false = x ∧ rest1 (lay1 x ++ R) false = R ∧ dim1 (lay1 x ++ R) false = false := by
  have ea : lay1 x ++ R = S2.i8 x.1 ++ (S2.sts x.2 ++ R) := by unfold lay1; rw [List.append_assoc]
  obtain ⟨a1, a2, a3⟩ := S2.read_i x.1 h1 (S2.sts x.2 ++ R)
  obtain ⟨b1, b2, b3⟩ := S2.read_l x.2 h2 h3 R
  have e1 : r1 (lay1 x ++ R) false = S2.sts x.2 ++ R := by unfold r1; rw [ea, a1]; exact a3
  refine ⟨?_, ?_, ?_⟩
  · unfold one1
    rw [e1, ea, a1, a2]
    show (x.1, S2.valL _ false) = x
    rw [b2]
  · unfold rest1
    rw [e1, ea, a1]
    show S2.behind (S2.okL _ false) _ _ = R
    rw [b1]
    exact b3
  · unfold dim1
    rw [e1, ea, a1]
    show (!S2.okL _ false) = false
    rw [b1]
    rfl
theorem many_cons (n : Nat) (r : List UInt8) (bl : Bool) : manyD (n + 1) r bl = (one1 r bl :: (manyD n (rest1 r bl) (dim1 r bl)).1, (manyD n (rest1 r bl) (dim1 r bl)).2) := by
  induction n with
  | zero => rfl
  | succ n ih =>
    show (((manyD (n + 1) r bl).1 ++ [one1 (manyD (n + 1) r bl).2.1 (manyD (n + 1) r bl).2.2], rest1 (manyD (n + 1) r bl).2.1 (manyD (n + 1) r bl).2.2, dim1 (manyD (n + 1) r bl).2.1 (manyD (n + 1) r bl).2.2) : Dd × List UInt8 × Bool) = _
    rw [ih]
    rfl
theorem many_front : ∀ {d : Dd}, (∀ x ∈ d, (Lit.int .i64 x.1).wf = true ∧ (∀ s ∈ x.2, (Lit.int .i64 s.1).wf = true ∧ (Lit.int .i64 s.2).wf = true) ∧ x.2.length ≤ 1250) → ∀ R, manyD d.length (layF d ++ R) false = (d, R, false) := by
  intro d
  induction d with
  | nil => intro _ R; simp [manyD, layF]
  | cons x r ih =>
    intro h R
    obtain ⟨h1, h2, h3⟩ := h x (by simp)
    have e : layF (x :: r) ++ R = lay1 x ++ (layF r ++ R) := by unfold layF; rw [List.flatMap_cons, List.append_assoc]
    obtain ⟨a1, a2, a3⟩ := one_front h1 h2 h3 (layF r ++ R)
    rw [List.length_cons, many_cons, e, a1, a2, a3, ih (fun y hy => h y (by simp [hy])) R]
theorem wf_small {n : Int} (h1 : -1000 ≤ n) (h2 : n ≤ 2000000000000) : (Lit.int .i64 n).wf = true := by
  simp only [Lit.wf, Bool.and_eq_true, decide_eq_true_eq]
  have e1 : IntKind.i64.min = -9223372036854775808 := rfl
  have e2 : IntKind.i64.max = 9223372036854775807 := rfl
  rw [e1, e2]
  omega
theorem check_wf {d : Dd} (h : checkD d = 0) : ∀ x ∈ d, (Lit.int .i64 x.1).wf = true ∧ (∀ s ∈ x.2, (Lit.int .i64 s.1).wf = true ∧ (Lit.int .i64 s.2).wf = true) ∧ x.2.length ≤ 1250 := by
  obtain ⟨h1, h2, h3⟩ := checkD_ok.1 h
  obtain ⟨⟨h4, _⟩, h5⟩ := depsF_facts h3
  intro x hx
  obtain ⟨h6, _, h7⟩ := h5 x hx
  have := h4 x hx
  have hn := idsN_mem hx
  refine ⟨wf_small (by omega) (by omega), fun s hs => ?_, by omega⟩
  have hi := h7 s hs
  unfold isS at hi
  simp only [decide_eq_true_eq] at hi
  exact ⟨wf_small (by omega) (by omega), wf_small (by omega) (by omega)⟩
theorem parse_front {d : Dd} (h : checkD d = 0) (R : List UInt8) : parseD (layD d ++ R) = if R = [] then some d else none := by
  obtain ⟨h1, h2, h3⟩ := checkD_ok.1 h
  have ea : layD d ++ R = S2.i8 (d.length : Int) ++ (layF d ++ R) := by unfold layD; rw [List.append_assoc]
  obtain ⟨a1, a2, a3⟩ := S2.read_i (d.length : Int) (wf_small (by omega) (by omega)) (layF d ++ R)
  have e1 : r1 (layD d ++ R) false = layF d ++ R := by unfold r1; rw [ea, a1]; exact a3
  unfold parseD
  rw [e1, ea, a1, a2, if_neg (by omega), Int.toNat_natCast]
  show (if S2.doneN (manyD d.length (layF d ++ R) false).2.1 (manyD d.length (layF d ++ R) false).2.2 = 0 ∧ checkD (manyD d.length (layF d ++ R) false).1 = 0 then some (manyD d.length (layF d ++ R) false).1 else none) = _
  rw [many_front (check_wf h) R]
  by_cases hR : R = []
  · subst hR
    rw [if_pos ⟨rfl, h⟩, if_pos rfl]
  · rw [if_neg hR, if_neg]
    rintro ⟨e, _⟩
    exact hR (done_zero e).2

end SD
end Go.Proofs.YtjlkgbejldcklaaGreat

/- The program's Equal of stamps, Same of Deps; whether a shard may be, whether stamps are a list; how many stamps there are. Conditions: lists of at most a million. -/
set_option linter.unusedVariables false
namespace Go.Proofs.YtjlkgbejldcklaaGreat
open S1
namespace SD
open Go.RowKit

set_option maxRecDepth 100000 in
set_option maxHeartbeats 1000000 in
theorem equalS_any (a a' : Option Addr) (cap cap' : Nat) (l m : List (Int × Int)) (w : World) (hlen : l.length ≤ 1000000) (hl : SL w a l) (hm : SL w a' m) :
    Calls Tryz.prog 129 #[.slice a l.length cap, .slice a' m.length cap'] w fun e w' => e = .returned (.bool (decide (l = m))) ∧ Below w.heap.size w w' := by
  have HL := Lib.hid hl
  have HM := Lib.hid hm
  clear hl hm
  by_cases hle : l.length = m.length
  · rw [← hle]
    have HLE := Lib.hid hle
    clear hle
    go_enter Tryz.func129, Tryz.ntmps129
    go_wp2
    go_loopw [13] (fun i wr => ∃ k : Nat, k ≤ l.length ∧ i = .int .i64 k ∧ l.take k = m.take k ∧ Below w.heap.size w wr) (fun i _ => l.length - (intOf i).toNat)
    case atStart => exact ⟨0, Nat.zero_le _, rfl, rfl, Below.refl _ _⟩
    case round =>
      obtain ⟨k, hk, rfl, htk, hbel⟩ := hrel
      have HB := Lib.hid hbel
      have HTK := Lib.hid htk
      clear htk
      by_cases hlt : k < l.length
      · obtain ⟨x, y, hxy⟩ := at_ltS hlt
        obtain ⟨u, v, huv⟩ := at_ltS (l := m) (k := k) (by rw [← HLE.out]; exact hlt)
        obtain ⟨b, o, rfl, hb, hl⟩ := HL.out (by rintro rfl; simp at hlt)
        obtain ⟨b', o', rfl, hb', hl'⟩ := HM.out (by rintro rfl; simp at huv)
        obtain ⟨hx, hy⟩ := hl.later hb HB.out k x y hxy
        obtain ⟨hx', hy'⟩ := hl'.later hb' HB.out k u v huv
        have hbw : b < wr.heap.size := Nat.lt_of_lt_of_le hb HB.out.size
        have hbw' : b' < wr.heap.size := Nat.lt_of_lt_of_le hb' HB.out.size
        have hk1 : (k : Int) < (l.length : Int) := by omega
        have hkm : (k : Int) < (m.length : Int) := by have := HLE.out; omega
        have HXY := Lib.hid hxy
        have HUV := Lib.hid huv
        clear hl hl' hxy huv hbel
        by_cases h1 : x = u
        · subst h1
          by_cases h2 : y = v
          · subst h2
            go_wp2_with fail
            refine region_aft (by kernel_rfl) (by kernel_rfl) ?_
            repeat (go_big_quiet_step (fail))
            refine wpQuiet_nil ?_
            rintro w2 ⟨z, rfl⟩
            go_wp2
            go_roundw
            case rel => exact ⟨k + 1, hlt, by go_num, take_eqS HTK.out HXY.out HUV.out, blThen HB.out z.h⟩
            case measure => simp [intOf]; omega
          · have hb2 : ((y == v) = false) := by simpa using h2
            have HNE : Hid (decide (l = m) = false) := decide_eq_false fun e => by
              have h := HXY.out
              rw [e, HUV.out] at h
              simp only [Option.some.injEq, Prod.mk.injEq] at h
              exact h2 h.2.symm
            go_wp2_with fail
            refine region_aft (by kernel_rfl) (by kernel_rfl) ?_
            repeat (go_big_quiet_step (fail))
            refine wpQuiet_nil ?_
            rintro w2 ⟨z, rfl⟩
            go_wp2
            go_ret
            exact ⟨by rw [HNE.out]; rfl, blThen HB.out z.h⟩
        · have hb1 : ((x == u) = false) := by simpa using h1
          have HNE : Hid (decide (l = m) = false) := decide_eq_false fun e => by
            have h := HXY.out
            rw [e, HUV.out] at h
            simp only [Option.some.injEq, Prod.mk.injEq] at h
            exact h1 h.1.symm
          go_wp2_with fail
          refine region_aft (by kernel_rfl) (by kernel_rfl) ?_
          repeat (go_big_quiet_step (fail))
          refine wpQuiet_nil ?_
          rintro w2 ⟨z, rfl⟩
          go_wp2
          go_ret
          exact ⟨by rw [HNE.out]; rfl, blThen HB.out z.h⟩
      · have hge : ¬ (k : Int) < (l.length : Int) := by omega
        have HEQ : Hid (decide (l = m) = true) := decide_eq_true (by
          have h := HTK.out
          rwa [List.take_of_length_le (by omega), List.take_of_length_le (by have := HLE.out; omega)] at h)
        go_wp2
        go_ret
        exact ⟨by rw [HEQ.out]; rfl, HB.out⟩
  · have hne : ¬ (l.length : Int) = (m.length : Int) := by omega
    have HNE : Hid (decide (l = m) = false) := decide_eq_false fun e => hle (by rw [e])
    clear hle
    go_enter Tryz.func129, Tryz.ntmps129
    go_wp2
    go_ret
    exact ⟨by rw [HNE.out]; rfl, Below.refl _ _⟩

theorem ids_cases (s t : Dp) : (s.d = t.d) ↔ (s.sh = t.sh ∧ s.ids = t.ids) := by simp [Dp.d]
set_option maxRecDepth 100000 in
set_option maxHeartbeats 1000000 in
theorem same1_any (s t : Dp) (w : World) (hn : s.ids.length ≤ 1000000) (hs : IdsAt w s) (ht : IdsAt w t) :
    Calls Tryz.prog 128 #[.agg #[.int .i64 s.sh, .slice s.ia s.ids.length s.ic], .agg #[.int .i64 t.sh, .slice t.ia t.ids.length t.ic]] w fun e w' => e = .returned (.bool (decide (s.d = t.d))) ∧ Below w.heap.size w w' := by
  have HS := Lib.hid hs
  have HT := Lib.hid ht
  clear hs ht
  by_cases h1 : s.sh = t.sh
  · rw [← h1]
    have HV : Hid (decide (s.ids = t.ids) = decide (s.d = t.d)) := by
      show _ = _
      rw [decide_eq_decide, ids_cases]
      exact ⟨fun h => ⟨h1, h⟩, fun h => h.2⟩
    clear h1
    go_enter Tryz.func128, Tryz.ntmps128
    go_wp2_with (go_at_call 129; refine (equalS_any _ _ _ _ s.ids t.ids _ hn (HS.out.1.later (by repeat (first | with_reducible exact Below.refl _ _ | with_reducible refine blAlloc ?_ _))) (HT.out.1.later (by repeat (first | with_reducible exact Below.refl _ _ | with_reducible refine blAlloc ?_ _)))).mono ?_; rintro e w6 ⟨rfl, h5⟩; have HB : Hid (Below w.heap.size w w6) := blThen (by repeat (first | with_reducible exact Below.refl _ _ | with_reducible refine blAlloc ?_ _)) h5; clear h5)
    go_ret
    exact ⟨by rw [← HV.out]; rfl, HB.out⟩
  · have hb1 : ((s.sh == t.sh) = false) := by simpa using h1
    have HV : Hid (decide (s.d = t.d) = false) := decide_eq_false fun h => h1 ((ids_cases _ _).1 h).1
    clear h1
    go_enter Tryz.func128, Tryz.ntmps128
    go_wp2
    go_ret
    exact ⟨by rw [HV.out]; rfl, by repeat (first | with_reducible exact Below.refl _ _ | with_reducible refine blAlloc ?_ _)⟩

set_option maxRecDepth 100000 in
set_option maxHeartbeats 2000000 in
theorem equalF_any (a a' : Option Addr) (c c' : Nat) (l m : List Dp) (w : World) (hf : FewD l) (hl : Dl w a l) (hm : Dl w a' m) :
    Calls Tryz.prog 127 #[.slice a l.length c, .slice a' m.length c', .func (.func 128) #[] #[]] w fun e w' => e = .returned (.bool (decide (toD l = toD m))) ∧ Below w.heap.size w w' := by
  have HL := Lib.hid hl
  have HM := Lib.hid hm
  have HF := Lib.hid hf
  have hlen := hf.1
  clear hl hm hf
  by_cases hle : l.length = m.length
  · rw [← hle]
    have HLE := Lib.hid hle
    clear hle
    go_enter Tryz.func127, Tryz.ntmps127
    go_wp2
    go_loopw [17] (fun i wr => ∃ k : Nat, k ≤ l.length ∧ i = .int .i64 k ∧ (toD l).take k = (toD m).take k ∧ Below w.heap.size w wr) (fun i _ => l.length - (intOf i).toNat)
    case atStart => exact ⟨0, Nat.zero_le _, rfl, rfl, Below.refl _ _⟩
    case round =>
      obtain ⟨k, hk, rfl, htk, hbel⟩ := hrel
      have HB := Lib.hid hbel
      have HTK := Lib.hid htk
      clear htk
      by_cases hlt : k < l.length
      · obtain ⟨s, hs⟩ := at_ltD hlt
        obtain ⟨t, ht⟩ := at_ltD (l := m) (k := k) (by rw [← HLE.out]; exact hlt)
        obtain ⟨b, o, rfl, hb, hx, hy, hi⟩ := (HL.out.later HB.out).at hs
        obtain ⟨b', o', rfl, hb', hx', hy', hi'⟩ := (HM.out.later HB.out).at ht
        have hk1 : (k : Int) < (l.length : Int) := by omega
        have hkm : (k : Int) < (m.length : Int) := by have := HLE.out; omega
        have hk0 : (0 : Int) ≤ (k : Int) := by omega
        have HXY := Lib.hid (toD_at hs)
        have HUV := Lib.hid (toD_at ht)
        have HI := Lib.hid hi
        have HI' := Lib.hid hi'
        have HSN := Lib.hid (HF.out.2 s (List.mem_of_getElem? hs))
        unfold ilD at hy hy'
        clear hs ht hbel hi hi'
        generalize hq : decide (s.d = t.d) = q
        have HQ := Lib.hid hq
        clear hq
        cases q
        · have HNE : Hid (decide (toD l = toD m) = false) := decide_eq_false fun e => by
            have h := HXY.out
            rw [e, HUV.out] at h
            simp only [Option.some.injEq] at h
            exact (of_decide_eq_false HQ.out) h.symm
          go_wp2_with (go_at_call 128; refine (same1_any s t _ HSN.out (HI.out.later (by repeat (first | with_reducible exact Below.refl _ _ | with_reducible refine blAlloc ?_ _))) (HI'.out.later (by repeat (first | with_reducible exact Below.refl _ _ | with_reducible refine blAlloc ?_ _)))).mono ?_; rintro e w6 ⟨h1, h5⟩; rw [HQ.out] at h1; subst h1; have HB6 : Hid (Below wr.heap.size wr w6) := blThen (by repeat (first | with_reducible exact Below.refl _ _ | with_reducible refine blAlloc ?_ _)) h5; clear h5)
          go_ret
          exact ⟨by rw [HNE.out]; rfl, blThen HB.out HB6.out⟩
        · have HEQ := Lib.hid (of_decide_eq_true HQ.out)
          go_wp2_with (go_at_call 128; refine (same1_any s t _ HSN.out (HI.out.later (by repeat (first | with_reducible exact Below.refl _ _ | with_reducible refine blAlloc ?_ _))) (HI'.out.later (by repeat (first | with_reducible exact Below.refl _ _ | with_reducible refine blAlloc ?_ _)))).mono ?_; rintro e w6 ⟨h1, h5⟩; rw [HQ.out] at h1; subst h1; have HB6 : Hid (Below wr.heap.size wr w6) := blThen (by repeat (first | with_reducible exact Below.refl _ _ | with_reducible refine blAlloc ?_ _)) h5; clear h5)
          go_roundw
          case rel => exact ⟨k + 1, hlt, by go_num, take_eqS HTK.out HXY.out (by rw [HUV.out]; exact congrArg some HEQ.out.symm), blThen HB.out HB6.out⟩
          case measure => simp [intOf]; omega
      · have hge : ¬ (k : Int) < (l.length : Int) := by omega
        have HEQ : Hid (decide (toD l = toD m) = true) := decide_eq_true (by
          have h := HTK.out
          rwa [List.take_of_length_le (by rw [toD_length]; omega), List.take_of_length_le (by rw [toD_length]; have := HLE.out; omega)] at h)
        go_wp2
        go_ret
        exact ⟨by rw [HEQ.out]; rfl, HB.out⟩
  · have hne : ¬ (l.length : Int) = (m.length : Int) := by omega
    have HNE : Hid (decide (toD l = toD m) = false) := decide_eq_false fun e => hle (by have := congrArg List.length e; rwa [toD_length, toD_length] at this)
    clear hle
    go_enter Tryz.func127, Tryz.ntmps127
    go_wp2
    go_ret
    exact ⟨by rw [HNE.out]; rfl, Below.refl _ _⟩
set_option maxRecDepth 100000 in
set_option maxHeartbeats 1000000 in
theorem same_any (a a' : Option Addr) (c c' : Nat) (l m : List Dp) (w : World) (hf : FewD l) (hl : Dl w a l) (hm : Dl w a' m) :
    Calls Tryz.prog 39 #[.slice a l.length c, .slice a' m.length c'] w fun e w' => e = .returned (.bool (decide (toD l = toD m))) ∧ Below w.heap.size w w' := by
  have HL := Lib.hid hl
  have HM := Lib.hid hm
  have HF := Lib.hid hf
  clear hl hm hf
  go_enter Tryz.func39, Tryz.ntmps39
  go_wp2_with (go_at_call 127; refine (equalF_any _ _ _ _ l m _ HF.out HL.out HM.out).mono ?_; rintro e w6 ⟨rfl, h5⟩; have HB := Lib.hid h5; clear h5)
  go_ret
  exact ⟨rfl, HB.out⟩

end SD
end Go.Proofs.YtjlkgbejldcklaaGreat

/- The program's Check of Deps. Conditions: lists of at most a million, with a million stamps in all. -/
set_option linter.unusedVariables false
namespace Go.Proofs.YtjlkgbejldcklaaGreat
open S1
namespace SD
open Go.RowKit

def shardB (n : Int) : Bool := decide (0 ≤ n ∧ n < 8)
set_option maxHeartbeats 400000 in
theorem isShard_any (n : Int) (w : World) : Calls Tryz.prog 102 #[.int .i64 n] w fun e w' => e = .returned (.bool (shardB n)) ∧ w = w' := by
  by_cases h1 : 0 ≤ n
  · have hd1 : decide (0 ≤ n) = true := decide_eq_true h1
    by_cases h2 : n < 8
    · have hd2 : decide (n < 8) = true := decide_eq_true h2
      have HV : Hid (shardB n = true) := decide_eq_true ⟨h1, h2⟩
      rw [HV.out]
      go_enter Tryz.func102, Tryz.ntmps102
      go_wp2
      go_ret
      exact ⟨rfl, rfl⟩
    · have hd2 : decide (n < 8) = false := decide_eq_false h2
      have HV : Hid (shardB n = false) := decide_eq_false fun h => h2 h.2
      rw [HV.out]
      go_enter Tryz.func102, Tryz.ntmps102
      go_wp2
      go_ret
      exact ⟨rfl, rfl⟩
  · have hd1 : decide (0 ≤ n) = false := decide_eq_false h1
    have HV : Hid (shardB n = false) := decide_eq_false fun h => h1 h.1
    rw [HV.out]
    go_enter Tryz.func102, Tryz.ntmps102
    go_wp2
    go_ret
    exact ⟨rfl, rfl⟩

set_option maxRecDepth 100000 in
set_option maxHeartbeats 1000000 in
theorem countIds_any (a : Option Addr) (c : Nat) (l : List Dp) (w : World) (hf : FewD l) (hn : idsN (toD l) ≤ 1000000) (hl : Dl w a l) :
    Calls Tryz.prog 101 #[.slice a l.length c] w fun e w' => e = .returned (.int .i64 (idsN (toD l) : Nat)) ∧ Below w.heap.size w w' := by
  have HL := Lib.hid hl
  have HF := Lib.hid hf
  have HNN := Lib.hid hn
  have hlen := hf.1
  clear hl hf
  go_enter Tryz.func101, Tryz.ntmps101
  go_wp2
  go_loopw [3, 8] (fun v i wr => ∃ k : Nat, k ≤ l.length ∧ v = .int .i64 (idsN ((toD l).take k) : Nat) ∧ i = .int .i64 k ∧ Below w.heap.size w wr) (fun _ i _ => l.length - (intOf i).toNat)
  case atStart => exact ⟨0, Nat.zero_le _, rfl, rfl, Below.refl _ _⟩
  case round =>
    obtain ⟨k, hk, rfl, rfl, hb⟩ := hrel
    have HB := Lib.hid hb
    clear hb
    by_cases hlt : k < l.length
    · obtain ⟨s, hs⟩ := at_ltD hlt
      obtain ⟨b, o, rfl, hbg, hx, hy, hi⟩ := (HL.out.later HB.out).at hs
      have hk1 : (k : Int) < (l.length : Int) := by omega
      have hk0 : (0 : Int) ≤ (k : Int) := by omega
      have hdk : decide ((k : Int) < (l.length : Int)) = true := decide_eq_true hk1
      have HFT := Lib.hid (idsN_take (toD_at hs))
      have hsl : s.ids.length ≤ 1000000 := HF.out.2 s (List.mem_of_getElem? hs)
      have hnk : idsN ((toD l).take k) ≤ 1000000 := Nat.le_trans (idsN_take_le _ _) HNN.out
      unfold ilD at hy
      clear hs hi
      generalize hG : idsN ((toD l).take k) = G at *
      clear hG
      go_wp2
      go_roundw
      case rel => exact ⟨k + 1, hlt, by rw [HFT.out]; go_num, by go_num, by repeat (first | with_reducible exact HB.out | with_reducible refine blAlloc ?_ _)⟩
      case measure => simp [intOf]; omega
    · have hge : ¬ (k : Int) < (l.length : Int) := by omega
      have hdk : decide ((k : Int) < (l.length : Int)) = false := decide_eq_false hge
      have HTK : Hid (idsN ((toD l).take k) = idsN (toD l)) := by
        show _ = _
        rw [List.take_of_length_le (by rw [toD_length]; omega)]
      go_wp2
      go_ret
      exact ⟨by rw [HTK.out]; rfl, HB.out⟩

/-- Whether stamps are a list. -/
def listB (l : List (Int × Int)) : Bool := risB l && l.all isS
theorem listB_bad1 {l : List (Int × Int)} {j : Nat} {x : Int × Int} (h : l[j]? = some x) (hx : isS x = false) : listB l = false := by
  unfold listB
  rw [show l.all isS = false from List.all_eq_false.2 ⟨x, List.mem_of_getElem? h, by rw [hx]; simp⟩]
  simp
theorem listB_bad2 {l : List (Int × Int)} (h : risB l = false) : listB l = false := by
  unfold listB
  rw [h]
  rfl
set_option maxRecDepth 100000 in
set_option maxHeartbeats 2000000 in
theorem isList_any (a : Option Addr) (cap : Nat) (l : List (Int × Int)) (w : World) (hlen : l.length ≤ 1000000) (hl : SL w a l) :
    Calls Tryz.prog 103 #[.slice a l.length cap] w fun e w' => e = .returned (.bool (listB l)) ∧ Below w.heap.size w w' := by
  have HL := Lib.hid hl
  clear hl
  generalize hv : listB l = v
  have HV := Lib.hid hv
  clear hv
  go_enter Tryz.func103, Tryz.ntmps103
  go_wp2
  go_loopw [7] (fun i wr => ∃ k : Nat, k ≤ l.length ∧ i = .int .i64 k ∧ risB (l.take k) = true ∧ (l.take k).all isS = true ∧ Below w.heap.size w wr) (fun i _ => l.length - (intOf i).toNat)
  case atStart => exact ⟨0, Nat.zero_le _, rfl, rfl, rfl, Below.refl _ _⟩
  case round =>
    obtain ⟨k, hk, rfl, hr, ha, hb⟩ := hrel
    have HB := Lib.hid hb
    have HR := Lib.hid hr
    have HA := Lib.hid ha
    clear hb hr ha
    by_cases hlt : k < l.length
    · obtain ⟨x, y, hxy⟩ := at_ltS hlt
      obtain ⟨b, o, rfl, hbl, hl⟩ := HL.out (by rintro rfl; simp at hlt)
      obtain ⟨c0, c1⟩ := hl.later hbl HB.out k x y hxy
      have hbw : b < wr.heap.size := Nat.lt_of_lt_of_le hbl HB.out.size
      have hk1 : (k : Int) < (l.length : Int) := by omega
      have hk0 : (0 : Int) ≤ (k : Int) := by omega
      have hdk : decide ((k : Int) < (l.length : Int)) = true := decide_eq_true hk1
      have HXY := Lib.hid hxy
      have HLL := Lib.hid (hl.later hbl HB.out)
      have HAT := Lib.hid (all_take hxy HA.out)
      clear hxy hl hbl
      generalize hq : isS (x, y) = q at *
      have HQ := Lib.hid hq
      clear hq
      cases q
      · have HF := Lib.hid (listB_bad1 HXY.out HQ.out)
        have HCK : Hid (checkS (x, y) = 10) := by unfold Hid checkS; rw [HQ.out]; rfl
        go_wp2_with fail
        refine region_aft (by kernel_rfl) (by kernel_rfl) ?_
        repeat (go_big_quiet_step (first | (go_at_call 157; exact aft_grown ((check_any x y _).mono fun e w' h => by rw [HCK.out] at h; exact h))))
        refine wpQuiet_nil ?_
        rintro w2 ⟨z, rfl⟩
        have HB2 : Hid (Below w.heap.size w z.x) := blThen (by repeat (first | with_reducible exact HB.out | with_reducible refine blAlloc ?_ _)) z.h
        go_wp2
        go_ret
        exact ⟨ret_bool (HF.out.symm.trans HV.out), HB2.out⟩
      · have HCK : Hid (checkS (x, y) = 0) := by unfold Hid checkS; rw [HQ.out]; rfl
        cases k with
        | zero =>
          simp only [Nat.zero_mul, Nat.add_zero] at c0 c1
          go_wp2_with fail
          refine region_aft (by kernel_rfl) (by kernel_rfl) ?_
          repeat (go_big_quiet_step (first | (go_at_call 157; exact aft_grown ((check_any x y _).mono fun e w' h => by rw [HCK.out] at h; exact h))))
          refine wpQuiet_nil ?_
          rintro w2 ⟨z, rfl⟩
          have HB2 : Hid (Below w.heap.size w z.x) := blThen (by repeat (first | with_reducible exact HB.out | with_reducible refine blAlloc ?_ _)) z.h
          go_wp2
          go_roundw
          case rel => exact ⟨1, hlt, by go_num, risB_one l, HAT.out, HB2.out⟩
          case measure => simp [intOf]; omega
        | succ j =>
          obtain ⟨u, v2, huv⟩ := at_ltS (l := l) (k := j) (by omega)
          obtain ⟨d0, d1⟩ := HLL.out j u v2 huv
          have ecast : ((j + 1 : Nat) : Int) = (j : Int) + 1 := rfl
          have hdz : decide ((0 : Int) < (j : Int) + 1) = true := decide_eq_true (by omega)
          have hj0 : (0 : Int) ≤ (j : Int) := by omega
          have hj1 : (j : Int) < (l.length : Int) := by omega
          rw [ecast] at hk1 hk0 hdk ⊢
          have HST := Lib.hid (risB_step huv HXY.out HR.out)
          clear huv
          have hcs := cmpS_eq u v2 x y
          rcases hcs with ⟨hc, hlq, _⟩ | ⟨hc, he1, he2⟩ | ⟨hc, _, hlq⟩
          · have HC := Lib.hid hc
            have HN := Lib.hid (HST.out.1 hlq)
            clear hc hlq
            go_wp2_with fail
            refine region_aft (by kernel_rfl) (by kernel_rfl) ?_
            repeat (go_big_quiet_step (first | (go_at_call 157; exact aft_grown ((check_any x y _).mono fun e w' h => by rw [HCK.out] at h; exact h)) | (go_at_call 185; exact aft_of ((compare_any u v2 x y _).mono fun e w' h => by rw [HC.out] at h; exact h))))
            refine wpQuiet_nil ?_
            rintro w2 ⟨z, rfl⟩
            have HB2 : Hid (Below w.heap.size w z.x) := blThen (by repeat (first | with_reducible exact HB.out | with_reducible refine blAlloc ?_ _)) z.h
            go_wp2
            go_roundw
            case rel => exact ⟨j + 1 + 1, hlt, by go_num, HN.out, HAT.out, HB2.out⟩
            case measure => simp [intOf]; omega
          · have HC := Lib.hid hc
            have HF := Lib.hid (listB_bad2 (HST.out.2 (by rw [he1, he2]; exact ltS_irrefl _)))
            clear hc he1 he2
            go_wp2_with fail
            refine region_aft (by kernel_rfl) (by kernel_rfl) ?_
            repeat (go_big_quiet_step (first | (go_at_call 157; exact aft_grown ((check_any x y _).mono fun e w' h => by rw [HCK.out] at h; exact h)) | (go_at_call 185; exact aft_of ((compare_any u v2 x y _).mono fun e w' h => by rw [HC.out] at h; exact h))))
            refine wpQuiet_nil ?_
            rintro w2 ⟨z, rfl⟩
            have HB2 : Hid (Below w.heap.size w z.x) := blThen (by repeat (first | with_reducible exact HB.out | with_reducible refine blAlloc ?_ _)) z.h
            go_wp2
            go_ret
            exact ⟨ret_bool (HF.out.symm.trans HV.out), HB2.out⟩
          · have HC := Lib.hid hc
            have HF := Lib.hid (listB_bad2 (HST.out.2 hlq))
            clear hc hlq
            go_wp2_with fail
            refine region_aft (by kernel_rfl) (by kernel_rfl) ?_
            repeat (go_big_quiet_step (first | (go_at_call 157; exact aft_grown ((check_any x y _).mono fun e w' h => by rw [HCK.out] at h; exact h)) | (go_at_call 185; exact aft_of ((compare_any u v2 x y _).mono fun e w' h => by rw [HC.out] at h; exact h))))
            refine wpQuiet_nil ?_
            rintro w2 ⟨z, rfl⟩
            have HB2 : Hid (Below w.heap.size w z.x) := blThen (by repeat (first | with_reducible exact HB.out | with_reducible refine blAlloc ?_ _)) z.h
            go_wp2
            go_ret
            exact ⟨ret_bool (HF.out.symm.trans HV.out), HB2.out⟩
    · have hge : ¬ (k : Int) < (l.length : Int) := by omega
      have hdk : decide ((k : Int) < (l.length : Int)) = false := decide_eq_false hge
      have HF : Hid (listB l = true) := by
        have h := HR.out
        have h2 := HA.out
        rw [List.take_of_length_le (by omega)] at h h2
        show _ = _
        unfold listB
        rw [h, h2]
        rfl
      go_wp2
      go_ret
      exact ⟨ret_bool (HF.out.symm.trans HV.out), HB.out⟩

end SD
end Go.Proofs.YtjlkgbejldcklaaGreat

/- stamp.Merge of lists that lie anywhere in a row; slices.Clone of stamps. Conditions: a thousand lists at most, a million stamps in all. -/
set_option linter.unusedVariables false
namespace Go.Proofs.YtjlkgbejldcklaaGreat
open S1
namespace SD
open Go.RowKit
open Go.Sort (grow)

set_option maxRecDepth 100000 in
set_option maxHeartbeats 1000000 in
theorem mergeM_any (b o cp : Nat) (ls : List LRow) (w : World) (h2 : 2 ≤ ls.length) (hcp : ls.length ≤ cp) (hb : b < w.heap.size) (hls : ls.length ≤ 1000) (hlen : (allL ls).length ≤ 1000000) (hL : LL w b o ls) :
    Calls Tryz.prog 111 #[.slice (some ⟨b, o, none⟩) ls.length cp] w (RetC w (sortL (allL ls))) := by
  have HL := Lib.hid hL
  have hcpI : (ls.length : Int) ≤ (cp : Int) := by omega
  have hcp1 : (1 : Int) ≤ (cp : Int) := by omega
  have hcpn : ¬ cp = 1 := by omega
  have hcp2 : 1 < cp := by omega
  have HLEN := Lib.hid hlen
  have hpos : 0 < ls.length := by omega
  have hposI : (0 : Int) < (ls.length : Int) := by omega
  have hz : ((ls.length : Int) == 0) = false := by simp; intro h; simp [h] at h2
  have hn1 : ¬ ls.length = 1 := by omega
  obtain ⟨a0, l0, c0, h0⟩ := row_at hpos
  have H0 := Lib.hid h0
  obtain ⟨g0, hs0, hn0, hc0⟩ := hL 0 a0 l0 c0 h0
  simp only [Nat.add_zero] at g0
  have hc0I : (l0.length : Int) ≤ (c0 : Int) := by omega
  have HS0 := Lib.hid hs0
  have HN0 := Lib.hid hn0
  clear hL hlen h0 hs0 hn0
  go_enter Tryz.func111, Tryz.ntmps111
  go_wp2_with fail
  refine region_aft (by kernel_rfl) (by kernel_rfl) ?_
  repeat (go_big_quiet_step (fail))
  refine wpQuiet_nil ?_
  rintro w2 ⟨z, rfl⟩
  go_wp2_with fail
  obtain ⟨m, hm⟩ : ∃ m, ls.length - 1 = m := ⟨_, rfl⟩
  rw [hm]
  have HM : Hid (ls.length = m + 1) := by show ls.length = m + 1; omega
  have hB0 : Below w.heap.size w z.x := z.h
  generalize z.x = w1 at hB0 ⊢
  have HB0 := Lib.hid hB0
  clear hB0 hm z
  go_loopw [24, 3, 5] (fun i v _ wr => ∃ k : Nat, k ≤ m ∧ i = .int .i64 k ∧ Below w.heap.size w wr ∧ CapL wr w.heap.size v (allL (ls.take (k + 1)))) (fun i _ _ _ => m - (intOf i).toNat)
  case atStart =>
    refine ⟨0, Nat.zero_le _, rfl, HB0.out, .inr ⟨a0, ?_, ?_⟩⟩
    · rw [allL_take ls 0 _ H0.out]; rfl
    · rw [allL_take ls 0 _ H0.out]; exact HS0.out.later HB0.out
  case round =>
    obtain ⟨k, hk, rfl, hbel, hown⟩ := hrel
    have HB := Lib.hid hbel
    have HO := Lib.hid hown
    have hbw : b < wr.heap.size := Nat.lt_of_lt_of_le hb hbel.size
    clear hbel hown
    by_cases hlt : k < m
    · have hkb : k + 1 ≤ 1000 := by have := HM.out; omega
      obtain ⟨a, l, c, hr⟩ := row_at (ls := ls) (k := k + 1) (by rw [HM.out]; omega)
      obtain ⟨g1, hs1, hn1, hc1⟩ := HL.out.later hb HB.out (k + 1) a l c hr
      rw [show o + (k + 1) = o + 1 + k by omega] at g1
      have hT := allL_take ls (k + 1) _ hr
      have hTL := allL_take_len ls (k + 1 + 1)
      rw [hT, List.length_append] at hTL
      have HT := Lib.hid hT
      have HTL := Lib.hid hTL
      have HS1 := Lib.hid hs1
      have HN1 := Lib.hid hn1
      clear hr hs1 hn1 hc1 hT hTL
      go_wp2_with (at_builtin; refine append_cap rfl _ _ rfl w.heap.size _ _ rfl HO.out a c l rfl HS1.out HN1.out (by have := HTL.out; have := HLEN.out; simp only at *; omega) HB.out.size ?_)
      · intro v' w' hown hbel
        have HB2 := Lib.hid (hbel _ _ HB.out (Nat.le_refl _))
        have HO2 : Hid (CapL w' w.heap.size v' (allL (ls.take (k + 1 + 1)))) := by rw [HT.out]; exact hown
        clear hown hbel
        go_wp2
        go_roundw
        case rel => exact ⟨k + 1, hlt, by go_num, HB2.out, HO2.out⟩
        case measure => simp [intOf]; omega
    · have hkm : k = m := by omega
      subst hkm
      have hfin : Hid (CapL wr w.heap.size u3 (allL ls)) := by
        have := HO.out
        rwa [List.take_of_length_le (by rw [HM.out]; exact Nat.le_refl _)] at this
      obtain ⟨a, c, rfl, hs, hn⟩ := hfin.out.slice
      have HS := Lib.hid hs
      have HN := Lib.hid hn
      clear hfin HO hs hn
      generalize allL ls = d at *
      go_wp2_with fail
      refine (sort_any a c d _ HLEN.out HS.out HN.out).mono ?_
      rintro e w3 ⟨a3, c3, rfl, hs3, hn3, hf3, hl3, hm3, hb3⟩
      have HB3 := Lib.hid (blThen HB.out hb3)
      have HR : Hid (RetC w (sortL d) (.returned (.slice a3 (sortL d).length c3)) w3) := ⟨a3, c3, rfl, hs3, hn3, fun b o h => Nat.le_trans HB.out.size (hf3 b o h), hl3, hm3, HB3.out⟩
      clear hb3 hs3 hn3 hf3 hl3 hm3
      go_wp2
      go_ret
      exact HR.out

set_option maxRecDepth 100000 in
set_option maxHeartbeats 1000000 in
theorem mergeO_any (b o cp : Nat) (a0 : Option Addr) (l0 : List (Int × Int)) (c0 : Nat) (w : World) (hcp : 1 ≤ cp) (hb : b < w.heap.size) (hlen : l0.length ≤ 1000000) (g0 : w.cell? ⟨b, o, none⟩ = some (.slice a0 l0.length c0)) (hs0 : SL w a0 l0) (hn0 : a0 = none → c0 = 0) (hc0 : l0.length ≤ c0) :
    Calls Tryz.prog 111 #[.slice (some ⟨b, o, none⟩) 1 cp] w (RetC w (sortL l0)) := by
  have hcp1 : (1 : Int) ≤ (cp : Int) := by omega
  have hc0I : (l0.length : Int) ≤ (c0 : Int) := by omega
  have HS := Lib.hid hs0
  have HN := Lib.hid hn0
  have HN2 : Hid (a0 = none → l0.length = 0) := fun h => by have := hn0 h; omega
  clear hs0 hn0
  by_cases h1 : cp = 1
  · subst h1
    go_enter Tryz.func111, Tryz.ntmps111
    go_wp2_with fail
    refine region_aft (by kernel_rfl) (by kernel_rfl) ?_
    repeat (go_big_quiet_step (fail))
    refine wpQuiet_nil ?_
    rintro w2 ⟨z, rfl⟩
    go_wp2_with fail
    go_loopw [24, 3, 5] (fun i v _ wr => i = .int .i64 0 ∧ v = .slice a0 l0.length l0.length ∧ wr = z.x) (fun _ _ _ _ => 0)
    case atStart => exact ⟨rfl, rfl, rfl⟩
    case round =>
      obtain ⟨rfl, rfl, rfl⟩ := hrel
      go_wp2_with fail
      refine (sort_any a0 l0.length l0 _ hlen (HS.out.later z.h) HN2.out).mono ?_
      rintro e w3 ⟨a3, c3, rfl, hs3, hn3, hf3, hl3, hm3, hb3⟩
      have HR : Hid (RetC w (sortL l0) (.returned (.slice a3 (sortL l0).length c3)) w3) := ⟨a3, c3, rfl, hs3, hn3, fun b o h => Nat.le_trans z.h.size (hf3 b o h), hl3, hm3, blThen z.h hb3⟩
      clear hb3 hs3 hn3 hf3 hl3 hm3
      go_wp2
      go_ret
      exact HR.out
  · have h1n : (1 : Int) < (cp : Int) := by omega
    have h1m : 1 < cp := by omega
    go_enter Tryz.func111, Tryz.ntmps111
    go_wp2_with fail
    refine region_aft (by kernel_rfl) (by kernel_rfl) ?_
    repeat (go_big_quiet_step (fail))
    refine wpQuiet_nil ?_
    rintro w2 ⟨z, rfl⟩
    go_wp2_with fail
    go_loopw [24, 3, 5] (fun i v _ wr => i = .int .i64 0 ∧ v = .slice a0 l0.length l0.length ∧ wr = z.x) (fun _ _ _ _ => 0)
    case atStart => exact ⟨rfl, rfl, rfl⟩
    case round =>
      obtain ⟨rfl, rfl, rfl⟩ := hrel
      go_wp2_with fail
      refine (sort_any a0 l0.length l0 _ hlen (HS.out.later z.h) HN2.out).mono ?_
      rintro e w3 ⟨a3, c3, rfl, hs3, hn3, hf3, hl3, hm3, hb3⟩
      have HR : Hid (RetC w (sortL l0) (.returned (.slice a3 (sortL l0).length c3)) w3) := ⟨a3, c3, rfl, hs3, hn3, fun b o h => Nat.le_trans z.h.size (hf3 b o h), hl3, hm3, blThen z.h hb3⟩
      clear hb3 hs3 hn3 hf3 hl3 hm3
      go_wp2
      go_ret
      exact HR.out
/-- Merge of a row of lists, wherever it lies. -/
theorem mergeA_any (b o cp : Nat) (ls : List LRow) (w : World) (h1 : 1 ≤ ls.length) (hcp : ls.length ≤ cp) (hb : b < w.heap.size) (hls : ls.length ≤ 1000) (hlen : (allL ls).length ≤ 1000000) (hL : LL w b o ls) :
    Calls Tryz.prog 111 #[.slice (some ⟨b, o, none⟩) ls.length cp] w (RetC w (sortL (allL ls))) := by
  by_cases h2 : 2 ≤ ls.length
  · exact mergeM_any b o cp ls w h2 hcp hb hls hlen hL
  · obtain ⟨⟨a0, l0, c0⟩, rfl⟩ : ∃ r, ls = [r] := by
      cases ls with
      | nil => simp at h1
      | cons r q => cases q with
        | nil => exact ⟨r, rfl⟩
        | cons r2 q => simp at h2
    obtain ⟨g0, hs0, hn0, hc0⟩ := hL 0 a0 l0 c0 rfl
    have e : allL [(a0, l0, c0)] = l0 := by simp [allL]
    rw [e] at hlen ⊢
    exact mergeO_any b o cp a0 l0 c0 w hcp hb hlen (by simpa using g0) hs0 hn0 hc0
/-- It returns a list of its own, with the stamps of l, and leaves older memory as it was. -/
def RetK (w : World) (l : List (Int × Int)) (e : Ending) (w' : World) : Prop := ∃ a cap, e = .returned (.slice a l.length cap) ∧ SL w' a l ∧ (a = none → cap = 0) ∧ (∀ b o, a = some ⟨b, o, none⟩ → w.heap.size ≤ b) ∧ l.length ≤ cap ∧ Below w.heap.size w w'
set_option maxRecDepth 100000 in
set_option maxHeartbeats 1000000 in
theorem clone_any (a : Option Addr) (cap : Nat) (l : List (Int × Int)) (w : World) (hlen : l.length ≤ 1000000) (hl : SL w a l) (hn : a = none → cap = 0) :
    Calls Tryz.prog 114 #[.slice a l.length cap] w (RetK w l) := by
  obtain ⟨i0, hi, hz0, hz1, hz2⟩ := info_parts info_st
  have HI := Lib.hid hi
  have HZ0 := Lib.hid hz0
  have HZ1 := Lib.hid hz1
  have HZ2 := Lib.hid hz2
  rcases src_of hl with rfl | ⟨ad, rfl, hs⟩
  · obtain rfl : cap = 0 := hn rfl
    obtain rfl : l = [] := by
      apply Classical.byContradiction
      intro hne
      obtain ⟨_, _, h, _⟩ := hl hne
      cases h
    clear hi hz0 hz1 hz2 hl hn hlen
    show Calls Tryz.prog 114 #[.slice none 0 0] w (RetK w [])
    have hq := fun w : World => Lib.run_eql_slice_nil (P := Tryz.prog) w 24 42 none 0 0 0 0 Tryz.underlying24
    go_enter Tryz.func114, Tryz.ntmps114
    go_wp2
    go_ret
    exact ⟨_, 0, rfl, fun h => absurd rfl h, fun _ => rfl, fun b o hb => (by cases hb), Nat.le_refl _, Below.refl _ _⟩
  · have HS := Lib.hid (hs (w.alloc (.cells #[] 42)) ((Below.refl _ _).alloc (Nat.le_refl _) _))
    have hlc := cellsL_length l
    have HC := Lib.hid hlc
    clear hi hz0 hz1 hz2 hl hn hs hlc
    have hq := fun w : World => Lib.run_eql_slice_nil (P := Tryz.prog) w 24 42 (some ad) l.length cap 0 0 Tryz.underlying24
    go_enter Tryz.func114, Tryz.ntmps114
    go_wp2_with (at_builtin; refine wpList_append_own _ rfl _ _ 24 rfl w.heap.size 42 i0 (.agg #[.int .i64 0, .int .i64 0]) 2 16 Tryz.underlying24 HI.out HZ0.out HZ1.out HZ2.out rfl (by decide) _ 0 [] rfl (own_empty w) ad l.length cap (cellsL l) rfl HC.out HS.out (cellsL_one l) ?qc3 ?qc4 ?qc5 ?_)
    case qc3 => unfold maxLen; omega
    case qc4 => omega
    case qc5 => simp
    · intro v' w' hown hgrow _
      have HO : Hid (OwnL w' w.heap.size v' l) := hown
      have HB : Hid (Below w.heap.size w w') := ((Below.refl _ _).alloc (Nat.le_refl _) _).grown hgrow (by simp) (fun k hk => by simp [Value.ownBlock] at hk; omega)
      clear hown hgrow
      go_wp2
      go_ret
      obtain ⟨a', cap', hv, hsl, hn', hge, hcp⟩ := HO.out.sl
      exact ⟨a', cap', (by rw [hv]; rfl), hsl, hn', hge, hcp, HB.out⟩

end SD
end Go.Proofs.YtjlkgbejldcklaaGreat

/- The program's Check of Deps. Conditions: lists of at most a million, with a million stamps in all. -/
set_option linter.unusedVariables false
namespace Go.Proofs.YtjlkgbejldcklaaGreat
open S1
namespace SD
open Go.RowKit

theorem depsF_takeL {d : Dd} {k : Nat} {x : Int × List (Int × Int)} (h : d[k]? = some x) (ht : depsF (-1) (d.take k) = true) : depsF (-1) (d.take (k + 1)) = (decide (lastD (-1) (d.take k) < x.1) && (decide (x.1 < 8) && listB x.2)) := depsF_take h ht
set_option maxRecDepth 100000 in
set_option maxHeartbeats 4000000 in
theorem pcheck_any (a : Option Addr) (c : Nat) (l : List Dp) (w : World) (hf : FewD l) (hn : idsN (toD l) ≤ 1000000) (hl : Dl w a l) :
    Calls Tryz.prog 18 #[.slice a l.length c] w fun e w' => e = .returned (.int .i64 (checkD (toD l))) ∧ Below w.heap.size w w' := by
  have HL := Lib.hid hl
  have HF := Lib.hid hf
  have HNN := Lib.hid hn
  have hlen := hf.1
  clear hl hf
  have HLE : Hid ((toD l).length = l.length) := toD_length l
  by_cases h8 : 8 < l.length
  · have hd1 : decide ((8 : Int) < (l.length : Int)) = true := decide_eq_true (by omega)
    have HC : Hid (checkD (toD l) = 6) := check_many (.inl (by rw [HLE.out]; exact h8))
    go_enter Tryz.func18, Tryz.ntmps18
    go_wp2
    go_ret
    exact ⟨by rw [HC.out]; rfl, Below.refl _ _⟩
  · have hd1 : decide ((8 : Int) < (l.length : Int)) = false := decide_eq_false (by omega)
    by_cases h5 : 512 < idsN (toD l)
    · have hd2 : decide ((512 : Int) < ((idsN (toD l) : Nat) : Int)) = true := decide_eq_true (by omega)
      have HC : Hid (checkD (toD l) = 6) := check_many (.inr h5)
      go_enter Tryz.func18, Tryz.ntmps18
      go_wp2_with (go_at_call 101; refine (countIds_any _ _ l _ HF.out HNN.out HL.out).mono ?_; rintro e w1 ⟨rfl, hb⟩; have HB := Lib.hid hb; clear hb)
      go_ret
      exact ⟨by rw [HC.out]; rfl, HB.out⟩
    · have hd2 : decide ((512 : Int) < ((idsN (toD l) : Nat) : Int)) = false := decide_eq_false (by omega)
      have HBAD : Hid (depsF (-1) (toD l) = false → checkD (toD l) = 60) := check_bad (by rw [HLE.out]; omega) (by omega)
      have HGOOD : Hid (depsF (-1) (toD l) = true → checkD (toD l) = 0) := check_good (by rw [HLE.out]; omega) (by omega)
      go_enter Tryz.func18, Tryz.ntmps18
      go_wp2_with (go_at_call 101; refine (countIds_any _ _ l _ HF.out HNN.out HL.out).mono ?_; rintro e w1 ⟨rfl, hb⟩; have HB0 := Lib.hid hb; clear hb)
      go_loopw [15] (fun i wr => ∃ k : Nat, k ≤ l.length ∧ i = .int .i64 k ∧ depsF (-1) ((toD l).take k) = true ∧ Below w.heap.size w wr) (fun i _ => l.length - (intOf i).toNat)
      case atStart => exact ⟨0, Nat.zero_le _, rfl, rfl, HB0.out⟩
      case round =>
        clear HB0
        obtain ⟨k, hk, rfl, hd, hb⟩ := hrel
        have HB := Lib.hid hb
        have HD := Lib.hid hd
        clear hb hd
        by_cases hlt : k < l.length
        · obtain ⟨s, hs⟩ := at_ltD hlt
          obtain ⟨b, o, rfl, hbg, hx, hy, hi⟩ := (HL.out.later HB.out).at hs
          have hk1 : (k : Int) < (l.length : Int) := by omega
          have hk0 : (0 : Int) ≤ (k : Int) := by omega
          have hdk : decide ((k : Int) < (l.length : Int)) = true := decide_eq_true hk1
          have HDT := Lib.hid (depsF_takeL (toD_at hs) HD.out)
          have hsl : s.ids.length ≤ 1000000 := HF.out.2 s (List.mem_of_getElem? hs)
          have HI := Lib.hid hi
          have HPV : Hid (∀ j, k = j + 1 → ∃ y : Dp, l[j]? = some y ∧ lastD (-1) ((toD l).take k) = y.sh) := by
            intro j hj
            obtain ⟨y, hy⟩ := at_ltD (l := l) (k := j) (by omega)
            exact ⟨y, hy, by rw [hj]; exact lastD_take (toD_at hy) _⟩
          have hpg : -1 ≤ lastD (-1) ((toD l).take k) := lastD_ge HD.out
          have HPZ : Hid (k = 0 → lastD (-1) ((toD l).take k) = -1) := fun h => by rw [h]; rfl
          unfold ilD at hy
          clear hs hi
          generalize hp : lastD (-1) ((toD l).take k) = p at *
          clear hp
          by_cases hsb : 0 ≤ s.sh ∧ s.sh < 8
          · have HSB : Hid (shardB s.sh = true) := decide_eq_true hsb
            have H8 : Hid (decide (s.sh < 8) = true) := decide_eq_true hsb.2
            cases k with
            | zero =>
              simp only [Nat.zero_mul, Nat.add_zero] at hx hy
              have HLO : Hid (decide (p < s.sh) = true) := decide_eq_true (by have := HPZ.out rfl; omega)
              generalize hq : listB s.ids = q at *
              have HQ := Lib.hid hq
              clear hq
              cases q
              · have HC : Hid (checkD (toD l) = 60) := HBAD.out (depsF_cut (k := 0 + 1) (by rw [HDT.out]; simp))
                go_wp2_with fail
                refine region_aft (by kernel_rfl) (by kernel_rfl) ?_
                repeat (go_big_quiet_step (first | (go_at_call 102; exact aft_same ((isShard_any _ _).mono fun e w' h => by rw [HSB.out] at h; exact h)) | (go_at_call 103; exact aft_of ((isList_any _ _ s.ids _ hsl (HI.out.1.later (blThen (blAlloc (Below.refl _ _) _) (Aft.h _)))).mono fun e w' h => by rw [HQ.out] at h; exact h))))
                refine wpQuiet_nil ?_
                rintro w2 ⟨z, rfl⟩
                have HB2 : Hid (Below w.heap.size w z.x) := blThen (by repeat (first | with_reducible exact HB.out | with_reducible refine blAlloc ?_ _)) z.h
                go_wp2
                go_ret
                exact ⟨by rw [HC.out]; rfl, HB2.out⟩
              · have HDN : Hid (depsF (-1) ((toD l).take (0 + 1)) = true) := by
                  show _ = true
                  rw [HDT.out, HLO.out, H8.out]
                  rfl
                go_wp2_with fail
                refine region_aft (by kernel_rfl) (by kernel_rfl) ?_
                repeat (go_big_quiet_step (first | (go_at_call 102; exact aft_same ((isShard_any _ _).mono fun e w' h => by rw [HSB.out] at h; exact h)) | (go_at_call 103; exact aft_of ((isList_any _ _ s.ids _ hsl (HI.out.1.later (blThen (blAlloc (Below.refl _ _) _) (Aft.h _)))).mono fun e w' h => by rw [HQ.out] at h; exact h))))
                refine wpQuiet_nil ?_
                rintro w2 ⟨z, rfl⟩
                have HB2 : Hid (Below w.heap.size w z.x) := blThen (by repeat (first | with_reducible exact HB.out | with_reducible refine blAlloc ?_ _)) z.h
                go_wp2
                go_roundw
                case rel => exact ⟨0 + 1, hlt, by go_num, HDN.out, HB2.out⟩
                case measure => simp [intOf]; omega
            | succ j =>
              obtain ⟨y, hy2, hpy⟩ := HPV.out j rfl
              obtain ⟨b2, o2, hb2, hbg2, hx2, -, -⟩ := (HL.out.later HB.out).at hy2
              simp only [Option.some.injEq, Addr.mk.injEq, and_true] at hb2
              obtain ⟨rfl, rfl⟩ := hb2
              have ecast : ((j + 1 : Nat) : Int) = (j : Int) + 1 := rfl
              have hdz : decide ((0 : Int) < (j : Int) + 1) = true := decide_eq_true (by omega)
              have hj0 : (0 : Int) ≤ (j : Int) := by omega
              have hj1 : (j : Int) < (l.length : Int) := by omega
              rw [ecast] at hk1 hk0 hdk ⊢
              by_cases hps : p < s.sh
              · have hdp : decide (s.sh ≤ y.sh) = false := decide_eq_false (by omega)
                have HLO : Hid (decide (p < s.sh) = true) := decide_eq_true hps
                generalize hq : listB s.ids = q at *
                have HQ := Lib.hid hq
                clear hq
                cases q
                · have HC : Hid (checkD (toD l) = 60) := HBAD.out (depsF_cut (k := (j + 1) + 1) (by rw [HDT.out]; simp))
                  go_wp2_with fail
                  refine region_aft (by kernel_rfl) (by kernel_rfl) ?_
                  repeat (go_big_quiet_step (first | (go_at_call 102; exact aft_same ((isShard_any _ _).mono fun e w' h => by rw [HSB.out] at h; exact h)) | (go_at_call 103; exact aft_of ((isList_any _ _ s.ids _ hsl (HI.out.1.later (blThen (blAlloc (Below.refl _ _) _) (Aft.h _)))).mono fun e w' h => by rw [HQ.out] at h; exact h))))
                  refine wpQuiet_nil ?_
                  rintro w2 ⟨z, rfl⟩
                  have HB2 : Hid (Below w.heap.size w z.x) := blThen (by repeat (first | with_reducible exact HB.out | with_reducible refine blAlloc ?_ _)) z.h
                  go_wp2
                  go_ret
                  exact ⟨by rw [HC.out]; rfl, HB2.out⟩
                · have HDN : Hid (depsF (-1) ((toD l).take ((j + 1) + 1)) = true) := by
                    show _ = true
                    rw [HDT.out, HLO.out, H8.out]
                    rfl
                  go_wp2_with fail
                  refine region_aft (by kernel_rfl) (by kernel_rfl) ?_
                  repeat (go_big_quiet_step (first | (go_at_call 102; exact aft_same ((isShard_any _ _).mono fun e w' h => by rw [HSB.out] at h; exact h)) | (go_at_call 103; exact aft_of ((isList_any _ _ s.ids _ hsl (HI.out.1.later (blThen (blAlloc (Below.refl _ _) _) (Aft.h _)))).mono fun e w' h => by rw [HQ.out] at h; exact h))))
                  refine wpQuiet_nil ?_
                  rintro w2 ⟨z, rfl⟩
                  have HB2 : Hid (Below w.heap.size w z.x) := blThen (by repeat (first | with_reducible exact HB.out | with_reducible refine blAlloc ?_ _)) z.h
                  go_wp2
                  go_roundw
                  case rel => exact ⟨(j + 1) + 1, hlt, by go_num, HDN.out, HB2.out⟩
                  case measure => simp [intOf]; omega
              · have hdp : decide (s.sh ≤ y.sh) = true := decide_eq_true (by omega)
                have HC : Hid (checkD (toD l) = 60) := HBAD.out (depsF_cut (k := (j + 1) + 1) (by rw [HDT.out, decide_eq_false hps]; simp))
                go_wp2_with fail
                refine region_aft (by kernel_rfl) (by kernel_rfl) ?_
                repeat (go_big_quiet_step (first | (go_at_call 102; exact aft_same ((isShard_any _ _).mono fun e w' h => by rw [HSB.out] at h; exact h))))
                refine wpQuiet_nil ?_
                rintro w2 ⟨z, rfl⟩
                have HB2 : Hid (Below w.heap.size w z.x) := blThen (by repeat (first | with_reducible exact HB.out | with_reducible refine blAlloc ?_ _)) z.h
                go_wp2
                go_ret
                exact ⟨by rw [HC.out]; rfl, HB2.out⟩
          · have HSB : Hid (shardB s.sh = false) := decide_eq_false hsb
            have HC : Hid (checkD (toD l) = 60) := HBAD.out (depsF_cut (k := k + 1) (by
              rw [HDT.out]
              by_cases h : s.sh < 8
              · rw [decide_eq_false (show ¬ p < s.sh by omega)]; rfl
              · rw [decide_eq_false h]; simp))
            go_wp2_with fail
            refine region_aft (by kernel_rfl) (by kernel_rfl) ?_
            repeat (go_big_quiet_step (first | (go_at_call 102; exact aft_same ((isShard_any _ _).mono fun e w' h => by rw [HSB.out] at h; exact h))))
            refine wpQuiet_nil ?_
            rintro w2 ⟨z, rfl⟩
            have HB2 : Hid (Below w.heap.size w z.x) := blThen (by repeat (first | with_reducible exact HB.out | with_reducible refine blAlloc ?_ _)) z.h
            go_wp2
            go_ret
            exact ⟨by rw [HC.out]; rfl, HB2.out⟩
        · have hge : ¬ (k : Int) < (l.length : Int) := by omega
          have hdk : decide ((k : Int) < (l.length : Int)) = false := decide_eq_false hge
          have HC : Hid (checkD (toD l) = 0) := HGOOD.out (by
            have h := HD.out
            rwa [List.take_of_length_le (by rw [toD_length]; omega)] at h)
          go_wp2
          go_ret
          exact ⟨by rw [HC.out]; rfl, HB.out⟩

end SD
end Go.Proofs.YtjlkgbejldcklaaGreat

/- The program's Get, Make; Below of Deps. Conditions: lists of at most a million. -/
set_option linter.unusedVariables false
namespace Go.Proofs.YtjlkgbejldcklaaGreat
open S1
namespace SD
open Go.RowKit

theorem RetC.retK {w : World} {l : List (Int × Int)} {e : Ending} {w' : World} (h : RetC w l e w') : RetK w l e w' := by
  obtain ⟨a, cap, h1, h2, h3, h4, h5, _, h6⟩ := h
  exact ⟨a, cap, h1, h2, h3, h4, h5, h6⟩
theorem dep_new (w : World) (x y : Value) : (w.alloc (.cells #[x, y] 26)).cell? ⟨w.heap.size, 0, none⟩ = some x ∧ (w.alloc (.cells #[x, y] 26)).cell? ⟨w.heap.size, 1, none⟩ = some y := by
  have hb : (w.alloc (.cells #[x, y] 26)).heap[w.heap.size]? = some (.cells #[x, y] 26 (0, 0)) := by
    show (w.heap.push _)[w.heap.size]? = _
    simp
  exact ⟨by simp only [World.cell?, hb]; simp, by simp only [World.cell?, hb]; simp⟩
set_option maxRecDepth 100000 in
set_option maxHeartbeats 1000000 in
theorem get_any (a : Option Addr) (c : Nat) (l : List Dp) (sh : Int) (w : World) (hf : FewD l) (hl : Dl w a l) :
    Calls Tryz.prog 29 #[.slice a l.length c, .int .i64 sh] w (RetL w (getD (toD l) sh)) := by
  have HL := Lib.hid hl
  have HF := Lib.hid hf
  have hlen := hf.1
  clear hl hf
  go_enter Tryz.func29, Tryz.ntmps29
  go_wp2
  go_loopw [9] (fun i wr => ∃ k : Nat, k ≤ l.length ∧ i = .int .i64 k ∧ (∀ y ∈ (toD l).take k, y.1 ≠ sh) ∧ Below w.heap.size w wr) (fun i _ => l.length - (intOf i).toNat)
  case atStart => exact ⟨0, Nat.zero_le _, rfl, fun y hy => by simp at hy, Below.refl _ _⟩
  case round =>
    obtain ⟨k, hk, rfl, hno, hbel⟩ := hrel
    have HB := Lib.hid hbel
    have HN := Lib.hid hno
    clear hno
    by_cases hlt : k < l.length
    · obtain ⟨s, hs⟩ := at_ltD hlt
      obtain ⟨b, o, rfl, hb, hx, hy, hi⟩ := (HL.out.later HB.out).at hs
      have hk1 : (k : Int) < (l.length : Int) := by omega
      have hk0 : (0 : Int) ≤ (k : Int) := by omega
      have hdk : decide ((k : Int) < (l.length : Int)) = true := decide_eq_true hk1
      have HXY := Lib.hid (toD_at hs)
      have HI := Lib.hid hi
      have HSN := Lib.hid (HF.out.2 s (List.mem_of_getElem? hs))
      unfold ilD at hy
      clear hs hbel hi
      by_cases h1 : s.sh = sh
      · subst h1
        have HG : Hid (getD (toD l) s.sh = s.ids) := getD_at HXY.out HN.out
        go_wp2_with (go_at_call 114; refine (clone_any _ _ s.ids _ HSN.out (HI.out.1.later (by repeat (first | with_reducible exact Below.refl _ _ | with_reducible refine blAlloc ?_ _))) HI.out.2.1).mono ?_; rintro e w6 ⟨xa, xc, rfl, h1, h2, h3, h4, h5⟩; have HB6 : Hid (Below wr.heap.size wr w6) := blThen (by repeat (first | with_reducible exact Below.refl _ _ | with_reducible refine blAlloc ?_ _)) h5; have HM1 := Lib.hid h1; have HM2 := Lib.hid h2; have HM4 := Lib.hid h4; clear h1 h2 h3 h4 h5)
        go_ret
        exact ⟨xa, xc, by rw [HG.out]; rfl, by rw [HG.out]; exact HM1.out, HM2.out, by rw [HG.out]; exact HM4.out, blThen HB.out HB6.out⟩
      · have hb1 : ((s.sh == sh) = false) := by simpa using h1
        go_wp2
        go_roundw
        case rel => exact ⟨k + 1, hlt, by go_num, fun y hy => by
          rw [List.take_add_one, HXY.out] at hy
          rcases List.mem_append.1 hy with hy | hy
          · exact HN.out y hy
          · simp only [Option.toList_some, List.mem_singleton] at hy
            subst hy
            exact h1, by repeat (first | with_reducible exact HB.out | with_reducible refine blAlloc ?_ _)⟩
        case measure => simp [intOf]; omega
    · have hge : ¬ (k : Int) < (l.length : Int) := by omega
      have hdk : decide ((k : Int) < (l.length : Int)) = false := decide_eq_false hge
      have HG : Hid (getD (toD l) sh = []) := getD_out (by
        have h := HN.out
        rwa [List.take_of_length_le (by rw [toD_length]; omega)] at h)
      go_wp2
      go_ret
      exact ⟨none, 0, by rw [HG.out]; rfl, by rw [HG.out]; exact SL.nil_ok _ _, fun _ => rfl, by rw [HG.out]; exact Nat.le_refl _, HB.out⟩

set_option maxRecDepth 100000 in
set_option maxHeartbeats 1000000 in
theorem make_any (sh : Int) (a : Option Addr) (c : Nat) (l : List (Int × Int)) (w : World) (hlen : l.length ≤ 1000000) (hl : SL w a l) (hn : a = none → c = 0) :
    Calls Tryz.prog 26 #[.int .i64 sh, .slice a l.length c] w (RetD w [(sh, sortL l)]) := by
  have HL := Lib.hid hl
  have HN := Lib.hid hn
  clear hl hn
  go_enter Tryz.func26, Tryz.ntmps26
  go_wp2_with (go_at_call 112; refine (sort_any a c l _ hlen HL.out HN.out).mono ?_; rintro e w6 ⟨xa, xc, rfl, h1, h2, h3, h4, _, h5⟩; have HB6 := Lib.hid h5; have HM1 := Lib.hid h1; have HM2 := Lib.hid h2; have HM4 := Lib.hid h4; clear h1 h2 h3 h4 h5)
  go_ret
  have hr := one_newD w6 ⟨sh, xa, xc, sortL l⟩ w6.heap.size rfl
  refine ⟨some ⟨w6.heap.size, 0, none⟩, 1, [⟨sh, xa, xc, sortL l⟩], rfl, rfl, ⟨fun s hs => ?_, fun _ => ⟨w6.heap.size, 0, rfl, by simp, hr⟩⟩, fun h => (by cases h), Nat.le_refl _, blAlloc HB6.out _⟩
  rw [List.mem_singleton] at hs
  subst hs
  exact ⟨HM1.out.later (blAlloc (Below.refl _ _) _), HM2.out, HM4.out⟩

set_option maxHeartbeats 1000000 in
theorem belowC_any (Bs : Nat) (t n : Int) (a : Option Addr) (cap : Nat) (l : List (Int × Int)) (w : World) (hlen : l.length ≤ 1000000) (hl : SL w a l) (hb : Own2 w Bs t n) :
    Calls Tryz.prog 123 #[.slice a l.length cap, .pointer (some ⟨Bs, 0, none⟩)] w (RetK w (l.filter fun x => ltS x (t, n))) := by
  have HL := Lib.hid hl
  have hc0 := hb.c0
  have hc1 := hb.c1
  have hlt := hb.lt
  clear hl hb
  go_enter Tryz.func123, Tryz.ntmps123
  go_wp2_with (go_at_call 124; refine (below_any a cap l t n _ hlen HL.out).mono ?_; rintro e w6 ⟨xa, xc, rfl, h1, h2, h3, h4, h6, h5⟩; have HR : Hid (RetK w (l.filter fun x => ltS x (t, n)) (.returned (.slice xa (l.filter fun x => ltS x (t, n)).length xc)) w6) := ⟨xa, xc, rfl, h1, h2, h3, h4, h5⟩; clear h1 h2 h3 h4 h5 h6)
  go_ret
  exact HR.out

set_option maxRecDepth 100000 in
set_option maxHeartbeats 2000000 in
theorem inEachB_any (Bs : Nat) (t n : Int) (a : Option Addr) (c : Nat) (l : List Dp) (w : World) (hf : FewD l) (hl : Dl w a l) (hkp : Own2 w Bs t n) :
    Calls Tryz.prog 118 #[.slice a l.length c, .func (.func 123) #[] #[.pointer (some ⟨Bs, 0, none⟩)]] w (RetD w (belowD (toD l) (t, n))) := by
  have HL := Lib.hid hl
  have HF := Lib.hid hf
  have HK := Lib.hid hkp
  have hlen := hf.1
  clear hl hf hkp
  go_enter Tryz.func118, Tryz.ntmps118
  go_wp2
  go_loopw [5, 10] (fun v i wr => ∃ (k : Nat) (F : List Dp), k ≤ l.length ∧ i = .int .i64 k ∧ toD F = belowD ((toD l).take k) (t, n) ∧ OwnD wr w.heap.size v F ∧ HasG wr v F ∧ Below w.heap.size w wr) (fun _ i _ => l.length - (intOf i).toNat)
  case atStart => exact ⟨0, [], Nat.zero_le _, rfl, rfl, OwnD.nil _ _, HasG.nil _ _, Below.refl _ _⟩
  case round =>
    obtain ⟨k, F, hk, rfl, hF, ho, hg, hb⟩ := hrel
    have HB := Lib.hid hb
    have HO := Lib.hid ho
    have HG := Lib.hid hg
    have HFE := Lib.hid hF
    obtain ⟨av, cv, rfl, _⟩ := ho.row
    clear hb ho hg hF
    by_cases hlt : k < l.length
    · obtain ⟨s, hs⟩ := at_ltD hlt
      obtain ⟨b, o, rfl, hbg, hx, hy, hi⟩ := (HL.out.later HB.out).at hs
      have hk1 : (k : Int) < (l.length : Int) := by omega
      have hk0 : (0 : Int) ≤ (k : Int) := by omega
      have hdk : decide ((k : Int) < (l.length : Int)) = true := decide_eq_true hk1
      have HFT := Lib.hid (belowD_take (q := (t, n)) hs)
      have HI := Lib.hid hi
      have HSN := Lib.hid (HF.out.2 s (List.mem_of_getElem? hs))
      have HFL : Hid (F.length ≤ 1000000) := by
        have h := congrArg List.length HFE.out
        rw [toD_length] at h
        have h2 : (belowD ((toD l).take k) (t, n)).length ≤ l.length := by
          simp [belowD, toD_length]
          omega
        show _ ≤ _
        omega
      unfold ilD at hy
      clear hs hi
      go_wp2
      have hNB := dep_new wr (.int .i64 s.sh) (.slice s.ia s.ids.length s.ic)
      have hB2 : Below wr.heap.size wr (wr.alloc (.cells #[.int .i64 s.sh, .slice s.ia s.ids.length s.ic] 26)) := blAlloc (Below.refl _ _) _
      have hsz2 : wr.heap.size < (wr.alloc (.cells #[.int .i64 s.sh, .slice s.ia s.ids.length s.ic] 26)).heap.size := by simp
      generalize wr.alloc (.cells #[.int .i64 s.sh, .slice s.ia s.ids.length s.ic] 26) = W at *
      obtain ⟨hx2, hy2⟩ := hNB
      have HB2 := Lib.hid hB2
      have HO2 := Lib.hid (HO.out.later hB2)
      have HG2 := Lib.hid (HG.out.later hB2)
      have HI2 := Lib.hid (HI.out.later hB2)
      have HBW := Lib.hid (blThen HB.out hB2)
      have HK2 := Lib.hid (HK.out.later HBW.out HK.out.lt)
      clear hB2 hx hy
      go_region_law (first
        | ((refine step_dp rfl (.tmp 14) (.tmp 22) rfl w.heap.size (v := .slice av F.length cv) (d := F) (ad := ⟨w6.heap.size, 0, none⟩) (cap := 1) (m := ⟨s.sh, xa, xc, (s.ids.filter fun i => ltS i (t, n))⟩) (by simp [Act.eval]) (by simp [Act.eval]) (HO2.out.later (by repeat (first | with_reducible exact HB3.out | with_reducible refine blAlloc ?_ _ | with_reducible refine Below.drew ?_))) (dp_one (w0 := w6) rfl rfl) HFL.out (by have := HBW.out.size; have := HB3.out.size; simp; omega) ?_); intro v' w' h1 h2 h3; have HO7 := Lib.hid h1; have HG7 := Lib.hid ((HG2.out.later (by repeat (first | with_reducible exact HB3.out | with_reducible refine blAlloc ?_ _ | with_reducible refine Below.drew ?_))).push (m := ⟨s.sh, xa, xc, (s.ids.filter fun i => ltS i (t, n))⟩) (show IdsAt _ _ from ⟨HM1.out.later (by repeat (first | with_reducible exact Below.refl _ _ | with_reducible refine blAlloc ?_ _ | with_reducible refine Below.drew ?_)), HM2.out, HM4.out⟩) HMV.out h2 h3); have HB7 := Lib.hid (grown_belowD (x := w) (HBW.out.trans ((show Below W.heap.size W _ from (by repeat (first | with_reducible exact HB3.out | with_reducible refine blAlloc ?_ _ | with_reducible refine Below.drew ?_))).mono HBW.out.size)) (HO2.out.later (by repeat (first | with_reducible exact HB3.out | with_reducible refine blAlloc ?_ _ | with_reducible refine Below.drew ?_))) (Nat.le_refl _) (by have := HBW.out.size; have := HB3.out.size; simp; omega) h2); clear h1 h2 h3)
        | ((try go_simp); go_at_call 123; refine (belowC_any Bs t n _ _ s.ids _ HSN.out (HI2.out.1.later (by repeat (first | with_reducible exact Below.refl _ _ | with_reducible refine blAlloc ?_ _ | with_reducible refine Below.drew ?_))) (HK2.out.later (by repeat (first | with_reducible exact Below.refl _ _ | with_reducible refine blAlloc ?_ _ | with_reducible refine Below.drew ?_)) HK2.out.lt)).mono ?_; rintro e w6 ⟨xa, xc, rfl, h1, h2, h3, h4, h5⟩; have HB3 : Hid (Below W.heap.size W w6) := blThen (by repeat (first | with_reducible exact Below.refl _ _ | with_reducible refine blAlloc ?_ _ | with_reducible refine Below.drew ?_)) h5; have HM1 := Lib.hid h1; have HM2 := Lib.hid h2; have HMV := Lib.hid (apart_g HO2.out h1 h3 (Nat.le_refl _)); have HM4 := Lib.hid h4; have x6 := cell_in HB3.out hsz2 hx2; have y6 := cell_in HB3.out hsz2 hy2; have hs6 := Nat.lt_of_lt_of_le hsz2 HB3.out.size; clear h1 h2 h3 h4 h5))
      all_goals
        go_wp2
        go_roundw
        case rel => exact ⟨k + 1, _, hlt, by go_num, by rw [HFT.out, ← HFE.out]; unfold toD; rw [List.map_append]; rfl, HO7.out, HG7.out, HB7.out⟩
        case measure => simp [intOf]; omega
    · have hge : ¬ (k : Int) < (l.length : Int) := by omega
      have hdk : decide ((k : Int) < (l.length : Int)) = false := decide_eq_false hge
      have HFF : Hid (toD F = belowD (toD l) (t, n)) := by
        have h := HFE.out
        rwa [List.take_of_length_le (by rw [toD_length]; omega)] at h
      go_wp2
      go_ret
      obtain ⟨a2, c2, hv, h1, h2, h3⟩ := HO.out.dl fun s hs => (HG.out s hs).1
      exact ⟨a2, c2, F, by rw [← hv]; rfl, HFF.out, h3, h1, h2, HB.out⟩

set_option maxHeartbeats 1000000 in
theorem pbelow_any (a : Option Addr) (c : Nat) (l : List Dp) (t n : Int) (w : World) (hf : FewD l) (hl : Dl w a l) :
    Calls Tryz.prog 35 #[.slice a l.length c, .agg #[.int .i64 t, .int .i64 n]] w (RetD w (belowD (toD l) (t, n))) := by
  have HL := Lib.hid hl
  have HF := Lib.hid hf
  clear hl hf
  go_enter Tryz.func35, Tryz.ntmps35
  go_wp2_with (go_at_call 118; refine (inEachB_any w.heap.size t n a c l _ HF.out (HL.out.later (blAlloc (Below.refl _ _) _)) (own2_new _ _ _)).mono ?_; rintro e w6 ⟨xa, xc, F, rfl, h1, h2, h3, h4, h5⟩; have HR : Hid (RetD w (belowD (toD l) (t, n)) (.returned (.slice xa F.length xc)) w6) := ⟨xa, xc, F, rfl, h1, h2, h3, h4, blThen (blAlloc (Below.refl _ _) _) h5⟩; clear h1 h2 h3 h4 h5)
  go_ret
  exact HR.out

end SD
end Go.Proofs.YtjlkgbejldcklaaGreat

/- Rows of lists of stamps of the call's own; the program's All of Deps. Conditions: at most a thousand Deps, a million stamps in all. -/
set_option linter.unusedVariables false
namespace Go.Proofs.YtjlkgbejldcklaaGreat
open S1
namespace SD
open Go.RowKit

def lrV (r : LRow) : Value := .slice r.1 r.2.1.length r.2.2
/-- Where a Dep's stamps lie. -/
def Dp.lr (s : Dp) : LRow := (s.ia, s.ids, s.ic)
/-- The slice v is the call's own (in a block from base on) and holds these lists; their stamps lie somewhere. -/
def OwnR (w : World) (base : Nat) (v : Value) (ls : List LRow) : Prop := w.ownsRow base 24 1 v ls.length (ls.map lrV)
/-- The stamps of each list lie in memory. -/
def LrAt (w : World) (r : LRow) : Prop := SL w r.1 r.2.1 ∧ (r.1 = none → r.2.2 = 0) ∧ r.2.1.length ≤ r.2.2
theorem LrAt.later {W wr : World} {r : LRow} (h : LrAt W r) (hw : Below W.heap.size W wr) : LrAt wr r := ⟨h.1.later hw, h.2⟩
theorem IdsAt.lr {w : World} {s : Dp} (h : IdsAt w s) : LrAt w s.lr := h
theorem OwnR.nil (w : World) (base : Nat) : OwnR w base (.slice none 0 0) [] := World.ownsRow_nil _ _ _ _
theorem OwnR.later {W wr : World} {base : Nat} {v : Value} {l : List LRow} (h : OwnR W base v l) (hb : Below W.heap.size W wr) : OwnR wr base v l := by
  obtain ⟨h1, h2 | ⟨g, cap, cur, hv, hg, hh, r⟩⟩ := h
  · exact ⟨h1, .inl h2⟩
  · exact ⟨h1, .inr ⟨g, cap, cur, hv, hg, (hb.block g (lt_of_block hh)).trans hh, r⟩⟩
theorem OwnR.kept {W wr : World} {base : Nat} {v : Value} {l : List LRow} {g : Option Nat} (h : OwnR W base v l) (hb : W.grownBy wr g) (hne : v.ownBlock ≠ g ∨ g = none) : OwnR wr base v l := by
  obtain ⟨h1, h2 | ⟨k, cap, cur, rfl, hg, hh, r⟩⟩ := h
  · exact ⟨h1, .inl h2⟩
  · refine ⟨h1, .inr ⟨k, cap, cur, rfl, hg, (hb.block k (lt_of_block hh) (fun e => ?_)).trans hh, r⟩⟩
    rcases hne with hne | hne
    · exact hne (by simpa [Value.ownBlock] using e)
    · rw [hne] at e
      cases e
theorem OwnR.block {w : World} {base : Nat} {v : Value} {l : List LRow} (h : OwnR w base v l) : ∀ k, v.ownBlock = some k → base ≤ k ∧ k < w.heap.size := by
  intro k hk
  obtain ⟨h1, ⟨rfl, _⟩ | ⟨g, cap, cur, rfl, hg, hh, _⟩⟩ := h
  · simp [Value.ownBlock] at hk
  · simp [Value.ownBlock] at hk
    subst hk
    exact ⟨hg, lt_of_block hh⟩
theorem OwnR.row {w : World} {base : Nat} {v : Value} {l : List LRow} (h : OwnR w base v l) (hne : l ≠ []) : ∃ g cap, v = .slice (some ⟨g, 0, none⟩) l.length cap ∧ l.length ≤ cap ∧ base ≤ g ∧ g < w.heap.size ∧ ∀ (i : Nat) r, l[i]? = some r → w.cell? ⟨g, i, none⟩ = some (lrV r) := by
  obtain ⟨h1, ⟨rfl, hl⟩ | ⟨g, cap, cur, hv, hg, hh, hn, hm, hs, hx⟩⟩ := h
  · exact absurd (List.eq_nil_of_length_eq_zero hl) hne
  · refine ⟨g, cap, hv, hn, hg, lt_of_block hh, fun i r hi => ?_⟩
    have hil := (List.getElem?_eq_some_iff.1 hi).1
    have c1 : (l.map lrV)[i]? = some (lrV r) := by rw [List.getElem?_map, hi]; rfl
    rw [← hx, List.getElem?_take_of_lt (by omega)] at c1
    simp only [World.cell?, hh]
    simpa using c1
theorem OwnR.ll {w : World} {base : Nat} {v : Value} {l : List LRow} (h : OwnR w base v l) (hne : l ≠ []) (hl : ∀ r ∈ l, LrAt w r) : ∃ g cap, v = .slice (some ⟨g, 0, none⟩) l.length cap ∧ l.length ≤ cap ∧ g < w.heap.size ∧ LL w g 0 l := by
  obtain ⟨g, cap, hv, hc, _, hg, hr⟩ := h.row hne
  refine ⟨g, cap, hv, hc, hg, fun i a x c hi => ?_⟩
  have hm := hl _ (List.mem_of_getElem? hi)
  rw [Nat.zero_add]
  exact ⟨hr i _ hi, hm.1, hm.2.1, hm.2.2⟩
theorem info_sl : (Tryz.prog.info? 24).map (fun i => (i.zero, i.size, i.bytes)) = some (some (.slice none 0 0), 1, 24) := by kernel_rfl
theorem run_app_r {w : World} (ty : TypeId) (base : Nat) {v : Value} {d : List LRow} {ad : Addr} {cap : Nat} {m : LRow} (hown : OwnR w base v d) (hc : w.cell? (ad.add 0) = some (lrV m)) (hlen : d.length ≤ 1000000) (hbase : base ≤ w.heap.size) :
    ∃ v' w', (Builtin.append_ #[157, 157] ty #[v, .slice (some ad) 1 cap]).run Tryz.prog w = .ok v' w' ∧ OwnR w' base v' (d ++ [m]) ∧ w.grownBy w' v.ownBlock ∧ (v'.ownBlock = v.ownBlock ∨ v'.ownBlock = some w.heap.size) := by
  obtain ⟨i0, hi, hz0, hz1, hz2⟩ := info_parts info_sl
  have hcells : ∀ (j : Nat) (u : Value), ([lrV m] : List Value)[j]? = some u → w.cell? (ad.add j) = some u := by
    intro j u hj
    cases j with
    | zero => rw [hc]; exact hj
    | succ j => simp at hj
  obtain ⟨v', w', hr, h2, h3, _, h5⟩ := run_append_own_at (P := Tryz.prog) w base 157 ty 24 i0 (.slice none 0 0) 1 24 Tryz.underlying157 hi hz0 hz1 hz2 rfl (by decide) v d.length (d.map lrV) hown ad 1 cap [lrV m] rfl hcells (fun u hu => by rw [List.mem_singleton] at hu; subst hu; rfl) (by unfold maxLen; omega) (by omega) hbase
  refine ⟨v', w', hr, ?_, h3, h5⟩
  show w'.ownsRow base _ 1 v' _ _
  rw [List.length_append, List.map_append]
  exact h2
/-- append of one list to a row of the call's own. -/
theorem append_r1 {w : World} {ops : Array Oper} {rest : List Oper} {o : Oper} {a : Act} {Q : Exit → Act → World → Prop} (hgd : o.guard = none) (s x : Operand)
    (ho : o.op = .call { callee := .builtin .append, args := #[s, x], argTypes := #[157, 157] }) (base : Nat) {v : Value} {d : List LRow} {ad : Addr} {cap : Nat} {m : LRow} (hs : a.eval s = v) (hx : a.eval x = .slice (some ad) 1 cap)
    (hown : OwnR w base v d) (hc : w.cell? (ad.add 0) = some (lrV m)) (hlen : d.length ≤ 1000000) (hbase : base ≤ w.heap.size)
    (h : ∀ v' w', OwnR w' base v' (d ++ [m]) → w.grownBy w' v.ownBlock → (v'.ownBlock = v.ownBlock ∨ v'.ownBlock = some w.heap.size) → wpList Tryz.prog ops Q rest (a.put o.dst v') w') : wpList Tryz.prog ops Q (o :: rest) a w := by
  refine wpList_plain hgd fun _ hK => ?_
  obtain ⟨v', w', hr, h2, h3, h5⟩ := run_app_r (cap := cap) o.type base hown hc hlen hbase
  unfold Oper.wp execOp
  simp only [ho, resolve, invoke, builtin, Sem.run_bind, Sem.run_pure, Result.andThen_ok, List.map_toArray, List.map_cons, List.map_nil, hs, hx, hr]
  exact hK _ _ (h v' w' h2 h3 h5)
theorem one_newR (X : World) (m : LRow) (n : Nat) (h : X.heap.size = n) : (X.alloc (.cells #[lrV m] 24)).cell? ((⟨n, 0, none⟩ : Addr).add 0) = some (lrV m) := by
  subst h
  have hb : (X.alloc (.cells #[lrV m] 24)).heap[X.heap.size]? = some (.cells #[lrV m] 24 (0, 0)) := by
    show (X.heap.push _)[X.heap.size]? = _
    simp
  rw [Go.WideShapes.add_plain]
  simp only [World.cell?, hb]
  simp
theorem grown_belowR {B base : Nat} {x w w' : World} {v : Value} {d : List LRow} (h : Below B x w) (hown : OwnR w base v d) (hB : B ≤ base) (hw : B ≤ w.heap.size) (hg : w.grownBy w' v.ownBlock) : Below B x w' :=
  h.grown hg hw (fun k hk => Nat.le_trans hB (hown.block k hk).1)
theorem allL_lr (l : List Dp) : allL (l.map Dp.lr) = flatD (toD l) := by
  unfold allL flatD toD
  rw [List.flatMap_map, List.flatMap_map]
  rfl
theorem map_take1 {l : List Dp} {k : Nat} {s : Dp} (h : l[k]? = some s) : (l.take (k + 1)).map Dp.lr = (l.take k).map Dp.lr ++ [s.lr] := by
  rw [List.take_add_one, h, List.map_append]
  rfl

set_option maxRecDepth 100000 in
set_option maxHeartbeats 2000000 in
theorem pall_any (a : Option Addr) (c : Nat) (l : List Dp) (w : World) (hlen : l.length ≤ 1000) (hn : idsN (toD l) ≤ 1000000) (hl : Dl w a l) :
    Calls Tryz.prog 37 #[.slice a l.length c] w (RetL w (allD (toD l))) := by
  have HL := Lib.hid hl
  have HNN := Lib.hid hn
  clear hl hn
  go_enter Tryz.func37, Tryz.ntmps37
  go_wp2
  go_loopw [3, 8] (fun v i wr => ∃ k : Nat, k ≤ l.length ∧ i = .int .i64 k ∧ OwnR wr w.heap.size v ((l.take k).map Dp.lr) ∧ (k = 0 → v = .slice none 0 0) ∧ Below w.heap.size w wr) (fun _ i _ => l.length - (intOf i).toNat)
  case atStart => exact ⟨0, Nat.zero_le _, rfl, OwnR.nil _ _, fun _ => rfl, Below.refl _ _⟩
  case round =>
    obtain ⟨k, hk, rfl, ho, hz, hb⟩ := hrel
    have HB := Lib.hid hb
    have HO := Lib.hid ho
    have HZ := Lib.hid hz
    clear hb ho hz
    by_cases hlt : k < l.length
    · obtain ⟨s, hs⟩ := at_ltD hlt
      obtain ⟨b, o, rfl, hbg, hx, hy, hi⟩ := (HL.out.later HB.out).at hs
      have hk1 : (k : Int) < (l.length : Int) := by omega
      have hk0 : (0 : Int) ≤ (k : Int) := by omega
      have hdk : decide ((k : Int) < (l.length : Int)) = true := decide_eq_true hk1
      have HFT := Lib.hid (map_take1 hs)
      unfold ilD at hy
      clear hs hi
      go_wp2_with (at_builtin; go_must (refine append_r1 rfl (.tmp 12) (.tmp 15) rfl w.heap.size (m := s.lr) rfl rfl (HO.out.later (by repeat (first | with_reducible exact Below.refl _ _ | with_reducible refine blAlloc ?_ _))) (one_newR (wr.alloc (.cells #[.int .i64 s.sh, .slice s.ia s.ids.length s.ic] 26)) s.lr (wr.heap.size + 1) (by simp)) (by simp; omega) (by have := HB.out.size; simp; omega) ?_); intro v' w' h1 h2 h3; have HO2 := Lib.hid h1; have HB2 := Lib.hid (grown_belowR (x := w) (B := w.heap.size) (by repeat (first | with_reducible exact HB.out | with_reducible refine blAlloc ?_ _)) (HO.out.later (by repeat (first | with_reducible exact Below.refl _ _ | with_reducible refine blAlloc ?_ _))) (Nat.le_refl _) (by have := HB.out.size; simp; omega) h2); clear h1 h2 h3)
      go_roundw
      case rel => exact ⟨k + 1, hlt, by go_num, by rw [HFT.out]; exact HO2.out, fun h => (by cases h), HB2.out⟩
      case measure => simp [intOf]; omega
    · have hge : ¬ (k : Int) < (l.length : Int) := by omega
      have hdk : decide ((k : Int) < (l.length : Int)) = false := decide_eq_false hge
      by_cases h0 : k = 0
      · obtain rfl := HZ.out h0
        have HE : Hid (allD (toD l) = []) := by
          obtain rfl : l = [] := List.eq_nil_of_length_eq_zero (by omega)
          rfl
        go_wp2_with (go_at_call 111; refine (merge_none _).mono ?_; rintro e w6 ⟨rfl, rfl⟩)
        go_ret
        exact ⟨none, 0, by rw [HE.out]; rfl, by rw [HE.out]; exact SL.nil_ok _ _, fun _ => rfl, by rw [HE.out]; exact Nat.le_refl _, HB.out⟩
      · have HF : Hid (OwnR wr w.heap.size u3 (l.map Dp.lr)) := by
          have h := HO.out
          rwa [List.take_of_length_le (by omega)] at h
        have hne : l.map Dp.lr ≠ [] := by
          intro e
          have := congrArg List.length e
          rw [List.length_map, List.length_nil] at this
          omega
        obtain ⟨g, cap, rfl, hc, hg, hll⟩ := HF.out.ll hne (fun r hr => by
          obtain ⟨s, hs, rfl⟩ := List.mem_map.1 hr
          exact ((dl_mem HL.out hs).later HB.out).lr)
        have HLL := Lib.hid hll
        have HCP := Lib.hid hc
        have HE : Hid (sortL (allL (l.map Dp.lr)) = allD (toD l)) := by
          show _ = _
          rw [allL_lr]
          rfl
        have HLN : Hid ((l.map Dp.lr).length = l.length) := List.length_map _
        have HAN : Hid ((allL (l.map Dp.lr)).length ≤ 1000000) := by
          show _ ≤ _
          rw [allL_lr, flatD_len]
          exact HNN.out
        clear hll hc hne HO HZ HF
        generalize l.map Dp.lr = L at *
        go_wp2_with (go_at_call 111; refine (mergeA_any g 0 cap L _ (by rw [HLN.out]; omega) HCP.out hg (by rw [HLN.out]; exact hlen) HAN.out HLL.out).mono ?_; rintro e w6 ⟨xa, xc, rfl, h1, h2, h3, h4, _, h5⟩; have HB6 := Lib.hid h5; have HM1 := Lib.hid h1; have HM2 := Lib.hid h2; have HM4 := Lib.hid h4; clear h1 h2 h3 h4 h5)
        go_ret
        exact ⟨xa, xc, by rw [← HE.out]; rfl, by rw [← HE.out]; exact HM1.out, HM2.out, by rw [← HE.out]; exact HM4.out, blThen HB.out HB6.out⟩

end SD
end Go.Proofs.YtjlkgbejldcklaaGreat
