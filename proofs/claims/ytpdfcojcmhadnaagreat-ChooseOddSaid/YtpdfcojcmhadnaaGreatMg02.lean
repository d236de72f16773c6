/- Topologies as lists: shards, whether they may be, which shard holds a text, which have a node, which meet a set; what follows of a topology that may be. Conditions: none. -/
import Derived.Test.YtpdfcojcmhadnaaGreatProg
import Derived.WalkKit
import Derived.WalkSpells
import Derived.WalkLawsBesides
import Derived.Lib.Hide
import Derived.StillTailTactics
import Derived.Deep.QuietTactic
import Derived.BigQuiet
import Derived.Sort.Grow
import Derived.Deep.Draws
import Derived.Deep.RegionHeld3
import Derived.Test.YtpdfcojcmhadnaaGreatMg01
set_option maxRecDepth 100000
set_option maxHeartbeats 16000000
namespace Go.Proofs.YtpdfcojcmhadnaaGreat
namespace S3
open Go.RowKit Go.Sort
theorem ret_bool {a b : Bool} (h : a = b) : Ending.returned (.bool a) = .returned (.bool b) := by rw [h]
theorem ret_str {a b : ByteArray} (h : a = b) : Ending.returned (.string a) = .returned (.string b) := by rw [h]
theorem ret_int {a b : Int} (h : a = b) : Ending.returned (.int .i64 a) = .returned (.int .i64 b) := by rw [h]
def aboveT (e x : ByteArray) : Bool := noT e || ltT x e
theorem above_any (e x : ByteArray) (w : World) :
  Calls Tryz.prog 104 #[.string e, .string x] w fun r w' => r = .returned (.bool (aboveT e x)) ∧ w = w' := by
 go_enter Tryz.func104, Tryz.ntmps104
 go_wp2
 all_goals
  go_ret
  exact ⟨ret_bool (by simp [aboveT, noT, ltT, *]), rfl⟩
def reachT (e x : ByteArray) : Bool := aboveT e x || x.toList == e.toList
theorem reaches_any (e x : ByteArray) (w : World) :
  Calls Tryz.prog 85 #[.string e, .string x] w fun r w' => r = .returned (.bool (reachT e x)) ∧ w = w' := by
 go_enter Tryz.func85, Tryz.ntmps85
 go_wp2_with (go_at_call 104; refine (above_any _ _ _).mono ?_; rintro r w' ⟨rfl, rfl⟩)
 all_goals
  go_ret
  exact ⟨ret_bool (by simp [reachT, *]), rfl⟩
def behindT (e x : ByteArray) : Bool := !noT x && aboveT e x
theorem behind_any (e x : ByteArray) (w : World) :
  Calls Tryz.prog 100 #[.string e, .string x] w fun r w' => r = .returned (.bool (behindT e x)) ∧ w = w' := by
 go_enter Tryz.func100, Tryz.ntmps100
 go_wp2_with (go_at_call 104; refine (above_any _ _ _).mono ?_; rintro r w' ⟨rfl, rfl⟩)
 all_goals
  go_ret
  exact ⟨ret_bool (by simp [behindT, noT, *]), rfl⟩
def laterT (e o : ByteArray) : ByteArray := if behindT e o = true then e else o
def soonerT (e o : ByteArray) : ByteArray := if behindT e o = true then o else e
theorem later_any (e x : ByteArray) (w : World) :
  Calls Tryz.prog 86 #[.string e, .string x] w fun r w' => r = .returned (.string (laterT e x)) ∧ w = w' := by
 go_enter Tryz.func86, Tryz.ntmps86
 go_wp2_with (go_at_call 100; refine (behind_any _ _ _).mono ?_; rintro r w' ⟨rfl, rfl⟩)
 all_goals
  go_ret
  exact ⟨ret_str (by simp [laterT, *]), rfl⟩
theorem sooner_any (e x : ByteArray) (w : World) :
  Calls Tryz.prog 107 #[.string e, .string x] w fun r w' => r = .returned (.string (soonerT e x)) ∧ w = w' := by
 go_enter Tryz.func107, Tryz.ntmps107
 go_wp2_with (go_at_call 100; refine (behind_any _ _ _).mono ?_; rintro r w' ⟨rfl, rfl⟩)
 all_goals
  go_ret
  exact ⟨ret_str (by simp [soonerT, *]), rfl⟩
theorem isEmpty_any (s : Sp) (w : World) :
  Calls Tryz.prog 99 #[.agg #[.string s.1, .string s.2]] w fun r w' => r = .returned (.bool (!fullS s)) ∧ w' = w.alloc (.cells #[.string s.1, .string s.2] 57) := by
 go_enter Tryz.func99, Tryz.ntmps99
 go_wp2_with (go_at_call 104; refine (above_any _ _ _).mono ?_; rintro r w' ⟨rfl, rfl⟩)
 go_ret
 exact ⟨rfl, rfl⟩
def cmpT (a b : ByteArray) : Int := if ltT a b = true then -1 else if a.toList == b.toList then 0 else 1
theorem isNaN_any (a : ByteArray) (w : World) :
  Calls Tryz.prog 110 #[.string a] w fun r w' => r = .returned (.bool false) ∧ w = w' := by
 go_enter Tryz.func110, Tryz.ntmps110
 go_wp2
 go_ret
 exact ⟨rfl, rfl⟩
theorem cmpT_neg (a b : ByteArray) : cmpT a b < 0 ↔ ltT a b = true := by
 unfold cmpT
 split
 ·simp [*]
 ·split <;> simp [*]
theorem compare_any (a b : ByteArray) (w : World) :
  Calls Tryz.prog 103 #[.string a, .string b] w fun r w' => r = .returned (.int .i64 (cmpT a b)) ∧ w = w' := by
 go_enter Tryz.func103, Tryz.ntmps103
 go_wp2_with (go_at_call 110; refine (isNaN_any _ _).mono ?_; rintro r w' ⟨rfl, rfl⟩)
 all_goals
  go_ret
  exact ⟨ret_int (by simp_all [cmpT, ltT]), rfl⟩
theorem byFrom1_any (s t : Sp) (w : World) :
  Calls Tryz.prog 102 #[.agg #[.string s.1, .string s.2], .agg #[.string t.1, .string t.2]] w fun r w' => r = .returned (.int .i64 (cmpT s.1 t.1)) ∧ w' = (w.alloc (.cells #[.string s.1, .string s.2] 57)).alloc (.cells #[.string t.1, .string t.2] 57) := by
 go_enter Tryz.func102, Tryz.ntmps102
 go_wp2_with (go_at_call 103; refine (compare_any _ _ _).mono ?_; rintro r w' ⟨rfl, rfl⟩)
 go_ret
 exact ⟨rfl, rfl⟩
def maxT (a b : ByteArray) : ByteArray := if ltT a b = true then b else a
def commonS (s t : Sp) : Sp := (maxT s.1 t.1, soonerT s.2 t.2)
@[go_sem] theorem run_max_str (w : World) (ts : Array TypeId) (t : TypeId) (a b : ByteArray) : (Builtin.max_ ts t #[.string a, .string b]).run Tryz.prog w = .ok (.string (maxT a b)) w := by
 cases h : Op.bytesLess a.toList b.toList <;> simp [Builtin.max_, Builtin.max2, Op.stringOp, asBool, maxT, ltT, h]
theorem common_any (s t : Sp) (w : World) :
  Calls Tryz.prog 98 #[.agg #[.string s.1, .string s.2], .agg #[.string t.1, .string t.2]] w fun r w' => r = .returned (.agg #[.string (commonS s t).1, .string (commonS s t).2]) ∧ Below w.heap.size w w' := by
 go_enter Tryz.func98, Tryz.ntmps98
 go_wp2
 go_region_held3 (fun w' => w'.cell? ⟨w.heap.size, 0, none⟩ = some (.string s.1) ∧ w'.cell? ⟨w.heap.size, 1, none⟩ = some (.string s.2) ∧ w'.cell? ⟨w.heap.size + 1, 0, none⟩ = some (.string t.1) ∧ w'.cell? ⟨w.heap.size + 1, 1, none⟩ = some (.string t.2)) (go_keep)
  (first | (go_at_call 107; refine (sooner_any _ _ _).mono ?_; rintro r w' ⟨rfl, rfl⟩))
 all_goals
  go_wp2
  exact bodyPost_ret (v := .agg #[.string (maxT s.1 t.1), .string (soonerT s.2 t.2)]) (by simp [results, Tryz.results98, go_sem]) rfl ⟨rfl, ((((Below.refl _ _).alloc (Nat.le_refl _) _).alloc (by simp) _).alloc (by simp; omega) _).drew⟩
end S3
end Go.Proofs.YtpdfcojcmhadnaaGreat

namespace Go.Proofs.YtpdfcojcmhadnaaGreat
namespace S3
theorem full_above (s : Sp) : fullS s = aboveT s.2 s.1 := rfl
theorem inS_above (s : Sp) (k : ByteArray) : inS s k = (!ltT k s.1 && aboveT s.2 k) := rfl
theorem reach_iff {e x : ByteArray} : reachT e x = true ↔ noT e = true ∨ ltT e x = false := by
 unfold reachT aboveT
 simp only [Bool.or_eq_true, beq_iff_eq]
 constructor
 ·rintro ((h | h) | h)
  ·exact .inl h
  ·exact .inr (lt_asymm h)
  ·rw [text_ext h]; exact .inr (lt_irrefl _)
 ·rintro (h | h)
  ·exact .inl (.inl h)
  ·cases h2 : ltT x e
   ·exact .inr (by rw [lt_total h h2])
   ·exact .inl (.inr rfl)
theorem reach_not {e x : ByteArray} (h : reachT e x = false) : noT e = false ∧ ltT e x = true := by
 have h2 : ¬ reachT e x = true := by rw [h]; simp
 rw [reach_iff] at h2
 simpa using h2
theorem behind_iff {e o : ByteArray} : behindT e o = true ↔ noT o = false ∧ (noT e = true ∨ ltT o e = true) := by
 simp [behindT, aboveT]
theorem behind_not {e o : ByteArray} (h : behindT e o = false) : noT o = true ∨ (noT e = false ∧ ltT o e = false) := by
 have h2 : ¬ behindT e o = true := by rw [h]; simp
 rw [behind_iff] at h2
 cases h3 : noT o
 ·simp only [h3, true_and, not_or] at h2
  exact .inr ⟨by simpa using h2.1, by simpa using h2.2⟩
 ·exact .inl rfl
theorem above_sooner (e o k : ByteArray) : aboveT (soonerT e o) k = (aboveT e k && aboveT o k) := by
 unfold soonerT
 cases h : behindT e o
 ·simp only [Bool.false_eq_true, if_false]
  rcases behind_not h with h | ⟨h1, h2⟩
  ·simp [aboveT, h]
  ·cases h3 : noT o
   ·simp only [aboveT, h1, h3, Bool.false_or]
    cases h4 : ltT k e
    ·rfl
    ·rw [lt_ge h4 h2]; rfl
   ·simp [aboveT, h3]
 ·simp only [if_true]
  obtain ⟨h1, h2⟩ := behind_iff.1 h
  rcases h2 with h2 | h2
  ·simp [aboveT, h2]
  ·simp only [aboveT, h1, Bool.false_or]
   cases h4 : ltT k o
   ·simp
   ·rw [lt_trans h4 h2]; simp
theorem above_later (e o k : ByteArray) : aboveT (laterT e o) k = (aboveT e k || aboveT o k) := by
 unfold laterT
 cases h : behindT e o
 ·simp only [Bool.false_eq_true, if_false]
  rcases behind_not h with h | ⟨h1, h2⟩
  ·simp [aboveT, h]
  ·cases h3 : noT o
   ·simp only [aboveT, h1, h3, Bool.false_or]
    cases h4 : ltT k e
    ·rfl
    ·rw [lt_ge h4 h2]; rfl
   ·simp [aboveT, h3]
 ·simp only [if_true]
  obtain ⟨h1, h2⟩ := behind_iff.1 h
  rcases h2 with h2 | h2
  ·simp [aboveT, h2]
  ·simp only [aboveT, h1, Bool.false_or]
   cases h4 : ltT k o
   ·simp
   ·rw [lt_trans h4 h2]; simp
theorem not_lt_max (a b k : ByteArray) : (!ltT k (maxT a b)) = (!ltT k a && !ltT k b) := by
 unfold maxT
 cases h : ltT a b
 ·simp only [Bool.false_eq_true, if_false]
  cases h2 : ltT k a
  ·have := ge_trans h h2
   simp [this]
  ·simp
 ·simp only [if_true]
  cases h2 : ltT k b
  ·cases h3 : ltT k a
   ·rfl
   ·rw [lt_trans h3 h] at h2
    cases h2
  ·simp
theorem in_common (s t : Sp) (k : ByteArray) : inS (commonS s t) k = (inS s k && inS t k) := by
 simp only [inS_above, commonS, not_lt_max, above_sooner]
 cases ltT k s.1 <;> cases ltT k t.1 <;> cases aboveT s.2 k <;> cases aboveT t.2 k <;> rfl
theorem in_not_full {s : Sp} (h : fullS s = false) (k : ByteArray) : inS s k = false := by
 cases h2 : inS s k
 ·rfl
 ·simp only [inS, Bool.and_eq_true, Bool.not_eq_true', Bool.or_eq_true] at h2
  unfold fullS at h
  simp only [Bool.or_eq_false_iff] at h
  rcases h2.2 with h3 | h3
  ·rw [h3] at h; cases h.1
  ·rw [ge_lt h2.1 h3] at h; cases h.2
def cutF : Nat → List Sp → List Sp → List Sp
 | n + 1, s :: a, t :: b => (if fullS (commonS s t) = true then [commonS s t] else []) ++ (if behindT s.2 t.2 = true then cutF n (s :: a) b else cutF n a (t :: b))
 | _, _, _ => []
def cutL (a b : List Sp) : List Sp := cutF (a.length + b.length) a b
theorem cutF_nil1 (n : Nat) (b : List Sp) : cutF n [] b = [] := by cases n <;> rfl
theorem cutF_nil2 (n : Nat) (a : List Sp) : cutF n a [] = [] := by cases n <;> cases a <;> rfl
theorem memL_full (s : Sp) (k : ByteArray) : memL (if fullS s = true then [s] else []) k = inS s k := by
 cases h : fullS s
 ·simp [memL_nil, in_not_full h]
 ·simp [memL_cons, memL_nil]
theorem cutF_mem : ∀ (n : Nat) (a b : List Sp), IsSet a → IsSet b → a.length + b.length ≤ n → ∀ k, memL (cutF n a b) k = (memL a k && memL b k)
 | n, [], b, _, _, _, k => by rw [cutF_nil1]; simp [memL_nil]
 | n, s :: a, [], _, _, _, k => by rw [cutF_nil2]; simp [memL_nil]
 | 0, _ :: _, _ :: _, _, _, h, _ => by simp at h
 | n + 1, s :: a, t :: b, ha, hb, hn, k => by
  obtain ⟨f1, a1, r1⟩ := isSet_cons.1 ha
  obtain ⟨f2, a2, r2⟩ := isSet_cons.1 hb
  simp only [List.length_cons] at hn
  unfold cutF
  rw [memL_append, memL_full, in_common]
  cases h : behindT s.2 t.2
  ·simp only [Bool.false_eq_true, if_false]
   rw [cutF_mem n a (t :: b) r1 hb (by simp; omega) k]
   rw [memL_cons, memL_cons]
   have hk : (inS s k && memL b k) = false := by
    cases h1 : inS s k
    ·rfl
    ·cases h2 : memL b k
     ·rfl
     ·obtain ⟨u, hu, hk⟩ := memL_true.1 h2
      have hau := a2 u hu
      rw [apart_in (s := s) (t := u) ?_ hk] at h1
      ·cases h1
      ·rcases behind_not h with h3 | ⟨h3, h4⟩
       ·rw [hau.1] at h3; cases h3
       ·exact ⟨h3, ge_lt h4 hau.2⟩
   cases h1 : inS s k <;> cases h2 : inS t k <;> cases h3 : memL a k <;> cases h4 : memL b k <;> simp_all
  ·simp only [if_true]
   rw [cutF_mem n (s :: a) b ha r2 (by simp; omega) k]
   rw [memL_cons, memL_cons]
   have hk : (inS t k && memL a k) = false := by
    cases h1 : inS t k
    ·rfl
    ·cases h2 : memL a k
     ·rfl
     ·obtain ⟨u, hu, hk⟩ := memL_true.1 h2
      have hau := a1 u hu
      rw [apart_in (s := t) (t := u) ?_ hk] at h1
      ·cases h1
      ·obtain ⟨h3, h4⟩ := behind_iff.1 h
       rcases h4 with h4 | h4
       ·rw [hau.1] at h4; cases h4
       ·exact ⟨h3, lt_trans h4 hau.2⟩
   cases h1 : inS s k <;> cases h2 : inS t k <;> cases h3 : memL a k <;> cases h4 : memL b k <;> simp_all
theorem cutF_from : ∀ (n : Nat) (a b : List Sp) (x : ByteArray), (∀ s ∈ a, ltT x s.1 = true) ∨ (∀ s ∈ b, ltT x s.1 = true) → ∀ c ∈ cutF n a b, ltT x c.1 = true
 | n, [], b, _, _, c, hc => by rw [cutF_nil1] at hc; cases hc
 | n, s :: a, [], _, _, c, hc => by rw [cutF_nil2] at hc; cases hc
 | 0, _ :: _, _ :: _, _, _, _, hc => by cases hc
 | n + 1, s :: a, t :: b, x, h, c, hc => by
  unfold cutF at hc
  rcases List.mem_append.1 hc with hc | hc
  ·have e : c = commonS s t := by
    split at hc
    ·simpa using hc
    ·cases hc
   subst e
   have hx : ltT x s.1 = true ∨ ltT x t.1 = true := h.imp (fun h => h s (by simp)) (fun h => h t (by simp))
   show ltT x (maxT s.1 t.1) = true
   have := not_lt_max s.1 t.1 (maxT s.1 t.1)
   rw [lt_irrefl] at this
   replace this := this.symm
   simp only [Bool.not_false, Bool.and_eq_true, Bool.not_eq_true'] at this
   rcases hx with hx | hx
   ·exact lt_ge hx this.1
   ·exact lt_ge hx this.2
  ·split at hc
   ·exact cutF_from n (s :: a) b x (h.imp id fun h u hu => h u (by simp [hu])) c hc
   ·exact cutF_from n a (t :: b) x (h.imp (fun h u hu => h u (by simp [hu])) id) c hc
theorem cutF_set : ∀ (n : Nat) (a b : List Sp), IsSet a → IsSet b → IsSet (cutF n a b)
 | n, [], b, _, _ => by rw [cutF_nil1]; exact isSet_nil
 | n, s :: a, [], _, _ => by rw [cutF_nil2]; exact isSet_nil
 | 0, _ :: _, _ :: _, _, _ => isSet_nil
 | n + 1, s :: a, t :: b, ha, hb => by
  obtain ⟨f1, a1, r1⟩ := isSet_cons.1 ha
  obtain ⟨f2, a2, r2⟩ := isSet_cons.1 hb
  unfold cutF
  have hrest : IsSet (if behindT s.2 t.2 = true then cutF n (s :: a) b else cutF n a (t :: b)) := by
   split
   ·exact cutF_set n (s :: a) b ha r2
   ·exact cutF_set n a (t :: b) r1 hb
  cases hf : fullS (commonS s t)
  ·simpa using hrest
  ·simp only [if_true, List.singleton_append]
   refine isSet_cons.2 ⟨hf, fun c hc => ?_, hrest⟩
   show noT (soonerT s.2 t.2) = false ∧ ltT (soonerT s.2 t.2) c.1 = true
   unfold soonerT
   cases h : behindT s.2 t.2
   ·rw [h] at hc
    simp only [Bool.false_eq_true, if_false] at hc ⊢
    cases a with
    | nil => rw [cutF_nil1] at hc; cases hc
    | cons u a => exact ⟨(a1 u (by simp)).1, cutF_from n _ _ s.2 (.inl fun v hv => (a1 v hv).2) c hc⟩
   ·rw [h] at hc
    simp only [if_true] at hc ⊢
    cases b with
    | nil => rw [cutF_nil2] at hc; cases hc
    | cons u b => exact ⟨(a2 u (by simp)).1, cutF_from n _ _ t.2 (.inr fun v hv => (a2 v hv).2) c hc⟩
theorem cutL_set {a b : List Sp} (ha : IsSet a) (hb : IsSet b) : IsSet (cutL a b) := cutF_set _ a b ha hb
theorem cutL_mem {a b : List Sp} (ha : IsSet a) (hb : IsSet b) (k : ByteArray) : memL (cutL a b) k = (memL a k && memL b k) := cutF_mem _ a b ha hb (Nat.le_refl _) k
def joinL (cur : Sp) : List Sp → List Sp
 | [] => [cur]
 | s :: l => if reachT cur.2 s.1 = true then joinL (cur.1, laterT cur.2 s.2) l else cur :: joinL s l
def byL (l : List Sp) : List Sp := match l with | [] => [] | s :: r => joinL s r
theorem full_later (s : Sp) (e : ByteArray) (h : fullS s = true) : fullS (s.1, laterT s.2 e) = true := by
 rw [full_above] at *
 show aboveT (laterT s.2 e) s.1 = true
 rw [above_later, h]
 rfl
theorem joinL_from : ∀ (l : List Sp) (cur : Sp) (x : ByteArray), ltT x cur.1 = true → (∀ s ∈ l, ltT x s.1 = true) → ∀ c ∈ joinL cur l, ltT x c.1 = true
 | [], cur, x, h, _, c, hc => by
  simp only [joinL, List.mem_singleton] at hc
  subst hc
  exact h
 | s :: l, cur, x, h, hl, c, hc => by
  unfold joinL at hc
  split at hc
  ·exact joinL_from l (cur.1, laterT cur.2 s.2) x h (fun t ht => hl t (by simp [ht])) c hc
  ·rcases List.mem_cons.1 hc with rfl | hc
   ·exact h
   ·exact joinL_from l s x (hl s (by simp)) (fun t ht => hl t (by simp [ht])) c hc
theorem joinL_set : ∀ (l : List Sp) (cur : Sp), fullS cur = true → (∀ s ∈ l, fullS s = true) → (l.Pairwise fun s t => ltT t.1 s.1 = false) → IsSet (joinL cur l)
 | [], cur, h, _, _ => isSet_cons.2 ⟨h, fun t ht => (by cases ht), isSet_nil⟩
 | s :: l, cur, h, hf, hs => by
  obtain ⟨h1, h2⟩ := List.pairwise_cons.1 hs
  unfold joinL
  split
  ·exact joinL_set l _ (full_later cur s.2 h) (fun t ht => hf t (by simp [ht])) h2
  ·rename_i hr
   obtain ⟨h3, h4⟩ := reach_not (by simpa using hr : reachT cur.2 s.1 = false)
   exact isSet_cons.2 ⟨h, fun c hc => ⟨h3, joinL_from l s cur.2 h4 (fun t ht => lt_ge h4 (h1 t ht)) c hc⟩, joinL_set l s (hf s (by simp)) (fun t ht => hf t (by simp [ht])) h2⟩
theorem joinL_mem : ∀ (l : List Sp) (cur : Sp), (∀ s ∈ l, ltT s.1 cur.1 = false) → (l.Pairwise fun s t => ltT t.1 s.1 = false) → ∀ k, memL (joinL cur l) k = memL (cur :: l) k
 | [], cur, _, _, k => rfl
 | s :: l, cur, h, hs, k => by
  obtain ⟨h1, h2⟩ := List.pairwise_cons.1 hs
  have hcs := h s (by simp)
  unfold joinL
  split
  ·rename_i hr
   rw [joinL_mem l (cur.1, laterT cur.2 s.2) (fun t ht => h t (by simp [ht])) h2 k]
   rw [memL_cons, memL_cons, memL_cons, ← Bool.or_assoc]
   congr 1
   rw [inS_above, inS_above, inS_above]
   show (!ltT k cur.1 && aboveT (laterT cur.2 s.2) k) = _
   rw [above_later]
   cases h3 : ltT k cur.1
   ·cases h4 : ltT k s.1
    ·cases aboveT cur.2 k <;> cases aboveT s.2 k <;> rfl
    ·have : aboveT cur.2 k = true := by
      unfold aboveT
      rcases reach_iff.1 hr with h5 | h5
      ·rw [h5]; rfl
      ·rw [lt_ge h4 h5]; simp
     rw [this]
     rfl
   ·rw [lt_ge h3 hcs]
    rfl
  ·rw [memL_cons, joinL_mem l s h1 h2 k, memL_cons, memL_cons, memL_cons]
theorem byL_set {l : List Sp} (hf : ∀ s ∈ l, fullS s = true) (hs : l.Pairwise fun s t => ltT t.1 s.1 = false) : IsSet (byL l) := by
 cases l with
 | nil => exact isSet_nil
 | cons s l => exact joinL_set l s (hf s (by simp)) (fun t ht => hf t (by simp [ht])) (List.pairwise_cons.1 hs).2
theorem byL_mem {l : List Sp} (hs : l.Pairwise fun s t => ltT t.1 s.1 = false) (k : ByteArray) : memL (byL l) k = memL l k := by
 cases l with
 | nil => rfl
 | cons s l => exact joinL_mem l s (List.pairwise_cons.1 hs).1 (List.pairwise_cons.1 hs).2 k
theorem memL_filter (l : List Sp) (k : ByteArray) : memL (l.filter fullS) k = memL l k := by
 induction l with
 | nil => rfl
 | cons s l ih =>
  rw [List.filter_cons]
  cases h : fullS s
  ·simp [memL_cons, in_not_full h, ih]
  ·simp [memL_cons, ih]
theorem laterT_or (e o : ByteArray) : laterT e o = e ∨ laterT e o = o := by
 unfold laterT
 split
 ·exact .inl rfl
 ·exact .inr rfl
theorem joinL_ends : ∀ (l : List Sp) (cur : Sp) (c : Sp), c ∈ joinL cur l → (∃ s ∈ cur :: l, s.1 = c.1) ∧ ∃ s ∈ cur :: l, s.2 = c.2
 | [], cur, c, hc => by
  simp only [joinL, List.mem_singleton] at hc
  subst hc
  exact ⟨⟨c, by simp, rfl⟩, ⟨c, by simp, rfl⟩⟩
 | s :: l, cur, c, hc => by
  unfold joinL at hc
  split at hc
  ·obtain ⟨⟨u, hu, e1⟩, ⟨v, hv, e2⟩⟩ := joinL_ends l _ c hc
   refine ⟨?_, ?_⟩
   ·rcases List.mem_cons.1 hu with rfl | hu
    ·exact ⟨cur, by simp, e1⟩
    ·exact ⟨u, by simp [hu], e1⟩
   ·rcases List.mem_cons.1 hv with rfl | hv
    ·rcases laterT_or cur.2 s.2 with e | e
     ·exact ⟨cur, by simp, by rw [← e2]; exact e.symm⟩
     ·exact ⟨s, by simp, by rw [← e2]; exact e.symm⟩
    ·exact ⟨v, by simp [hv], e2⟩
  ·rcases List.mem_cons.1 hc with rfl | hc
   ·exact ⟨⟨c, by simp, rfl⟩, ⟨c, by simp, rfl⟩⟩
   ·obtain ⟨⟨u, hu, e1⟩, ⟨v, hv, e2⟩⟩ := joinL_ends l s c hc
    exact ⟨⟨u, List.mem_cons_of_mem _ hu, e1⟩, ⟨v, List.mem_cons_of_mem _ hv, e2⟩⟩
theorem joinL_len : ∀ (l : List Sp) (cur : Sp), (joinL cur l).length ≤ l.length + 1
 | [], cur => by simp [joinL]
 | s :: l, cur => by
  unfold joinL
  split
  ·have := joinL_len l (cur.1, laterT cur.2 s.2); simp; omega
  ·have := joinL_len l s; simp; omega
theorem byL_len (l : List Sp) : (byL l).length ≤ l.length := by
 cases l with
 | nil => simp [byL]
 | cons s l => exact joinL_len l s
theorem byL_ends {l : List Sp} {c : Sp} (hc : c ∈ byL l) : (∃ s ∈ l, s.1 = c.1) ∧ ∃ s ∈ l, s.2 = c.2 := by
 cases l with
 | nil => cases hc
 | cons s l => exact joinL_ends l s c hc
structure Uni (l u : List Sp) : Prop where
 set : IsSet u
 mem : ∀ k, memL u k = memL l k
 len : u.length ≤ l.length
 ends : ∀ c ∈ u, (∃ s ∈ l, s.1 = c.1) ∧ ∃ s ∈ l, s.2 = c.2
theorem uni_of {l d : List Sp} (hp : d.Perm (l.filter fullS)) (hs : d.Pairwise fun s t => ltT t.1 s.1 = false) : Uni l (byL d) where
 set := byL_set (fun s h => (List.mem_filter.1 (hp.mem_iff.1 h)).2) hs
 mem k := by rw [byL_mem hs, memL_perm hp, memL_filter]
 len := Nat.le_trans (byL_len d) (by rw [hp.length_eq]; exact List.length_filter_le _ _)
 ends c hc := by
  obtain ⟨⟨s, h1, e1⟩, ⟨t, h2, e2⟩⟩ := byL_ends hc
  exact ⟨⟨s, (List.mem_filter.1 (hp.mem_iff.1 h1)).1, e1⟩, ⟨t, (List.mem_filter.1 (hp.mem_iff.1 h2)).1, e2⟩⟩
theorem Uni.eq {l u v : List Sp} (h1 : Uni l u) (h2 : IsSet v) (h3 : ∀ k, memL v k = memL l k) : u = v := set_uniq h1.set h2 fun k => (h1.mem k).trans (h3 k).symm

def insT (x : ByteArray) : List ByteArray → List ByteArray
 | [] => [x]
 | y :: r => if ltT y x = true then y :: insT x r else if y.toList == x.toList then y :: r else x :: y :: r
theorem insT_at (x : ByteArray) : ∀ (l : List ByteArray) (k : Nat), (∀ j y, j < k → l[j]? = some y → ltT y x = true) → (∀ y, l[k]? = some y → ltT y x = false) → k ≤ l.length →
  insT x l = if l[k]? = some x then l else l.take k ++ ([x] ++ l.drop k)
 | [], k, _, _, hk => by
  obtain rfl : k = 0 := by simpa using hk
  simp [insT]
 | y :: r, 0, _, h2, _ => by
  have hx := h2 y rfl
  unfold insT
  rw [if_neg (by rw [hx]; simp)]
  by_cases hs : y = x
  ·subst hs
   simp
  ·have : (y.toList == x.toList) = false := by
    simp only [beq_eq_false_iff_ne]
    exact fun e => hs (text_ext e)
   rw [if_neg (by rw [this]; simp), if_neg (by simpa using hs)]
   rfl
 | y :: r, k + 1, h1, h2, hk => by
  have hx := h1 0 y (Nat.succ_pos _) rfl
  have ih := insT_at x r k (fun j y hj hy => h1 (j + 1) y (by omega) (by simpa using hy)) (fun y hy => h2 y (by simpa using hy)) (by simpa using hk)
  unfold insT
  rw [if_pos hx, ih]
  simp only [List.getElem?_cons_succ, List.take_succ_cons, List.drop_succ_cons, List.cons_append]
  split <;> rfl
def Rises (l : List ByteArray) : Prop := l.Pairwise fun a b => ltT a b = true
theorem insT_mem (x : ByteArray) : ∀ (l : List ByteArray) (y : ByteArray), y ∈ insT x l ↔ y = x ∨ y ∈ l
 | [], y => by simp [insT]
 | z :: r, y => by
  unfold insT
  split
  ·rw [List.mem_cons, insT_mem x r y, List.mem_cons]
   constructor
   ·rintro (h | h | h)
    ·exact .inr (.inl h)
    ·exact .inl h
    ·exact .inr (.inr h)
   ·rintro (h | h | h)
    ·exact .inr (.inl h)
    ·exact .inl h
    ·exact .inr (.inr h)
  ·split
   ·rename_i h2
    have e : z = x := text_ext (by simpa using h2)
    subst e
    simp
   ·simp
theorem insT_rises (x : ByteArray) : ∀ (l : List ByteArray), Rises l → Rises (insT x l)
 | [], _ => List.pairwise_singleton _ _
 | z :: r, h => by
  obtain ⟨h1, h2⟩ := List.pairwise_cons.1 h
  unfold insT
  split
  ·rename_i hz
   refine List.pairwise_cons.2 ⟨fun y hy => ?_, insT_rises x r h2⟩
   rcases (insT_mem x r y).1 hy with rfl | hy
   ·exact hz
   ·exact h1 y hy
  ·rename_i hz
   split
   ·exact h
   ·rename_i hn
    have hzx : ltT x z = true := by
     cases hc : ltT x z
     ·exact absurd (by rw [lt_total (by simpa using hz) hc]; simp) hn
     ·rfl
    refine List.pairwise_cons.2 ⟨fun y hy => ?_, h⟩
    rcases List.mem_cons.1 hy with rfl | hy
    ·exact hzx
    ·exact lt_trans hzx (h1 y hy)
theorem insT_len (x : ByteArray) : ∀ (l : List ByteArray), (insT x l).length ≤ l.length + 1
 | [] => by simp [insT]
 | z :: r => by
  unfold insT
  have := insT_len x r
  split
  ·simp; omega
  ·split <;> simp
def markS (m : List ByteArray) (s : Sp) : List ByteArray := if noT s.2 = true then insT s.1 m else insT s.2 (insT s.1 m)
def marksL (l : List Sp) : List ByteArray := l.foldl markS []
theorem marksL_take {l : List Sp} {k : Nat} {s : Sp} (h : l[k]? = some s) : marksL (l.take (k + 1)) = markS (marksL (l.take k)) s := by
 unfold marksL
 rw [List.take_add_one, h]
 simp [List.foldl_append]
theorem markS_mem (m : List ByteArray) (s : Sp) (y : ByteArray) : y ∈ markS m s ↔ y ∈ m ∨ y = s.1 ∨ (noT s.2 = false ∧ y = s.2) := by
 unfold markS
 split
 ·rename_i h
  rw [insT_mem]
  simp [h, or_comm]
 ·rename_i h
  rw [insT_mem, insT_mem]
  simp only [Bool.not_eq_true] at h
  simp only [h, true_and]
  constructor
  ·rintro (h | h | h)
   ·exact .inr (.inr h)
   ·exact .inr (.inl h)
   ·exact .inl h
  ·rintro (h | h | h)
   ·exact .inr (.inr h)
   ·exact .inr (.inl h)
   ·exact .inl h
theorem markS_rises {m : List ByteArray} (h : Rises m) (s : Sp) : Rises (markS m s) := by
 unfold markS
 split
 ·exact insT_rises _ _ h
 ·exact insT_rises _ _ (insT_rises _ _ h)
theorem foldl_marks (l : List Sp) : ∀ (m : List ByteArray), Rises m → Rises (l.foldl markS m) ∧ (∀ y, y ∈ l.foldl markS m ↔ y ∈ m ∨ ∃ s ∈ l, y = s.1 ∨ (noT s.2 = false ∧ y = s.2)) := by
 induction l with
 | nil => intro m h; exact ⟨h, fun y => by simp⟩
 | cons s l ih =>
  intro m h
  obtain ⟨h1, h2⟩ := ih (markS m s) (markS_rises h s)
  refine ⟨h1, fun y => ?_⟩
  rw [List.foldl_cons, h2, markS_mem]
  constructor
  ·rintro ((h | h) | ⟨t, ht, h⟩)
   ·exact .inl h
   ·exact .inr ⟨s, by simp, h⟩
   ·exact .inr ⟨t, by simp [ht], h⟩
  ·rintro (h | ⟨t, ht, h⟩)
   ·exact .inl (.inl h)
   ·rcases List.mem_cons.1 ht with rfl | ht
    ·exact .inl (.inr h)
    ·exact .inr ⟨t, ht, h⟩
theorem marksL_rises (l : List Sp) : Rises (marksL l) := (foldl_marks l [] List.Pairwise.nil).1
theorem marksL_mem (l : List Sp) (y : ByteArray) : y ∈ marksL l ↔ ∃ s ∈ l, y = s.1 ∨ (noT s.2 = false ∧ y = s.2) := by
 unfold marksL
 rw [(foldl_marks l [] List.Pairwise.nil).2]
 simp
theorem markS_len (m : List ByteArray) (s : Sp) : (markS m s).length ≤ m.length + 2 := by
 unfold markS
 have h1 := insT_len s.1 m
 have h2 := insT_len s.2 (insT s.1 m)
 split <;> omega
theorem marksL_len (l : List Sp) : (marksL l).length ≤ 2 * l.length := by
 suffices h : ∀ (l : List Sp) (m : List ByteArray), (l.foldl markS m).length ≤ m.length + 2 * l.length by
  have := h l []
  simpa [marksL] using this
 intro l
 induction l with
 | nil => intro m; simp
 | cons s l ih =>
  intro m
  have h1 := ih (markS m s)
  have h2 := markS_len m s
  rw [List.foldl_cons, List.length_cons]
  omega
def buildL (P : ByteArray → Bool) : Option ByteArray → List ByteArray → List Sp
 | none, [] => []
 | some f, [] => [(f, ⟨#[]⟩)]
 | none, x :: r => if P x = true then buildL P (some x) r else buildL P none r
 | some f, x :: r => if P x = true then buildL P (some f) r else (f, x) :: buildL P none r
def Ahead (o : Option ByteArray) (m : List ByteArray) : Prop := ∀ f, o = some f → ∀ x ∈ m, ltT f x = true
theorem Ahead.none (m : List ByteArray) : Ahead .none m := fun f h => by cases h
theorem Ahead.tail {o : Option ByteArray} {x : ByteArray} {m : List ByteArray} (h : Ahead o (x :: m)) : Ahead o m := fun f hf y hy => h f hf y (by simp [hy])
theorem Ahead.head {x : ByteArray} {m : List ByteArray} (h : Rises (x :: m)) : Ahead (some x) m := fun f hf y hy => by
 cases hf
 exact (List.pairwise_cons.1 h).1 y hy
theorem Rises.tail {x : ByteArray} {m : List ByteArray} (h : Rises (x :: m)) : Rises m := (List.pairwise_cons.1 h).2
theorem buildL_below (P : ByteArray → Bool) : ∀ (m : List ByteArray) (o : Option ByteArray) (k : ByteArray), Rises m → Ahead o m → (∀ x ∈ m, ltT k x = true) → memL (buildL P o m) k = (match o with | none => false | some f => !ltT k f)
 | [], none, k, _, _, _ => rfl
 | [], some f, k, _, _, _ => by
  have : noT (⟨#[]⟩ : ByteArray) = true := noT_iff.2 rfl
  simp [buildL, memL_cons, memL_nil, inS, this]
 | x :: r, none, k, hr, _, hk => by
  unfold buildL
  split
  ·rw [buildL_below P r (some x) k hr.tail (Ahead.head hr) (fun y hy => hk y (by simp [hy]))]
   simp [hk x (by simp)]
  ·rw [buildL_below P r none k hr.tail (Ahead.none _) (fun y hy => hk y (by simp [hy]))]
 | x :: r, some f, k, hr, ha, hk => by
  have hkx := hk x (by simp)
  unfold buildL
  split
  ·rw [buildL_below P r (some f) k hr.tail ha.tail (fun y hy => hk y (by simp [hy]))]
  ·rw [memL_cons, buildL_below P r none k hr.tail (Ahead.none _) (fun y hy => hk y (by simp [hy]))]
   simp [inS, hkx]
theorem buildL_at (P : ByteArray → Bool) : ∀ (m : List ByteArray) (x : ByteArray) (o : Option ByteArray) (k : ByteArray), Rises (x :: m) → Ahead o (x :: m) → ltT k x = false →
  ∃ y ∈ x :: m, ltT k y = false ∧ (∀ z ∈ x :: m, ltT k z = false → ltT y z = false) ∧ memL (buildL P o (x :: m)) k = P y := by
 have last : ∀ (m : List ByteArray) (x : ByteArray) (o : Option ByteArray) (k : ByteArray), Rises (x :: m) → Ahead o (x :: m) → ltT k x = false → (∀ z ∈ m, ltT k z = true) →
   ∃ y ∈ x :: m, ltT k y = false ∧ (∀ z ∈ x :: m, ltT k z = false → ltT y z = false) ∧ memL (buildL P o (x :: m)) k = P y := by
  intro m x o k hr ha hk hz
  refine ⟨x, by simp, hk, fun z hzm hkz => ?_, ?_⟩
  ·rcases List.mem_cons.1 hzm with rfl | hzm
   ·exact lt_irrefl _
   ·rw [hz z hzm] at hkz
    cases hkz
  ·cases o with
   | none =>
    unfold buildL
    cases hp : P x
    ·simp only [Bool.false_eq_true, if_false]
     rw [buildL_below P m none k hr.tail (Ahead.none _) hz]
    ·simp only [if_true]
     rw [buildL_below P m (some x) k hr.tail (Ahead.head hr) hz]
     simp [hk]
   | some f =>
    have hfx := ha f rfl x (by simp)
    unfold buildL
    cases hp : P x
    ·simp only [Bool.false_eq_true, if_false]
     rw [memL_cons, buildL_below P m none k hr.tail (Ahead.none _) hz, inS_to (noT_of_lt hfx) hk]
     rfl
    ·simp only [if_true]
     rw [buildL_below P m (some f) k hr.tail ha.tail hz]
     have : ltT k f = false := by
      cases h : ltT k f
      ·rfl
      ·rw [lt_trans h hfx] at hk
       cases hk
     simp [this]
 intro m
 induction m with
 | nil => intro x o k hr ha hk; exact last [] x o k hr ha hk (fun z hz => by cases hz)
 | cons x2 m ih =>
  intro x o k hr ha hk
  cases hk2 : ltT k x2
  ·have hx12 : ltT x x2 = true := (List.pairwise_cons.1 hr).1 x2 (by simp)
   have go : ∀ (o' : Option ByteArray), Ahead o' (x2 :: m) → (memL (buildL P o (x :: x2 :: m)) k = memL (buildL P o' (x2 :: m)) k) → ∃ y ∈ x :: x2 :: m, ltT k y = false ∧ (∀ z ∈ x :: x2 :: m, ltT k z = false → ltT y z = false) ∧ memL (buildL P o (x :: x2 :: m)) k = P y := by
    intro o' ha' he
    obtain ⟨y, hy, h1, h2, h3⟩ := ih x2 o' k hr.tail ha' hk2
    refine ⟨y, by simp at hy ⊢; exact .inr hy, h1, fun z hz hkz => ?_, he.trans h3⟩
    rcases List.mem_cons.1 hz with rfl | hz
    ·have := h2 x2 (by simp) hk2
     exact lt_asymm (lt_ge hx12 this)
    ·exact h2 z hz hkz
   cases o with
   | none =>
    cases hp : P x
    ·exact go none (Ahead.none _) (by rw [buildL.eq_3]; rw [if_neg (by rw [hp]; simp)])
    ·exact go (some x) (Ahead.head hr) (by rw [buildL.eq_3]; rw [if_pos hp])
   | some f =>
    have hfx := ha f rfl x (by simp)
    cases hp : P x
    ·exact go none (Ahead.none _) (by
      rw [buildL.eq_4, if_neg (by rw [hp]; simp), memL_cons, inS_to (noT_of_lt hfx) hk]
      rfl)
    ·exact go (some f) ha.tail (by rw [buildL.eq_4]; rw [if_pos hp])
  ·refine last (x2 :: m) x o k hr ha hk fun z hz => ?_
   rcases List.mem_cons.1 hz with rfl | hz
   ·exact hk2
   ·exact lt_trans hk2 ((List.pairwise_cons.1 hr.tail).1 z hz)
theorem buildL_set (P : ByteArray → Bool) : ∀ (m : List ByteArray) (o : Option ByteArray), Rises m → Ahead o m → IsSet (buildL P o m) ∧ ∀ s ∈ buildL P o m, s.1 ∈ m ∨ o = some s.1
 | [], none, _, _ => ⟨isSet_nil, fun s hs => by cases hs⟩
 | [], some f, _, _ => by
  refine ⟨isSet_cons.2 ⟨by simp [fullS, noT_iff.2], fun t ht => (by cases ht), isSet_nil⟩, fun s hs => ?_⟩
  simp only [buildL, List.mem_singleton] at hs
  subst hs
  exact .inr rfl
 | x :: r, none, hr, _ => by
  unfold buildL
  split
  ·obtain ⟨h1, h2⟩ := buildL_set P r (some x) hr.tail (Ahead.head hr)
   refine ⟨h1, fun s hs => ?_⟩
   rcases h2 s hs with h | h
   ·exact .inl (by simp [h])
   ·simp only [Option.some.injEq] at h
    exact .inl (by simp [h])
  ·obtain ⟨h1, h2⟩ := buildL_set P r none hr.tail (Ahead.none _)
   refine ⟨h1, fun s hs => ?_⟩
   rcases h2 s hs with h | h
   ·exact .inl (by simp [h])
   ·cases h
 | x :: r, some f, hr, ha => by
  have hfx := ha f rfl x (by simp)
  unfold buildL
  split
  ·obtain ⟨h1, h2⟩ := buildL_set P r (some f) hr.tail ha.tail
   refine ⟨h1, fun s hs => ?_⟩
   rcases h2 s hs with h | h
   ·exact .inl (by simp [h])
   ·exact .inr h
  ·obtain ⟨h1, h2⟩ := buildL_set P r none hr.tail (Ahead.none _)
   refine ⟨isSet_cons.2 ⟨by simp [fullS, hfx], fun t ht => ⟨noT_of_lt hfx, ?_⟩, h1⟩, fun s hs => ?_⟩
   ·rcases h2 t ht with h | h
    ·exact (List.pairwise_cons.1 hr).1 _ h
    ·cases h
   ·rcases List.mem_cons.1 hs with rfl | hs
    ·exact .inr rfl
    ·rcases h2 s hs with h | h
     ·exact .inl (by simp [h])
     ·cases h
def wantB (n : Int) (x y : Bool) : Bool := if n = 2 then x && !y else if n = 1 then x && y else x || y
theorem wantB_ff (n : Int) : wantB n false false = false := by unfold wantB; split <;> (try split) <;> rfl
def setL (n : Int) (a b : List Sp) : List Sp := buildL (fun k => wantB n (memL a k) (memL b k)) none (marksL (a ++ b))
theorem setL_set (n : Int) (a b : List Sp) : IsSet (setL n a b) := (buildL_set _ _ none (marksL_rises _) (Ahead.none _)).1
theorem inS_same {s : Sp} {y k : ByteArray} {m : List ByteArray} (h1 : s.1 ∈ m) (h2 : noT s.2 = false → s.2 ∈ m) (hyk : ltT k y = false) (hno : ∀ z ∈ m, ltT k z = false → ltT y z = false) : inS s k = inS s y := by
 have e1 : ltT k s.1 = ltT y s.1 := by
  cases h : ltT k s.1
  ·exact (hno _ h1 h).symm
  ·exact (ge_lt hyk h).symm
 unfold inS
 rw [e1]
 cases hn : noT s.2
 ·have e2 : ltT k s.2 = ltT y s.2 := by
   cases h : ltT k s.2
   ·exact (hno _ (h2 hn) h).symm
   ·exact (ge_lt hyk h).symm
  rw [e2]
 ·rfl
theorem memL_same {l : List Sp} {y k : ByteArray} {m : List ByteArray} (h : ∀ s ∈ l, s.1 ∈ m ∧ (noT s.2 = false → s.2 ∈ m)) (hyk : ltT k y = false) (hno : ∀ z ∈ m, ltT k z = false → ltT y z = false) : memL l k = memL l y := by
 unfold memL
 induction l with
 | nil => rfl
 | cons s l ih =>
  rw [List.any_cons, List.any_cons, ih (fun t ht => h t (by simp [ht])), inS_same (h s (by simp)).1 (h s (by simp)).2 hyk hno]
theorem memL_ahead {l : List Sp} {k : ByteArray} {m : List ByteArray} (h : ∀ s ∈ l, s.1 ∈ m) (hk : ∀ x ∈ m, ltT k x = true) : memL l k = false :=
 memL_false.2 fun s hs => inS_below (hk _ (h s hs))
theorem setL_mem (n : Int) (a b : List Sp) (k : ByteArray) : memL (setL n a b) k = wantB n (memL a k) (memL b k) := by
 have ha : ∀ s ∈ a, s.1 ∈ marksL (a ++ b) ∧ (noT s.2 = false → s.2 ∈ marksL (a ++ b)) := fun s hs => ⟨(marksL_mem _ _).2 ⟨s, by simp [hs], .inl rfl⟩, fun hn => (marksL_mem _ _).2 ⟨s, by simp [hs], .inr ⟨hn, rfl⟩⟩⟩
 have hb : ∀ s ∈ b, s.1 ∈ marksL (a ++ b) ∧ (noT s.2 = false → s.2 ∈ marksL (a ++ b)) := fun s hs => ⟨(marksL_mem _ _).2 ⟨s, by simp [hs], .inl rfl⟩, fun hn => (marksL_mem _ _).2 ⟨s, by simp [hs], .inr ⟨hn, rfl⟩⟩⟩
 unfold setL
 have hr := marksL_rises (a ++ b)
 generalize marksL (a ++ b) = m at *
 have below : (∀ x ∈ m, ltT k x = true) → memL (buildL (fun k => wantB n (memL a k) (memL b k)) none m) k = wantB n (memL a k) (memL b k) := fun h => by
  rw [buildL_below _ m none k hr (Ahead.none _) h, memL_ahead (fun s hs => (ha s hs).1) h, memL_ahead (fun s hs => (hb s hs).1) h, wantB_ff]
 cases m with
 | nil => exact below fun x hx => by cases hx
 | cons x r =>
  cases hx : ltT k x
  ·obtain ⟨y, hy, h1, h2, h3⟩ := buildL_at (fun k => wantB n (memL a k) (memL b k)) r x none k hr (Ahead.none _) hx
   rw [h3, memL_same ha h1 h2, memL_same hb h1 h2]
  ·refine below fun z hz => ?_
   rcases List.mem_cons.1 hz with rfl | hz
   ·exact hx
   ·exact lt_trans hx ((List.pairwise_cons.1 hr).1 z hz)
def uniL (l : List Sp) : List Sp := setL 0 l []
theorem uniL_set (l : List Sp) : IsSet (uniL l) := setL_set _ _ _
theorem uniL_mem (l : List Sp) (k : ByteArray) : memL (uniL l) k = memL l k := by
 unfold uniL
 rw [setL_mem]
 simp [wantB, memL_nil]
theorem Uni.is {l u : List Sp} (h : Uni l u) : u = uniL l := h.eq (uniL_set l) (uniL_mem l)
theorem cutL_is {a b : List Sp} (ha : IsSet a) (hb : IsSet b) : cutL a b = setL 1 a b := set_uniq (cutL_set ha hb) (setL_set _ _ _) fun k => by
 rw [cutL_mem ha hb, setL_mem]
 simp [wantB]
end S3
end Go.Proofs.YtpdfcojcmhadnaaGreat

namespace Go.Proofs.YtpdfcojcmhadnaaGreat
open S3
namespace S4
structure Sh where
 sp : Sp
 na : Option Addr
 nc : Nat
 nodes : List Int
def nodeB (n : Int) : Bool := decide (1 ≤ n ∧ n ≤ 7)
def risF : Int → List Int → Bool
 | _, [] => true
 | p, n :: r => nodeB n && (decide (p < n) && risF n r)
def nodesB (l : List Int) : Bool := decide (1 ≤ l.length ∧ l.length ≤ 5) && risF 0 l
def rowF : ByteArray → List Sp → Bool
 | x, [] => noT x
 | x, s :: r => (s.1.toList == x.toList) && ((r.isEmpty || (ltT s.1 s.2 && decide (s.2.size ≤ 16))) && rowF s.2 r)
def spans (l : List Sh) : List Sp := l.map (·.sp)
def topoB (l : List Sh) : Bool := decide (1 ≤ l.length ∧ l.length ≤ 8) && (rowF ⟨#[]⟩ (spans l) && l.all fun s => nodesB s.nodes)
theorem nodeB_iff {n : Int} : nodeB n = true ↔ 1 ≤ n ∧ n ≤ 7 := by simp [nodeB]
theorem risF_facts : ∀ {l : List Int} {p : Int}, risF p l = true → (∀ n ∈ l, p < n ∧ 1 ≤ n ∧ n ≤ 7) ∧ l.Pairwise (· < ·)
 | [], _, _ => ⟨fun _ h => (by cases h), List.Pairwise.nil⟩
 | n :: r, p, h => by
  simp only [risF, Bool.and_eq_true, decide_eq_true_eq, nodeB_iff] at h
  obtain ⟨h1, h2, h3⟩ := h
  obtain ⟨h4, h5⟩ := risF_facts h3
  refine ⟨fun m hm => ?_, List.pairwise_cons.2 ⟨fun m hm => (h4 m hm).1, h5⟩⟩
  rcases List.mem_cons.1 hm with rfl | hm
  ·exact ⟨h2, h1⟩
  ·have := h4 m hm
   exact ⟨by omega, this.2⟩
structure Topo (l : List Sh) : Prop where
 pos : 1 ≤ l.length
 len : l.length ≤ 8
 full : ∀ s ∈ l, fullS s.sp = true
 once : ∀ k, ∃ i, i < l.length ∧ ∀ (j : Nat) (s : Sh), l[j]? = some s → inS s.sp k = decide (j = i)
 few : ∀ s ∈ l, 1 ≤ s.nodes.length ∧ s.nodes.length ≤ 5
 node : ∀ s ∈ l, ∀ n ∈ s.nodes, 1 ≤ n ∧ n ≤ 7
 rise : ∀ s ∈ l, s.nodes.Pairwise (· < ·)
theorem row_ahead : ∀ {l : List Sp} {x : ByteArray}, rowF x l = true → (∀ s ∈ l, fullS s = true) ∧ (∀ k, ltT k x = true → ∀ s ∈ l, inS s k = false)
 | [], _, _ => ⟨fun _ h => (by cases h), fun _ _ _ h => (by cases h)⟩
 | s :: r, x, h => by
  simp only [rowF, Bool.and_eq_true, Bool.or_eq_true, beq_iff_eq] at h
  obtain ⟨h1, h2, h3⟩ := h
  have e : s.1 = x := text_ext h1
  obtain ⟨h4, h5⟩ := row_ahead h3
  have hf : fullS s = true := by
   rcases h2 with h2 | ⟨h2, _⟩
   ·have : r = [] := by simpa using h2
    subst this
    have h6 : noT s.2 = true := h3
    simp [fullS, h6]
   ·simp [fullS, h2]
  refine ⟨fun t ht => ?_, fun k hk t ht => ?_⟩
  ·rcases List.mem_cons.1 ht with rfl | ht
   ·exact hf
   ·exact h4 t ht
  ·rcases List.mem_cons.1 ht with rfl | ht
   ·exact inS_below (by rw [e]; exact hk)
   ·rcases h2 with h2 | ⟨h2, _⟩
    ·have : r = [] := by simpa using h2
     subst this
     cases ht
    ·exact h5 k (lt_trans hk (by rw [← e]; exact h2)) t ht
theorem row_once : ∀ {l : List Sp} {x : ByteArray}, l ≠ [] → rowF x l = true → ∀ k, ltT k x = false → ∃ i, i < l.length ∧ ∀ (j : Nat) (s : Sp), l[j]? = some s → inS s k = decide (j = i)
 | [], _, h, _, _, _ => absurd rfl h
 | s :: r, x, _, h, k, hk => by
  simp only [rowF, Bool.and_eq_true, Bool.or_eq_true, beq_iff_eq] at h
  obtain ⟨h1, h2, h3⟩ := h
  have e : s.1 = x := text_ext h1
  by_cases hr : r = []
  ·subst hr
   have h6 : noT s.2 = true := h3
   refine ⟨0, by simp, fun j t ht => ?_⟩
   cases j with
   | zero =>
    simp only [List.getElem?_cons_zero, Option.some.injEq] at ht
    subst ht
    simp [inS, e, hk, h6]
   | succ j => simp at ht
  ·have hlt : ltT s.1 s.2 = true := by
    rcases h2 with h2 | ⟨h2, _⟩
    ·exact absurd (by simpa using h2) hr
    ·exact h2
   cases hc : ltT k s.2
   ·obtain ⟨i, hi, hat⟩ := row_once hr h3 k hc
    refine ⟨i + 1, by simpa using hi, fun j t ht => ?_⟩
    cases j with
    | zero =>
     simp only [List.getElem?_cons_zero, Option.some.injEq] at ht
     subst ht
     rw [inS_to (noT_of_lt hlt) hc]
     simp
    | succ j =>
     rw [hat j t (by simpa using ht)]
     simp
   ·refine ⟨0, by simp, fun j t ht => ?_⟩
    cases j with
    | zero =>
     simp only [List.getElem?_cons_zero, Option.some.injEq] at ht
     subst ht
     simp [inS, e, hk, hc]
    | succ j =>
     have hm : t ∈ r := List.mem_of_getElem? (by simpa using ht)
     rw [(row_ahead h3).2 k hc t hm]
     simp
theorem spans_at {l : List Sh} {j : Nat} {s : Sh} (h : l[j]? = some s) : (spans l)[j]? = some s.sp := by simp [spans, h]
theorem topo_of {l : List Sh} (h : topoB l = true) : Topo l := by
 simp only [topoB, Bool.and_eq_true, decide_eq_true_eq, List.all_eq_true] at h
 obtain ⟨⟨h1, h2⟩, h3, h4⟩ := h
 have hn : ∀ s ∈ l, (1 ≤ s.nodes.length ∧ s.nodes.length ≤ 5) ∧ (∀ n ∈ s.nodes, 0 < n ∧ 1 ≤ n ∧ n ≤ 7) ∧ s.nodes.Pairwise (· < ·) := fun s hs => by
  have := h4 s hs
  simp only [nodesB, Bool.and_eq_true, decide_eq_true_eq] at this
  exact ⟨this.1, risF_facts this.2⟩
 refine ⟨h1, h2, fun s hs => (row_ahead h3).1 _ (List.mem_map.2 ⟨s, hs, rfl⟩), fun k => ?_, fun s hs => (hn s hs).1, fun s hs n hm => ((hn s hs).2.1 n hm).2, fun s hs => (hn s hs).2.2⟩
 have hne : spans l ≠ [] := by
  intro e
  have : (spans l).length = l.length := by simp [spans]
  rw [e] at this
  simp at this
  omega
 obtain ⟨i, hi, hat⟩ := row_once hne h3 k (not_lt_noT (noT_iff.2 rfl))
 exact ⟨i, by simpa [spans] using hi, fun j s hs => hat j s.sp (spans_at hs)⟩
def hasN (l : List Int) (n : Int) : Bool := l.any (· == n)
def shHas (l : List Sh) (i : Nat) (n : Int) : Bool := match l[i]? with | some s => hasN s.nodes n | none => false
def atHas (l : List Sh) (i : Int) (n : Int) : Bool := decide (0 ≤ i) && shHas l i.toNat n
def anyHas (l : List Sh) (P : List Int) (n : Int) : Bool := P.any fun i => atHas l i n
theorem shHas_at {l : List Sh} {i : Nat} {s : Sh} (h : l[i]? = some s) (n : Int) : shHas l i n = hasN s.nodes n := by unfold shHas; rw [h]
theorem shHas_out {l : List Sh} {i : Nat} (h : l.length ≤ i) (n : Int) : shHas l i n = false := by unfold shHas; rw [List.getElem?_eq_none h]
theorem atHas_at {l : List Sh} {i : Nat} {s : Sh} (h : l[i]? = some s) (n : Int) : atHas l i n = hasN s.nodes n := by simp [atHas, shHas_at h]
theorem atHas_neg {l : List Sh} {i : Int} (h : i < 0) (n : Int) : atHas l i n = false := by simp [atHas]; intro h2; omega
theorem atHas_out {l : List Sh} {i : Int} (h : (l.length : Int) ≤ i) (n : Int) : atHas l i n = false := by
 unfold atHas
 rw [shHas_out (by omega)]
 simp
theorem hasN_mem {l : List Int} {n : Int} : hasN l n = true ↔ n ∈ l := by simp [hasN]
def ofTo (p : Nat → Bool) (k : Nat) : List Int := ((List.range k).filter p).map Int.ofNat
theorem ofTo_zero (p : Nat → Bool) : ofTo p 0 = [] := rfl
theorem ofTo_succ (p : Nat → Bool) (k : Nat) : ofTo p (k + 1) = ofTo p k ++ if p k = true then [(k : Int)] else [] := by
 unfold ofTo
 rw [List.range_succ, List.filter_append, List.map_append]
 cases h : p k <;> simp [h]
theorem ofTo_len (p : Nat → Bool) (k : Nat) : (ofTo p k).length ≤ k := by
 unfold ofTo
 rw [List.length_map]
 exact Nat.le_trans (List.length_filter_le _ _) (by simp)
theorem ofTo_mem (p : Nat → Bool) (k : Nat) (n : Int) : n ∈ ofTo p k ↔ ∃ i, i < k ∧ p i = true ∧ n = (i : Int) := by
 unfold ofTo
 simp only [List.mem_map, List.mem_filter, List.mem_range]
 constructor
 ·rintro ⟨i, ⟨h1, h2⟩, rfl⟩; exact ⟨i, h1, h2, rfl⟩
 ·rintro ⟨i, h1, h2, rfl⟩; exact ⟨i, ⟨h1, h2⟩, rfl⟩
def shMeets (l : List Sh) (X : List Sp) (i : Nat) : Bool := match l[i]? with | some s => !(setL 1 [s.sp] X).isEmpty | none => false
theorem shMeets_at {l : List Sh} {i : Nat} {s : Sh} (h : l[i]? = some s) (X : List Sp) : shMeets l X i = !(setL 1 [s.sp] X).isEmpty := by unfold shMeets; rw [h]
def touchL (l : List Sh) (X : List Sp) : List Int := ofTo (shMeets l X) l.length
def nodesTo (f : Int → Bool) (k : Nat) : List Int := ofTo (fun i => nodeB i && f i) k
def nodesL (l : List Sh) (P : List Int) : List Int := nodesTo (anyHas l P) 8
end S4
end Go.Proofs.YtpdfcojcmhadnaaGreat
