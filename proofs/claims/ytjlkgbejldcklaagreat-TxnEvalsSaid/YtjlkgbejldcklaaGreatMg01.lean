/- What package span's calls come to, as functions of lists: the union, what is in both sets, what is outside; each of them is a set, and what it is for each text. Conditions: none. -/
import Derived.Test.YtjlkgbejldcklaaGreatProg
import Derived.WalkKit
import Derived.WalkSpells
import Derived.WalkLawsBesides
import Derived.Lib.Hide
import Derived.StillTailTactics
import Derived.Deep.QuietTactic
import Derived.BigQuiet
import Derived.Sort.Grow
import Derived.Deep.Draws
import Derived.Deep.RegionHeld3
import Derived.Test.YtjlkgbejldcklaaGreatMg00
namespace Go.Proofs.YtjlkgbejldcklaaGreat
namespace S3
open Go.RowKit Go.Sort
theorem ret_bool {a b : Bool} (h : a = b) : Ending.returned (.bool a) = .returned (.bool b) := by rw [h]
theorem ret_int {a b : Int} (h : a = b) : Ending.returned (.int .i64 a) = .returned (.int .i64 b) := by rw [h]
def aboveT (e x : ByteArray) : Bool := noT e || ltT x e
set_option maxHeartbeats 400000 in
theorem above_any (e x : ByteArray) (w : World) :
    Calls Tryz.prog 228 #[.string e, .string x] w fun r w' => r = .returned (.bool (aboveT e x)) ∧ w = w' := by
  go_enter Tryz.func228, Tryz.ntmps228
  go_wp2
  all_goals
    go_ret
    exact ⟨ret_bool (by simp [aboveT, noT, ltT, *]), rfl⟩
def reachT (e x : ByteArray) : Bool := aboveT e x || x.toList == e.toList
def behindT (e x : ByteArray) : Bool := !noT x && aboveT e x
def laterT (e o : ByteArray) : ByteArray := if behindT e o = true then e else o
def cmpT (a b : ByteArray) : Int := if ltT a b = true then -1 else if a.toList == b.toList then 0 else 1
theorem isNaN_any (a : ByteArray) (w : World) :
    Calls Tryz.prog 274 #[.string a] w fun r w' => r = .returned (.bool false) ∧ w = w' := by
  go_enter Tryz.func274, Tryz.ntmps274
  go_wp2
  go_ret
  exact ⟨rfl, rfl⟩
theorem cmpT_neg (a b : ByteArray) : cmpT a b < 0 ↔ ltT a b = true := by
  unfold cmpT
  split
  · simp [*]
  · split <;> simp [*]
set_option maxHeartbeats 400000 in
theorem compare_any (a b : ByteArray) (w : World) :
    Calls Tryz.prog 225 #[.string a, .string b] w fun r w' => r = .returned (.int .i64 (cmpT a b)) ∧ w = w' := by
  go_enter Tryz.func225, Tryz.ntmps225
  go_wp2_with (go_at_call 274; refine (isNaN_any _ _).mono ?_; rintro r w' ⟨rfl, rfl⟩)
  all_goals
    go_ret
    exact ⟨ret_int (by simp_all [cmpT, ltT]), rfl⟩
def maxT (a b : ByteArray) : ByteArray := if ltT a b = true then b else a
@[go_sem] theorem run_max_str (w : World) (ts : Array TypeId) (t : TypeId) (a b : ByteArray) : (Builtin.max_ ts t #[.string a, .string b]).run Tryz.prog w = .ok (.string (maxT a b)) w := by
  cases h : Op.bytesLess a.toList b.toList <;> simp [Builtin.max_, Builtin.max2, Op.stringOp, asBool, maxT, ltT, h]
end S3
end Go.Proofs.YtjlkgbejldcklaaGreat

namespace Go.Proofs.YtjlkgbejldcklaaGreat
namespace S3
theorem full_above (s : Sp) : fullS s = aboveT s.2 s.1 := rfl
theorem inS_above (s : Sp) (k : ByteArray) : inS s k = (!ltT k s.1 && aboveT s.2 k) := rfl
theorem reach_iff {e x : ByteArray} : reachT e x = true ↔ noT e = true ∨ ltT e x = false := by
  unfold reachT aboveT
  simp only [Bool.or_eq_true, beq_iff_eq]
  constructor
  · rintro ((h | h) | h)
    · exact .inl h
    · exact .inr (lt_asymm h)
    · rw [text_ext h]; exact .inr (lt_irrefl _)
  · rintro (h | h)
    · exact .inl (.inl h)
    · cases h2 : ltT x e
      · exact .inr (by rw [lt_total h h2])
      · exact .inl (.inr rfl)
theorem reach_not {e x : ByteArray} (h : reachT e x = false) : noT e = false ∧ ltT e x = true := by
  have h2 : ¬ reachT e x = true := by rw [h]; simp
  rw [reach_iff] at h2
  simpa using h2
theorem behind_iff {e o : ByteArray} : behindT e o = true ↔ noT o = false ∧ (noT e = true ∨ ltT o e = true) := by
  simp [behindT, aboveT]
theorem behind_not {e o : ByteArray} (h : behindT e o = false) : noT o = true ∨ (noT e = false ∧ ltT o e = false) := by
  have h2 : ¬ behindT e o = true := by rw [h]; simp
  rw [behind_iff] at h2
  cases h3 : noT o
  · simp only [h3, true_and, not_or] at h2
    exact .inr ⟨by simpa using h2.1, by simpa using h2.2⟩
  · exact .inl rfl
theorem above_later (e o k : ByteArray) : aboveT (laterT e o) k = (aboveT e k || aboveT o k) := by
  unfold laterT
  cases h : behindT e o
  · simp only [Bool.false_eq_true, if_false]
    rcases behind_not h with h | ⟨h1, h2⟩
    · simp [aboveT, h]
    · cases h3 : noT o
      · simp only [aboveT, h1, h3, Bool.false_or]
        cases h4 : ltT k e
        · rfl
        · rw [lt_ge h4 h2]; rfl
      · simp [aboveT, h3]
  · simp only [if_true]
    obtain ⟨h1, h2⟩ := behind_iff.1 h
    rcases h2 with h2 | h2
    · simp [aboveT, h2]
    · simp only [aboveT, h1, Bool.false_or]
      cases h4 : ltT k o
      · simp
      · rw [lt_trans h4 h2]; simp
theorem in_not_full {s : Sp} (h : fullS s = false) (k : ByteArray) : inS s k = false := by
  cases h2 : inS s k
  · rfl
  · simp only [inS, Bool.and_eq_true, Bool.not_eq_true', Bool.or_eq_true] at h2
    unfold fullS at h
    simp only [Bool.or_eq_false_iff] at h
    rcases h2.2 with h3 | h3
    · rw [h3] at h; cases h.1
    · rw [ge_lt h2.1 h3] at h; cases h.2
def joinL (cur : Sp) : List Sp → List Sp
  | [] => [cur]
  | s :: l => if reachT cur.2 s.1 = true then joinL (cur.1, laterT cur.2 s.2) l else cur :: joinL s l
def byL (l : List Sp) : List Sp := match l with | [] => [] | s :: r => joinL s r
theorem full_later (s : Sp) (e : ByteArray) (h : fullS s = true) : fullS (s.1, laterT s.2 e) = true := by
  rw [full_above] at *
  show aboveT (laterT s.2 e) s.1 = true
  rw [above_later, h]
  rfl
theorem joinL_from : ∀ (l : List Sp) (cur : Sp) (x : ByteArray), ltT x cur.1 = true → (∀ s ∈ l, ltT x s.1 = true) → ∀ c ∈ joinL cur l, ltT x c.1 = true
  | [], cur, x, h, _, c, hc => by
    simp only [joinL, List.mem_singleton] at hc
    subst hc
    exact h
  | s :: l, cur, x, h, hl, c, hc => by
    unfold joinL at hc
    split at hc
    · exact joinL_from l (cur.1, laterT cur.2 s.2) x h (fun t ht => hl t (by simp [ht])) c hc
    · rcases List.mem_cons.1 hc with rfl | hc
      · exact h
      · exact joinL_from l s x (hl s (by simp)) (fun t ht => hl t (by simp [ht])) c hc
theorem joinL_set : ∀ (l : List Sp) (cur : Sp), fullS cur = true → (∀ s ∈ l, fullS s = true) → (l.Pairwise fun s t => ltT t.1 s.1 = false) → IsSet (joinL cur l)
  | [], cur, h, _, _ => isSet_cons.2 ⟨h, fun t ht => (by cases ht), isSet_nil⟩
  | s :: l, cur, h, hf, hs => by
    obtain ⟨h1, h2⟩ := List.pairwise_cons.1 hs
    unfold joinL
    split
    · exact joinL_set l _ (full_later cur s.2 h) (fun t ht => hf t (by simp [ht])) h2
    · rename_i hr
      obtain ⟨h3, h4⟩ := reach_not (by simpa using hr : reachT cur.2 s.1 = false)
      exact isSet_cons.2 ⟨h, fun c hc => ⟨h3, joinL_from l s cur.2 h4 (fun t ht => lt_ge h4 (h1 t ht)) c hc⟩, joinL_set l s (hf s (by simp)) (fun t ht => hf t (by simp [ht])) h2⟩
theorem joinL_mem : ∀ (l : List Sp) (cur : Sp), (∀ s ∈ l, ltT s.1 cur.1 = false) → (l.Pairwise fun s t => ltT t.1 s.1 = false) → ∀ k, memL (joinL cur l) k = memL (cur :: l) k
  | [], cur, _, _, k => rfl
  | s :: l, cur, h, hs, k => by
    obtain ⟨h1, h2⟩ := List.pairwise_cons.1 hs
    have hcs := h s (by simp)
    unfold joinL
    split
    · rename_i hr
      rw [joinL_mem l (cur.1, laterT cur.2 s.2) (fun t ht => h t (by simp [ht])) h2 k]
      rw [memL_cons, memL_cons, memL_cons, ← Bool.or_assoc]
      congr 1
      rw [inS_above, inS_above, inS_above]
      show (!ltT k cur.1 && aboveT (laterT cur.2 s.2) k) = _
      rw [above_later]
      cases h3 : ltT k cur.1
      · cases h4 : ltT k s.1
        · cases aboveT cur.2 k <;> cases aboveT s.2 k <;> rfl
        · have : aboveT cur.2 k = true := by
            unfold aboveT
            rcases reach_iff.1 hr with h5 | h5
            · rw [h5]; rfl
            · rw [lt_ge h4 h5]; simp
          rw [this]
          rfl
      · rw [lt_ge h3 hcs]
        rfl
    · rw [memL_cons, joinL_mem l s h1 h2 k, memL_cons, memL_cons, memL_cons]
theorem byL_set {l : List Sp} (hf : ∀ s ∈ l, fullS s = true) (hs : l.Pairwise fun s t => ltT t.1 s.1 = false) : IsSet (byL l) := by
  cases l with
  | nil => exact isSet_nil
  | cons s l => exact joinL_set l s (hf s (by simp)) (fun t ht => hf t (by simp [ht])) (List.pairwise_cons.1 hs).2
theorem byL_mem {l : List Sp} (hs : l.Pairwise fun s t => ltT t.1 s.1 = false) (k : ByteArray) : memL (byL l) k = memL l k := by
  cases l with
  | nil => rfl
  | cons s l => exact joinL_mem l s (List.pairwise_cons.1 hs).1 (List.pairwise_cons.1 hs).2 k
theorem memL_filter (l : List Sp) (k : ByteArray) : memL (l.filter fullS) k = memL l k := by
  induction l with
  | nil => rfl
  | cons s l ih =>
    rw [List.filter_cons]
    cases h : fullS s
    · simp [memL_cons, in_not_full h, ih]
    · simp [memL_cons, ih]
theorem laterT_or (e o : ByteArray) : laterT e o = e ∨ laterT e o = o := by
  unfold laterT
  split
  · exact .inl rfl
  · exact .inr rfl
theorem joinL_ends : ∀ (l : List Sp) (cur : Sp) (c : Sp), c ∈ joinL cur l → (∃ s ∈ cur :: l, s.1 = c.1) ∧ ∃ s ∈ cur :: l, s.2 = c.2
  | [], cur, c, hc => by
    simp only [joinL, List.mem_singleton] at hc
    subst hc
    exact ⟨⟨c, by simp, rfl⟩, ⟨c, by simp, rfl⟩⟩
  | s :: l, cur, c, hc => by
    unfold joinL at hc
    split at hc
    · obtain ⟨⟨u, hu, e1⟩, ⟨v, hv, e2⟩⟩ := joinL_ends l _ c hc
      refine ⟨?_, ?_⟩
      · rcases List.mem_cons.1 hu with rfl | hu
        · exact ⟨cur, by simp, e1⟩
        · exact ⟨u, by simp [hu], e1⟩
      · rcases List.mem_cons.1 hv with rfl | hv
        · rcases laterT_or cur.2 s.2 with e | e
          · exact ⟨cur, by simp, by rw [← e2]; exact e.symm⟩
          · exact ⟨s, by simp, by rw [← e2]; exact e.symm⟩
        · exact ⟨v, by simp [hv], e2⟩
    · rcases List.mem_cons.1 hc with rfl | hc
      · exact ⟨⟨c, by simp, rfl⟩, ⟨c, by simp, rfl⟩⟩
      · obtain ⟨⟨u, hu, e1⟩, ⟨v, hv, e2⟩⟩ := joinL_ends l s c hc
        exact ⟨⟨u, List.mem_cons_of_mem _ hu, e1⟩, ⟨v, List.mem_cons_of_mem _ hv, e2⟩⟩
theorem joinL_len : ∀ (l : List Sp) (cur : Sp), (joinL cur l).length ≤ l.length + 1
  | [], cur => by simp [joinL]
  | s :: l, cur => by
    unfold joinL
    split
    · have := joinL_len l (cur.1, laterT cur.2 s.2); simp; omega
    · have := joinL_len l s; simp; omega
theorem byL_len (l : List Sp) : (byL l).length ≤ l.length := by
  cases l with
  | nil => simp [byL]
  | cons s l => exact joinL_len l s
theorem byL_ends {l : List Sp} {c : Sp} (hc : c ∈ byL l) : (∃ s ∈ l, s.1 = c.1) ∧ ∃ s ∈ l, s.2 = c.2 := by
  cases l with
  | nil => cases hc
  | cons s l => exact joinL_ends l s c hc
structure Uni (l u : List Sp) : Prop where
  set : IsSet u
  mem : ∀ k, memL u k = memL l k
  len : u.length ≤ l.length
  ends : ∀ c ∈ u, (∃ s ∈ l, s.1 = c.1) ∧ ∃ s ∈ l, s.2 = c.2
theorem uni_of {l d : List Sp} (hp : d.Perm (l.filter fullS)) (hs : d.Pairwise fun s t => ltT t.1 s.1 = false) : Uni l (byL d) where
  set := byL_set (fun s h => (List.mem_filter.1 (hp.mem_iff.1 h)).2) hs
  mem k := by rw [byL_mem hs, memL_perm hp, memL_filter]
  len := Nat.le_trans (byL_len d) (by rw [hp.length_eq]; exact List.length_filter_le _ _)
  ends c hc := by
    obtain ⟨⟨s, h1, e1⟩, ⟨t, h2, e2⟩⟩ := byL_ends hc
    exact ⟨⟨s, (List.mem_filter.1 (hp.mem_iff.1 h1)).1, e1⟩, ⟨t, (List.mem_filter.1 (hp.mem_iff.1 h2)).1, e2⟩⟩
theorem Uni.eq {l u v : List Sp} (h1 : Uni l u) (h2 : IsSet v) (h3 : ∀ k, memL v k = memL l k) : u = v := set_uniq h1.set h2 fun k => (h1.mem k).trans (h3 k).symm
end S3
end Go.Proofs.YtjlkgbejldcklaaGreat
