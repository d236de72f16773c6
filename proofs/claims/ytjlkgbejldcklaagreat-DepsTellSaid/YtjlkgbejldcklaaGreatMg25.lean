/- Topologies as lists: shards, whether they may be, which shard holds a text, which have a node, which meet a set; what follows of a topology that may be. Conditions: none. -/
import Derived.Test.YtjlkgbejldcklaaGreatProg
import Derived.WalkKit
import Derived.WalkSpells
import Derived.WalkLawsBesides
import Derived.Lib.Hide
import Derived.StillTailTactics
import Derived.Deep.QuietTactic
import Derived.BigQuiet
import Derived.Sort.Grow
import Derived.Deep.Draws
import Derived.Deep.RegionHeld3
import Derived.Test.YtjlkgbejldcklaaGreatMg24
/- Contracts of the small functions of package span: an end's methods, isEmpty, the order of spans. Conditions: none. -/
namespace Go.Proofs.YtjlkgbejldcklaaGreat
namespace S3
open Go.RowKit Go.Sort

theorem ret_bool {a b : Bool} (h : a = b) : Ending.returned (.bool a) = .returned (.bool b) := by rw [h]
theorem ret_int {a b : Int} (h : a = b) : Ending.returned (.int .i64 a) = .returned (.int .i64 b) := by rw [h]

def aboveT (e x : ByteArray) : Bool := noT e || ltT x e
set_option maxHeartbeats 400000 in
theorem above_any (e x : ByteArray) (w : World) :
    Calls Tryz.prog 228 #[.string e, .string x] w fun r w' => r = .returned (.bool (aboveT e x)) ∧ w = w' := by
  go_enter Tryz.func228, Tryz.ntmps228
  go_wp2
  all_goals
    go_ret
    exact ⟨ret_bool (by simp [aboveT, noT, ltT, *]), rfl⟩

def reachT (e x : ByteArray) : Bool := aboveT e x || x.toList == e.toList
def behindT (e x : ByteArray) : Bool := !noT x && aboveT e x
def laterT (e o : ByteArray) : ByteArray := if behindT e o = true then e else o
def soonerT (e o : ByteArray) : ByteArray := if behindT e o = true then o else e
def cmpT (a b : ByteArray) : Int := if ltT a b = true then -1 else if a.toList == b.toList then 0 else 1
theorem isNaN_any (a : ByteArray) (w : World) :
    Calls Tryz.prog 274 #[.string a] w fun r w' => r = .returned (.bool false) ∧ w = w' := by
  go_enter Tryz.func274, Tryz.ntmps274
  go_wp2
  go_ret
  exact ⟨rfl, rfl⟩
theorem cmpT_neg (a b : ByteArray) : cmpT a b < 0 ↔ ltT a b = true := by
  unfold cmpT
  split
  · simp [*]
  · split <;> simp [*]
set_option maxHeartbeats 400000 in
theorem compare_any (a b : ByteArray) (w : World) :
    Calls Tryz.prog 225 #[.string a, .string b] w fun r w' => r = .returned (.int .i64 (cmpT a b)) ∧ w = w' := by
  go_enter Tryz.func225, Tryz.ntmps225
  go_wp2_with (go_at_call 274; refine (isNaN_any _ _).mono ?_; rintro r w' ⟨rfl, rfl⟩)
  all_goals
    go_ret
    exact ⟨ret_int (by simp_all [cmpT, ltT]), rfl⟩

/-- What two spans have in common. -/
def maxT (a b : ByteArray) : ByteArray := if ltT a b = true then b else a
def commonS (s t : Sp) : Sp := (maxT s.1 t.1, soonerT s.2 t.2)
@[go_sem] theorem run_max_str (w : World) (ts : Array TypeId) (t : TypeId) (a b : ByteArray) : (Builtin.max_ ts t #[.string a, .string b]).run Tryz.prog w = .ok (.string (maxT a b)) w := by
  cases h : Op.bytesLess a.toList b.toList <;> simp [Builtin.max_, Builtin.max2, Op.stringOp, asBool, maxT, ltT, h]
end S3
end Go.Proofs.YtjlkgbejldcklaaGreat

/- What package span's calls come to, as functions of lists: the union, what is in both sets, what is outside; each of them is a set, and what it is for each text. Conditions: none. -/
namespace Go.Proofs.YtjlkgbejldcklaaGreat
namespace S3

theorem full_above (s : Sp) : fullS s = aboveT s.2 s.1 := rfl
theorem inS_above (s : Sp) (k : ByteArray) : inS s k = (!ltT k s.1 && aboveT s.2 k) := rfl
theorem reach_iff {e x : ByteArray} : reachT e x = true ↔ noT e = true ∨ ltT e x = false := by
  unfold reachT aboveT
  simp only [Bool.or_eq_true, beq_iff_eq]
  constructor
  · rintro ((h | h) | h)
    · exact .inl h
    · exact .inr (lt_asymm h)
    · rw [text_ext h]; exact .inr (lt_irrefl _)
  · rintro (h | h)
    · exact .inl (.inl h)
    · cases h2 : ltT x e
      · exact .inr (by rw [lt_total h h2])
      · exact .inl (.inr rfl)
theorem reach_not {e x : ByteArray} (h : reachT e x = false) : noT e = false ∧ ltT e x = true := by
  have h2 : ¬ reachT e x = true := by rw [h]; simp
  rw [reach_iff] at h2
  simpa using h2
theorem behind_iff {e o : ByteArray} : behindT e o = true ↔ noT o = false ∧ (noT e = true ∨ ltT o e = true) := by
  simp [behindT, aboveT]
theorem behind_not {e o : ByteArray} (h : behindT e o = false) : noT o = true ∨ (noT e = false ∧ ltT o e = false) := by
  have h2 : ¬ behindT e o = true := by rw [h]; simp
  rw [behind_iff] at h2
  cases h3 : noT o
  · simp only [h3, true_and, not_or] at h2
    exact .inr ⟨by simpa using h2.1, by simpa using h2.2⟩
  · exact .inl rfl
theorem above_later (e o k : ByteArray) : aboveT (laterT e o) k = (aboveT e k || aboveT o k) := by
  unfold laterT
  cases h : behindT e o
  · simp only [Bool.false_eq_true, if_false]
    rcases behind_not h with h | ⟨h1, h2⟩
    · simp [aboveT, h]
    · cases h3 : noT o
      · simp only [aboveT, h1, h3, Bool.false_or]
        cases h4 : ltT k e
        · rfl
        · rw [lt_ge h4 h2]; rfl
      · simp [aboveT, h3]
  · simp only [if_true]
    obtain ⟨h1, h2⟩ := behind_iff.1 h
    rcases h2 with h2 | h2
    · simp [aboveT, h2]
    · simp only [aboveT, h1, Bool.false_or]
      cases h4 : ltT k o
      · simp
      · rw [lt_trans h4 h2]; simp
theorem in_not_full {s : Sp} (h : fullS s = false) (k : ByteArray) : inS s k = false := by
  cases h2 : inS s k
  · rfl
  · simp only [inS, Bool.and_eq_true, Bool.not_eq_true', Bool.or_eq_true] at h2
    unfold fullS at h
    simp only [Bool.or_eq_false_iff] at h
    rcases h2.2 with h3 | h3
    · rw [h3] at h; cases h.1
    · rw [ge_lt h2.1 h3] at h; cases h.2

/-- What two sets have in common: whoever ends first is done with. -/
def cutF : Nat → List Sp → List Sp → List Sp
  | n + 1, s :: a, t :: b => (if fullS (commonS s t) = true then [commonS s t] else []) ++ (if behindT s.2 t.2 = true then cutF n (s :: a) b else cutF n a (t :: b))
  | _, _, _ => []
def cutL (a b : List Sp) : List Sp := cutF (a.length + b.length) a b
/-- Spans by rising From, joined where they meet or touch: cur is the last one so far. -/
def joinL (cur : Sp) : List Sp → List Sp
  | [] => [cur]
  | s :: l => if reachT cur.2 s.1 = true then joinL (cur.1, laterT cur.2 s.2) l else cur :: joinL s l
def byL (l : List Sp) : List Sp := match l with | [] => [] | s :: r => joinL s r
theorem full_later (s : Sp) (e : ByteArray) (h : fullS s = true) : fullS (s.1, laterT s.2 e) = true := by
  rw [full_above] at *
  show aboveT (laterT s.2 e) s.1 = true
  rw [above_later, h]
  rfl
theorem joinL_from : ∀ (l : List Sp) (cur : Sp) (x : ByteArray), ltT x cur.1 = true → (∀ s ∈ l, ltT x s.1 = true) → ∀ c ∈ joinL cur l, ltT x c.1 = true
  | [], cur, x, h, _, c, hc => by
    simp only [joinL, List.mem_singleton] at hc
    subst hc
    exact h
  | s :: l, cur, x, h, hl, c, hc => by
    unfold joinL at hc
    split at hc
    · exact joinL_from l (cur.1, laterT cur.2 s.2) x h (fun t ht => hl t (by simp [ht])) c hc
    · rcases List.mem_cons.1 hc with rfl | hc
      · exact h
      · exact joinL_from l s x (hl s (by simp)) (fun t ht => hl t (by simp [ht])) c hc
theorem joinL_set : ∀ (l : List Sp) (cur : Sp), fullS cur = true → (∀ s ∈ l, fullS s = true) → (l.Pairwise fun s t => ltT t.1 s.1 = false) → IsSet (joinL cur l)
  | [], cur, h, _, _ => isSet_cons.2 ⟨h, fun t ht => (by cases ht), isSet_nil⟩
  | s :: l, cur, h, hf, hs => by
    obtain ⟨h1, h2⟩ := List.pairwise_cons.1 hs
    unfold joinL
    split
    · exact joinL_set l _ (full_later cur s.2 h) (fun t ht => hf t (by simp [ht])) h2
    · rename_i hr
      obtain ⟨h3, h4⟩ := reach_not (by simpa using hr : reachT cur.2 s.1 = false)
      exact isSet_cons.2 ⟨h, fun c hc => ⟨h3, joinL_from l s cur.2 h4 (fun t ht => lt_ge h4 (h1 t ht)) c hc⟩, joinL_set l s (hf s (by simp)) (fun t ht => hf t (by simp [ht])) h2⟩
theorem joinL_mem : ∀ (l : List Sp) (cur : Sp), (∀ s ∈ l, ltT s.1 cur.1 = false) → (l.Pairwise fun s t => ltT t.1 s.1 = false) → ∀ k, memL (joinL cur l) k = memL (cur :: l) k
  | [], cur, _, _, k => rfl
  | s :: l, cur, h, hs, k => by
    obtain ⟨h1, h2⟩ := List.pairwise_cons.1 hs
    have hcs := h s (by simp)
    unfold joinL
    split
    · rename_i hr
      rw [joinL_mem l (cur.1, laterT cur.2 s.2) (fun t ht => h t (by simp [ht])) h2 k]
      rw [memL_cons, memL_cons, memL_cons, ← Bool.or_assoc]
      congr 1
      rw [inS_above, inS_above, inS_above]
      show (!ltT k cur.1 && aboveT (laterT cur.2 s.2) k) = _
      rw [above_later]
      cases h3 : ltT k cur.1
      · cases h4 : ltT k s.1
        · cases aboveT cur.2 k <;> cases aboveT s.2 k <;> rfl
        · have : aboveT cur.2 k = true := by
            unfold aboveT
            rcases reach_iff.1 hr with h5 | h5
            · rw [h5]; rfl
            · rw [lt_ge h4 h5]; simp
          rw [this]
          rfl
      · rw [lt_ge h3 hcs]
        rfl
    · rw [memL_cons, joinL_mem l s h1 h2 k, memL_cons, memL_cons, memL_cons]
theorem byL_set {l : List Sp} (hf : ∀ s ∈ l, fullS s = true) (hs : l.Pairwise fun s t => ltT t.1 s.1 = false) : IsSet (byL l) := by
  cases l with
  | nil => exact isSet_nil
  | cons s l => exact joinL_set l s (hf s (by simp)) (fun t ht => hf t (by simp [ht])) (List.pairwise_cons.1 hs).2
theorem byL_mem {l : List Sp} (hs : l.Pairwise fun s t => ltT t.1 s.1 = false) (k : ByteArray) : memL (byL l) k = memL l k := by
  cases l with
  | nil => rfl
  | cons s l => exact joinL_mem l s (List.pairwise_cons.1 hs).1 (List.pairwise_cons.1 hs).2 k
theorem memL_filter (l : List Sp) (k : ByteArray) : memL (l.filter fullS) k = memL l k := by
  induction l with
  | nil => rfl
  | cons s l ih =>
    rw [List.filter_cons]
    cases h : fullS s
    · simp [memL_cons, in_not_full h, ih]
    · simp [memL_cons, ih]
theorem laterT_or (e o : ByteArray) : laterT e o = e ∨ laterT e o = o := by
  unfold laterT
  split
  · exact .inl rfl
  · exact .inr rfl
theorem joinL_ends : ∀ (l : List Sp) (cur : Sp) (c : Sp), c ∈ joinL cur l → (∃ s ∈ cur :: l, s.1 = c.1) ∧ ∃ s ∈ cur :: l, s.2 = c.2
  | [], cur, c, hc => by
    simp only [joinL, List.mem_singleton] at hc
    subst hc
    exact ⟨⟨c, by simp, rfl⟩, ⟨c, by simp, rfl⟩⟩
  | s :: l, cur, c, hc => by
    unfold joinL at hc
    split at hc
    · obtain ⟨⟨u, hu, e1⟩, ⟨v, hv, e2⟩⟩ := joinL_ends l _ c hc
      refine ⟨?_, ?_⟩
      · rcases List.mem_cons.1 hu with rfl | hu
        · exact ⟨cur, by simp, e1⟩
        · exact ⟨u, by simp [hu], e1⟩
      · rcases List.mem_cons.1 hv with rfl | hv
        · rcases laterT_or cur.2 s.2 with e | e
          · exact ⟨cur, by simp, by rw [← e2]; exact e.symm⟩
          · exact ⟨s, by simp, by rw [← e2]; exact e.symm⟩
        · exact ⟨v, by simp [hv], e2⟩
    · rcases List.mem_cons.1 hc with rfl | hc
      · exact ⟨⟨c, by simp, rfl⟩, ⟨c, by simp, rfl⟩⟩
      · obtain ⟨⟨u, hu, e1⟩, ⟨v, hv, e2⟩⟩ := joinL_ends l s c hc
        exact ⟨⟨u, List.mem_cons_of_mem _ hu, e1⟩, ⟨v, List.mem_cons_of_mem _ hv, e2⟩⟩
theorem joinL_len : ∀ (l : List Sp) (cur : Sp), (joinL cur l).length ≤ l.length + 1
  | [], cur => by simp [joinL]
  | s :: l, cur => by
    unfold joinL
    split
    · have := joinL_len l (cur.1, laterT cur.2 s.2); simp; omega
    · have := joinL_len l s; simp; omega
theorem byL_len (l : List Sp) : (byL l).length ≤ l.length := by
  cases l with
  | nil => simp [byL]
  | cons s l => exact joinL_len l s
theorem byL_ends {l : List Sp} {c : Sp} (hc : c ∈ byL l) : (∃ s ∈ l, s.1 = c.1) ∧ ∃ s ∈ l, s.2 = c.2 := by
  cases l with
  | nil => cases hc
  | cons s l => exact joinL_ends l s c hc

/-- What the union of l is: a set, with l's texts, whose edges are l's. -/
structure Uni (l u : List Sp) : Prop where
  set : IsSet u
  mem : ∀ k, memL u k = memL l k
  len : u.length ≤ l.length
  ends : ∀ c ∈ u, (∃ s ∈ l, s.1 = c.1) ∧ ∃ s ∈ l, s.2 = c.2
theorem uni_of {l d : List Sp} (hp : d.Perm (l.filter fullS)) (hs : d.Pairwise fun s t => ltT t.1 s.1 = false) : Uni l (byL d) where
  set := byL_set (fun s h => (List.mem_filter.1 (hp.mem_iff.1 h)).2) hs
  mem k := by rw [byL_mem hs, memL_perm hp, memL_filter]
  len := Nat.le_trans (byL_len d) (by rw [hp.length_eq]; exact List.length_filter_le _ _)
  ends c hc := by
    obtain ⟨⟨s, h1, e1⟩, ⟨t, h2, e2⟩⟩ := byL_ends hc
    exact ⟨⟨s, (List.mem_filter.1 (hp.mem_iff.1 h1)).1, e1⟩, ⟨t, (List.mem_filter.1 (hp.mem_iff.1 h2)).1, e2⟩⟩
theorem Uni.eq {l u v : List Sp} (h1 : Uni l u) (h2 : IsSet v) (h3 : ∀ k, memL v k = memL l k) : u = v := set_uniq h1.set h2 fun k => (h1.mem k).trans (h3 k).symm

end S3
end Go.Proofs.YtjlkgbejldcklaaGreat

/- The reference's answer, as functions of lists: the texts at which something begins or ends; the set between them; it is a set, and what it is for each text. Conditions: none. -/
namespace Go.Proofs.YtjlkgbejldcklaaGreat
namespace S3

/-- A text more, in its place, unless it is there. -/
def insT (x : ByteArray) : List ByteArray → List ByteArray
  | [] => [x]
  | y :: r => if ltT y x = true then y :: insT x r else if y.toList == x.toList then y :: r else x :: y :: r
theorem insT_at (x : ByteArray) : ∀ (l : List ByteArray) (k : Nat), (∀ j y, j < k → l[j]? = some y → ltT y x = true) → (∀ y, l[k]? = some y → ltT y x = false) → k ≤ l.length →
    insT x l = if l[k]? = some x then l else l.take k ++ ([x] ++ l.drop k)
  | [], k, _, _, hk => by
    obtain rfl : k = 0 := by simpa using hk
    simp [insT]
  | y :: r, 0, _, h2, _ => by
    have hx := h2 y rfl
    unfold insT
    rw [if_neg (by rw [hx]; simp)]
    by_cases hs : y = x
    · subst hs
      simp
    · have : (y.toList == x.toList) = false := by
        simp only [beq_eq_false_iff_ne]
        exact fun e => hs (text_ext e)
      rw [if_neg (by rw [this]; simp), if_neg (by simpa using hs)]
      rfl
  | y :: r, k + 1, h1, h2, hk => by
    have hx := h1 0 y (Nat.succ_pos _) rfl
    have ih := insT_at x r k (fun j y hj hy => h1 (j + 1) y (by omega) (by simpa using hy)) (fun y hy => h2 y (by simpa using hy)) (by simpa using hk)
    unfold insT
    rw [if_pos hx, ih]
    simp only [List.getElem?_cons_succ, List.take_succ_cons, List.drop_succ_cons, List.cons_append]
    split <;> rfl
def Rises (l : List ByteArray) : Prop := l.Pairwise fun a b => ltT a b = true
theorem insT_mem (x : ByteArray) : ∀ (l : List ByteArray) (y : ByteArray), y ∈ insT x l ↔ y = x ∨ y ∈ l
  | [], y => by simp [insT]
  | z :: r, y => by
    unfold insT
    split
    · rw [List.mem_cons, insT_mem x r y, List.mem_cons]
      constructor
      · rintro (h | h | h)
        · exact .inr (.inl h)
        · exact .inl h
        · exact .inr (.inr h)
      · rintro (h | h | h)
        · exact .inr (.inl h)
        · exact .inl h
        · exact .inr (.inr h)
    · split
      · rename_i h2
        have e : z = x := text_ext (by simpa using h2)
        subst e
        simp
      · simp
theorem insT_rises (x : ByteArray) : ∀ (l : List ByteArray), Rises l → Rises (insT x l)
  | [], _ => List.pairwise_singleton _ _
  | z :: r, h => by
    obtain ⟨h1, h2⟩ := List.pairwise_cons.1 h
    unfold insT
    split
    · rename_i hz
      refine List.pairwise_cons.2 ⟨fun y hy => ?_, insT_rises x r h2⟩
      rcases (insT_mem x r y).1 hy with rfl | hy
      · exact hz
      · exact h1 y hy
    · rename_i hz
      split
      · exact h
      · rename_i hn
        have hzx : ltT x z = true := by
          cases hc : ltT x z
          · exact absurd (by rw [lt_total (by simpa using hz) hc]; simp) hn
          · rfl
        refine List.pairwise_cons.2 ⟨fun y hy => ?_, h⟩
        rcases List.mem_cons.1 hy with rfl | hy
        · exact hzx
        · exact lt_trans hzx (h1 y hy)
theorem insT_len (x : ByteArray) : ∀ (l : List ByteArray), (insT x l).length ≤ l.length + 1
  | [] => by simp [insT]
  | z :: r => by
    unfold insT
    have := insT_len x r
    split
    · simp; omega
    · split <;> simp
/-- The texts at which spans begin or end. -/
def markS (m : List ByteArray) (s : Sp) : List ByteArray := if noT s.2 = true then insT s.1 m else insT s.2 (insT s.1 m)
def marksL (l : List Sp) : List ByteArray := l.foldl markS []
theorem marksL_take {l : List Sp} {k : Nat} {s : Sp} (h : l[k]? = some s) : marksL (l.take (k + 1)) = markS (marksL (l.take k)) s := by
  unfold marksL
  rw [List.take_add_one, h]
  simp [List.foldl_append]
theorem markS_mem (m : List ByteArray) (s : Sp) (y : ByteArray) : y ∈ markS m s ↔ y ∈ m ∨ y = s.1 ∨ (noT s.2 = false ∧ y = s.2) := by
  unfold markS
  split
  · rename_i h
    rw [insT_mem]
    simp [h, or_comm]
  · rename_i h
    rw [insT_mem, insT_mem]
    simp only [Bool.not_eq_true] at h
    simp only [h, true_and]
    constructor
    · rintro (h | h | h)
      · exact .inr (.inr h)
      · exact .inr (.inl h)
      · exact .inl h
    · rintro (h | h | h)
      · exact .inr (.inr h)
      · exact .inr (.inl h)
      · exact .inl h
theorem markS_rises {m : List ByteArray} (h : Rises m) (s : Sp) : Rises (markS m s) := by
  unfold markS
  split
  · exact insT_rises _ _ h
  · exact insT_rises _ _ (insT_rises _ _ h)
theorem foldl_marks (l : List Sp) : ∀ (m : List ByteArray), Rises m → Rises (l.foldl markS m) ∧ (∀ y, y ∈ l.foldl markS m ↔ y ∈ m ∨ ∃ s ∈ l, y = s.1 ∨ (noT s.2 = false ∧ y = s.2)) := by
  induction l with
  | nil => intro m h; exact ⟨h, fun y => by simp⟩
  | cons s l ih =>
    intro m h
    obtain ⟨h1, h2⟩ := ih (markS m s) (markS_rises h s)
    refine ⟨h1, fun y => ?_⟩
    rw [List.foldl_cons, h2, markS_mem]
    constructor
    · rintro ((h | h) | ⟨t, ht, h⟩)
      · exact .inl h
      · exact .inr ⟨s, by simp, h⟩
      · exact .inr ⟨t, by simp [ht], h⟩
    · rintro (h | ⟨t, ht, h⟩)
      · exact .inl (.inl h)
      · rcases List.mem_cons.1 ht with rfl | ht
        · exact .inl (.inr h)
        · exact .inr ⟨t, ht, h⟩
theorem marksL_rises (l : List Sp) : Rises (marksL l) := (foldl_marks l [] List.Pairwise.nil).1
theorem marksL_mem (l : List Sp) (y : ByteArray) : y ∈ marksL l ↔ ∃ s ∈ l, y = s.1 ∨ (noT s.2 = false ∧ y = s.2) := by
  unfold marksL
  rw [(foldl_marks l [] List.Pairwise.nil).2]
  simp
theorem markS_len (m : List ByteArray) (s : Sp) : (markS m s).length ≤ m.length + 2 := by
  unfold markS
  have h1 := insT_len s.1 m
  have h2 := insT_len s.2 (insT s.1 m)
  split <;> omega
theorem marksL_len (l : List Sp) : (marksL l).length ≤ 2 * l.length := by
  suffices h : ∀ (l : List Sp) (m : List ByteArray), (l.foldl markS m).length ≤ m.length + 2 * l.length by
    have := h l []
    simpa [marksL] using this
  intro l
  induction l with
  | nil => intro m; simp
  | cons s l ih =>
    intro m
    have h1 := ih (markS m s)
    have h2 := markS_len m s
    rw [List.foldl_cons, List.length_cons]
    omega

/-- Between marks: from where something is open on. -/
def buildL (P : ByteArray → Bool) : Option ByteArray → List ByteArray → List Sp
  | none, [] => []
  | some f, [] => [(f, ⟨#[]⟩)]
  | none, x :: r => if P x = true then buildL P (some x) r else buildL P none r
  | some f, x :: r => if P x = true then buildL P (some f) r else (f, x) :: buildL P none r
/-- Some open text is ahead of all these. -/
def Ahead (o : Option ByteArray) (m : List ByteArray) : Prop := ∀ f, o = some f → ∀ x ∈ m, ltT f x = true
theorem Ahead.none (m : List ByteArray) : Ahead .none m := fun f h => by cases h
theorem Ahead.tail {o : Option ByteArray} {x : ByteArray} {m : List ByteArray} (h : Ahead o (x :: m)) : Ahead o m := fun f hf y hy => h f hf y (by simp [hy])
theorem Ahead.head {x : ByteArray} {m : List ByteArray} (h : Rises (x :: m)) : Ahead (some x) m := fun f hf y hy => by
  cases hf
  exact (List.pairwise_cons.1 h).1 y hy
theorem Rises.tail {x : ByteArray} {m : List ByteArray} (h : Rises (x :: m)) : Rises m := (List.pairwise_cons.1 h).2
theorem buildL_below (P : ByteArray → Bool) : ∀ (m : List ByteArray) (o : Option ByteArray) (k : ByteArray), Rises m → Ahead o m → (∀ x ∈ m, ltT k x = true) → memL (buildL P o m) k = (match o with | none => false | some f => !ltT k f)
  | [], none, k, _, _, _ => rfl
  | [], some f, k, _, _, _ => by
    have : noT (⟨#[]⟩ : ByteArray) = true := noT_iff.2 rfl
    simp [buildL, memL_cons, memL_nil, inS, this]
  | x :: r, none, k, hr, _, hk => by
    unfold buildL
    split
    · rw [buildL_below P r (some x) k hr.tail (Ahead.head hr) (fun y hy => hk y (by simp [hy]))]
      simp [hk x (by simp)]
    · rw [buildL_below P r none k hr.tail (Ahead.none _) (fun y hy => hk y (by simp [hy]))]
  | x :: r, some f, k, hr, ha, hk => by
    have hkx := hk x (by simp)
    unfold buildL
    split
    · rw [buildL_below P r (some f) k hr.tail ha.tail (fun y hy => hk y (by simp [hy]))]
    · rw [memL_cons, buildL_below P r none k hr.tail (Ahead.none _) (fun y hy => hk y (by simp [hy]))]
      simp [inS, hkx]
/-- At a text the set is as at the last mark that is not behind it. -/
theorem buildL_at (P : ByteArray → Bool) : ∀ (m : List ByteArray) (x : ByteArray) (o : Option ByteArray) (k : ByteArray), Rises (x :: m) → Ahead o (x :: m) → ltT k x = false →
    ∃ y ∈ x :: m, ltT k y = false ∧ (∀ z ∈ x :: m, ltT k z = false → ltT y z = false) ∧ memL (buildL P o (x :: m)) k = P y := by
  have last : ∀ (m : List ByteArray) (x : ByteArray) (o : Option ByteArray) (k : ByteArray), Rises (x :: m) → Ahead o (x :: m) → ltT k x = false → (∀ z ∈ m, ltT k z = true) →
      ∃ y ∈ x :: m, ltT k y = false ∧ (∀ z ∈ x :: m, ltT k z = false → ltT y z = false) ∧ memL (buildL P o (x :: m)) k = P y := by
    intro m x o k hr ha hk hz
    refine ⟨x, by simp, hk, fun z hzm hkz => ?_, ?_⟩
    · rcases List.mem_cons.1 hzm with rfl | hzm
      · exact lt_irrefl _
      · rw [hz z hzm] at hkz
        cases hkz
    · cases o with
      | none =>
        unfold buildL
        cases hp : P x
        · simp only [Bool.false_eq_true, if_false]
          rw [buildL_below P m none k hr.tail (Ahead.none _) hz]
        · simp only [if_true]
          rw [buildL_below P m (some x) k hr.tail (Ahead.head hr) hz]
          simp [hk]
      | some f =>
        have hfx := ha f rfl x (by simp)
        unfold buildL
        cases hp : P x
        · simp only [Bool.false_eq_true, if_false]
          rw [memL_cons, buildL_below P m none k hr.tail (Ahead.none _) hz, inS_to (noT_of_lt hfx) hk]
          rfl
        · simp only [if_true]
          rw [buildL_below P m (some f) k hr.tail ha.tail hz]
          have : ltT k f = false := by
            cases h : ltT k f
            · rfl
            · rw [lt_trans h hfx] at hk
              cases hk
          simp [this]
  intro m
  induction m with
  | nil => intro x o k hr ha hk; exact last [] x o k hr ha hk (fun z hz => by cases hz)
  | cons x2 m ih =>
    intro x o k hr ha hk
    cases hk2 : ltT k x2
    · have hx12 : ltT x x2 = true := (List.pairwise_cons.1 hr).1 x2 (by simp)
      have go : ∀ (o' : Option ByteArray), Ahead o' (x2 :: m) → (memL (buildL P o (x :: x2 :: m)) k = memL (buildL P o' (x2 :: m)) k) → ∃ y ∈ x :: x2 :: m, ltT k y = false ∧ (∀ z ∈ x :: x2 :: m, ltT k z = false → ltT y z = false) ∧ memL (buildL P o (x :: x2 :: m)) k = P y := by
        intro o' ha' he
        obtain ⟨y, hy, h1, h2, h3⟩ := ih x2 o' k hr.tail ha' hk2
        refine ⟨y, by simp at hy ⊢; exact .inr hy, h1, fun z hz hkz => ?_, he.trans h3⟩
        rcases List.mem_cons.1 hz with rfl | hz
        · have := h2 x2 (by simp) hk2
          exact lt_asymm (lt_ge hx12 this)
        · exact h2 z hz hkz
      cases o with
      | none =>
        cases hp : P x
        · exact go none (Ahead.none _) (by rw [buildL.eq_3]; rw [if_neg (by rw [hp]; simp)])
        · exact go (some x) (Ahead.head hr) (by rw [buildL.eq_3]; rw [if_pos hp])
      | some f =>
        have hfx := ha f rfl x (by simp)
        cases hp : P x
        · exact go none (Ahead.none _) (by
            rw [buildL.eq_4, if_neg (by rw [hp]; simp), memL_cons, inS_to (noT_of_lt hfx) hk]
            rfl)
        · exact go (some f) ha.tail (by rw [buildL.eq_4]; rw [if_pos hp])
    · refine last (x2 :: m) x o k hr ha hk fun z hz => ?_
      rcases List.mem_cons.1 hz with rfl | hz
      · exact hk2
      · exact lt_trans hk2 ((List.pairwise_cons.1 hr.tail).1 z hz)
theorem buildL_set (P : ByteArray → Bool) : ∀ (m : List ByteArray) (o : Option ByteArray), Rises m → Ahead o m → IsSet (buildL P o m) ∧ ∀ s ∈ buildL P o m, s.1 ∈ m ∨ o = some s.1
  | [], none, _, _ => ⟨isSet_nil, fun s hs => by cases hs⟩
  | [], some f, _, _ => by
    refine ⟨isSet_cons.2 ⟨by simp [fullS, noT_iff.2], fun t ht => (by cases ht), isSet_nil⟩, fun s hs => ?_⟩
    simp only [buildL, List.mem_singleton] at hs
    subst hs
    exact .inr rfl
  | x :: r, none, hr, _ => by
    unfold buildL
    split
    · obtain ⟨h1, h2⟩ := buildL_set P r (some x) hr.tail (Ahead.head hr)
      refine ⟨h1, fun s hs => ?_⟩
      rcases h2 s hs with h | h
      · exact .inl (by simp [h])
      · simp only [Option.some.injEq] at h
        exact .inl (by simp [h])
    · obtain ⟨h1, h2⟩ := buildL_set P r none hr.tail (Ahead.none _)
      refine ⟨h1, fun s hs => ?_⟩
      rcases h2 s hs with h | h
      · exact .inl (by simp [h])
      · cases h
  | x :: r, some f, hr, ha => by
    have hfx := ha f rfl x (by simp)
    unfold buildL
    split
    · obtain ⟨h1, h2⟩ := buildL_set P r (some f) hr.tail ha.tail
      refine ⟨h1, fun s hs => ?_⟩
      rcases h2 s hs with h | h
      · exact .inl (by simp [h])
      · exact .inr h
    · obtain ⟨h1, h2⟩ := buildL_set P r none hr.tail (Ahead.none _)
      refine ⟨isSet_cons.2 ⟨by simp [fullS, hfx], fun t ht => ⟨noT_of_lt hfx, ?_⟩, h1⟩, fun s hs => ?_⟩
      · rcases h2 t ht with h | h
        · exact (List.pairwise_cons.1 hr).1 _ h
        · cases h
      · rcases List.mem_cons.1 hs with rfl | hs
        · exact .inr rfl
        · rcases h2 s hs with h | h
          · exact .inl (by simp [h])
          · cases h

/-- What is wanted: 0 in one of both, 1 in both, 2 in the first alone. -/
def wantB (n : Int) (x y : Bool) : Bool := if n = 2 then x && !y else if n = 1 then x && y else x || y
theorem wantB_ff (n : Int) : wantB n false false = false := by unfold wantB; split <;> (try split) <;> rfl
def setL (n : Int) (a b : List Sp) : List Sp := buildL (fun k => wantB n (memL a k) (memL b k)) none (marksL (a ++ b))
theorem setL_set (n : Int) (a b : List Sp) : IsSet (setL n a b) := (buildL_set _ _ none (marksL_rises _) (Ahead.none _)).1
theorem inS_same {s : Sp} {y k : ByteArray} {m : List ByteArray} (h1 : s.1 ∈ m) (h2 : noT s.2 = false → s.2 ∈ m) (hyk : ltT k y = false) (hno : ∀ z ∈ m, ltT k z = false → ltT y z = false) : inS s k = inS s y := by
  have e1 : ltT k s.1 = ltT y s.1 := by
    cases h : ltT k s.1
    · exact (hno _ h1 h).symm
    · exact (ge_lt hyk h).symm
  unfold inS
  rw [e1]
  cases hn : noT s.2
  · have e2 : ltT k s.2 = ltT y s.2 := by
      cases h : ltT k s.2
      · exact (hno _ (h2 hn) h).symm
      · exact (ge_lt hyk h).symm
    rw [e2]
  · rfl
theorem memL_same {l : List Sp} {y k : ByteArray} {m : List ByteArray} (h : ∀ s ∈ l, s.1 ∈ m ∧ (noT s.2 = false → s.2 ∈ m)) (hyk : ltT k y = false) (hno : ∀ z ∈ m, ltT k z = false → ltT y z = false) : memL l k = memL l y := by
  unfold memL
  induction l with
  | nil => rfl
  | cons s l ih =>
    rw [List.any_cons, List.any_cons, ih (fun t ht => h t (by simp [ht])), inS_same (h s (by simp)).1 (h s (by simp)).2 hyk hno]
theorem memL_ahead {l : List Sp} {k : ByteArray} {m : List ByteArray} (h : ∀ s ∈ l, s.1 ∈ m) (hk : ∀ x ∈ m, ltT k x = true) : memL l k = false :=
  memL_false.2 fun s hs => inS_below (hk _ (h s hs))
theorem setL_mem (n : Int) (a b : List Sp) (k : ByteArray) : memL (setL n a b) k = wantB n (memL a k) (memL b k) := by
  have ha : ∀ s ∈ a, s.1 ∈ marksL (a ++ b) ∧ (noT s.2 = false → s.2 ∈ marksL (a ++ b)) := fun s hs => ⟨(marksL_mem _ _).2 ⟨s, by simp [hs], .inl rfl⟩, fun hn => (marksL_mem _ _).2 ⟨s, by simp [hs], .inr ⟨hn, rfl⟩⟩⟩
  have hb : ∀ s ∈ b, s.1 ∈ marksL (a ++ b) ∧ (noT s.2 = false → s.2 ∈ marksL (a ++ b)) := fun s hs => ⟨(marksL_mem _ _).2 ⟨s, by simp [hs], .inl rfl⟩, fun hn => (marksL_mem _ _).2 ⟨s, by simp [hs], .inr ⟨hn, rfl⟩⟩⟩
  unfold setL
  have hr := marksL_rises (a ++ b)
  generalize marksL (a ++ b) = m at *
  have below : (∀ x ∈ m, ltT k x = true) → memL (buildL (fun k => wantB n (memL a k) (memL b k)) none m) k = wantB n (memL a k) (memL b k) := fun h => by
    rw [buildL_below _ m none k hr (Ahead.none _) h, memL_ahead (fun s hs => (ha s hs).1) h, memL_ahead (fun s hs => (hb s hs).1) h, wantB_ff]
  cases m with
  | nil => exact below fun x hx => by cases hx
  | cons x r =>
    cases hx : ltT k x
    · obtain ⟨y, hy, h1, h2, h3⟩ := buildL_at (fun k => wantB n (memL a k) (memL b k)) r x none k hr (Ahead.none _) hx
      rw [h3, memL_same ha h1 h2, memL_same hb h1 h2]
    · refine below fun z hz => ?_
      rcases List.mem_cons.1 hz with rfl | hz
      · exact hx
      · exact lt_trans hx ((List.pairwise_cons.1 hr).1 z hz)

/-- The set of all texts that are in one of the spans. -/
def uniL (l : List Sp) : List Sp := setL 0 l []
theorem uniL_set (l : List Sp) : IsSet (uniL l) := setL_set _ _ _
theorem uniL_mem (l : List Sp) (k : ByteArray) : memL (uniL l) k = memL l k := by
  unfold uniL
  rw [setL_mem]
  simp [wantB, memL_nil]
theorem Uni.is {l u : List Sp} (h : Uni l u) : u = uniL l := h.eq (uniL_set l) (uniL_mem l)
end S3
end Go.Proofs.YtjlkgbejldcklaaGreat

/- Topologies as lists: shards, whether they may be, which shard holds a text, which have a node, which meet a set; what follows of a topology that may be. Conditions: none. -/
namespace Go.Proofs.YtjlkgbejldcklaaGreat
open S3
namespace S4

/-- A shard: its span; where its nodes lie, their capacity; its nodes. -/
structure Sh where
  sp : Sp
  na : Option Addr
  nc : Nat
  nodes : List Int

def spans (l : List Sh) : List Sp := l.map (·.sp)
end S4
end Go.Proofs.YtjlkgbejldcklaaGreat
