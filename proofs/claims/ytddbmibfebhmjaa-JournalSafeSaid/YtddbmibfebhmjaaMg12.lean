/- Topologies as lists: shards, whether they may be, which shard holds a text, which have a node, which meet a set; what follows of a topology that may be. Conditions: none. -/
import Derived.Test.YtddbmibfebhmjaaProg
import Derived.WalkKit
import Derived.WalkSpells
import Derived.WalkLawsBesides
import Derived.Lib.Hide
import Derived.StillTailTactics
import Derived.Deep.QuietTactic
import Derived.BigQuiet
import Derived.Sort.Grow
import Derived.Deep.Draws
import Derived.Deep.RegionHeld3
import Derived.Test.YtddbmibfebhmjaaMg11
set_option maxRecDepth 100000
set_option maxHeartbeats 16000000
namespace Go.Proofs.Ytddbmibfebhmjaa
namespace S3
open Go.RowKit Go.Sort
theorem ret_bool {a b : Bool} (h : a = b) : Ending.returned (.bool a) = .returned (.bool b) := by rw [h]
def aboveT (e x : ByteArray) : Bool := noT e || ltT x e
def behindT (e x : ByteArray) : Bool := !noT x && aboveT e x
def soonerT (e o : ByteArray) : ByteArray := if behindT e o = true then o else e
def maxT (a b : ByteArray) : ByteArray := if ltT a b = true then b else a
def commonS (s t : Sp) : Sp := (maxT s.1 t.1, soonerT s.2 t.2)
@[go_sem] theorem run_max_str (w : World) (ts : Array TypeId) (t : TypeId) (a b : ByteArray) : (Builtin.max_ ts t #[.string a, .string b]).run Try.prog w = .ok (.string (maxT a b)) w := by
 cases h : Op.bytesLess a.toList b.toList <;> simp [Builtin.max_, Builtin.max2, Op.stringOp, asBool, maxT, ltT, h]
end S3
end Go.Proofs.Ytddbmibfebhmjaa

namespace Go.Proofs.Ytddbmibfebhmjaa
namespace S3
def cutF : Nat → List Sp → List Sp → List Sp
 | n + 1, s :: a, t :: b => (if fullS (commonS s t) = true then [commonS s t] else []) ++ (if behindT s.2 t.2 = true then cutF n (s :: a) b else cutF n a (t :: b))
 | _, _, _ => []
def cutL (a b : List Sp) : List Sp := cutF (a.length + b.length) a b
structure Uni (l u : List Sp) : Prop where
 set : IsSet u
 mem : ∀ k, memL u k = memL l k
 len : u.length ≤ l.length
 ends : ∀ c ∈ u, (∃ s ∈ l, s.1 = c.1) ∧ ∃ s ∈ l, s.2 = c.2
theorem Uni.eq {l u v : List Sp} (h1 : Uni l u) (h2 : IsSet v) (h3 : ∀ k, memL v k = memL l k) : u = v := set_uniq h1.set h2 fun k => (h1.mem k).trans (h3 k).symm

def insT (x : ByteArray) : List ByteArray → List ByteArray
 | [] => [x]
 | y :: r => if ltT y x = true then y :: insT x r else if y.toList == x.toList then y :: r else x :: y :: r
def Rises (l : List ByteArray) : Prop := l.Pairwise fun a b => ltT a b = true
theorem insT_mem (x : ByteArray) : ∀ (l : List ByteArray) (y : ByteArray), y ∈ insT x l ↔ y = x ∨ y ∈ l
 | [], y => by simp [insT]
 | z :: r, y => by
  unfold insT
  split
  ·rw [List.mem_cons, insT_mem x r y, List.mem_cons]
   constructor
   ·rintro (h | h | h)
    ·exact .inr (.inl h)
    ·exact .inl h
    ·exact .inr (.inr h)
   ·rintro (h | h | h)
    ·exact .inr (.inl h)
    ·exact .inl h
    ·exact .inr (.inr h)
  ·split
   ·rename_i h2
    have e : z = x := text_ext (by simpa using h2)
    subst e
    simp
   ·simp
theorem insT_rises (x : ByteArray) : ∀ (l : List ByteArray), Rises l → Rises (insT x l)
 | [], _ => List.pairwise_singleton _ _
 | z :: r, h => by
  obtain ⟨h1, h2⟩ := List.pairwise_cons.1 h
  unfold insT
  split
  ·rename_i hz
   refine List.pairwise_cons.2 ⟨fun y hy => ?_, insT_rises x r h2⟩
   rcases (insT_mem x r y).1 hy with rfl | hy
   ·exact hz
   ·exact h1 y hy
  ·rename_i hz
   split
   ·exact h
   ·rename_i hn
    have hzx : ltT x z = true := by
     cases hc : ltT x z
     ·exact absurd (by rw [lt_total (by simpa using hz) hc]; simp) hn
     ·rfl
    refine List.pairwise_cons.2 ⟨fun y hy => ?_, h⟩
    rcases List.mem_cons.1 hy with rfl | hy
    ·exact hzx
    ·exact lt_trans hzx (h1 y hy)
def markS (m : List ByteArray) (s : Sp) : List ByteArray := if noT s.2 = true then insT s.1 m else insT s.2 (insT s.1 m)
def marksL (l : List Sp) : List ByteArray := l.foldl markS []
theorem markS_mem (m : List ByteArray) (s : Sp) (y : ByteArray) : y ∈ markS m s ↔ y ∈ m ∨ y = s.1 ∨ (noT s.2 = false ∧ y = s.2) := by
 unfold markS
 split
 ·rename_i h
  rw [insT_mem]
  simp [h, or_comm]
 ·rename_i h
  rw [insT_mem, insT_mem]
  simp only [Bool.not_eq_true] at h
  simp only [h, true_and]
  constructor
  ·rintro (h | h | h)
   ·exact .inr (.inr h)
   ·exact .inr (.inl h)
   ·exact .inl h
  ·rintro (h | h | h)
   ·exact .inr (.inr h)
   ·exact .inr (.inl h)
   ·exact .inl h
theorem markS_rises {m : List ByteArray} (h : Rises m) (s : Sp) : Rises (markS m s) := by
 unfold markS
 split
 ·exact insT_rises _ _ h
 ·exact insT_rises _ _ (insT_rises _ _ h)
theorem foldl_marks (l : List Sp) : ∀ (m : List ByteArray), Rises m → Rises (l.foldl markS m) ∧ (∀ y, y ∈ l.foldl markS m ↔ y ∈ m ∨ ∃ s ∈ l, y = s.1 ∨ (noT s.2 = false ∧ y = s.2)) := by
 induction l with
 | nil => intro m h; exact ⟨h, fun y => by simp⟩
 | cons s l ih =>
  intro m h
  obtain ⟨h1, h2⟩ := ih (markS m s) (markS_rises h s)
  refine ⟨h1, fun y => ?_⟩
  rw [List.foldl_cons, h2, markS_mem]
  constructor
  ·rintro ((h | h) | ⟨t, ht, h⟩)
   ·exact .inl h
   ·exact .inr ⟨s, by simp, h⟩
   ·exact .inr ⟨t, by simp [ht], h⟩
  ·rintro (h | ⟨t, ht, h⟩)
   ·exact .inl (.inl h)
   ·rcases List.mem_cons.1 ht with rfl | ht
    ·exact .inl (.inr h)
    ·exact .inr ⟨t, ht, h⟩
theorem marksL_rises (l : List Sp) : Rises (marksL l) := (foldl_marks l [] List.Pairwise.nil).1
theorem marksL_mem (l : List Sp) (y : ByteArray) : y ∈ marksL l ↔ ∃ s ∈ l, y = s.1 ∨ (noT s.2 = false ∧ y = s.2) := by
 unfold marksL
 rw [(foldl_marks l [] List.Pairwise.nil).2]
 simp
def buildL (P : ByteArray → Bool) : Option ByteArray → List ByteArray → List Sp
 | none, [] => []
 | some f, [] => [(f, ⟨#[]⟩)]
 | none, x :: r => if P x = true then buildL P (some x) r else buildL P none r
 | some f, x :: r => if P x = true then buildL P (some f) r else (f, x) :: buildL P none r
def Ahead (o : Option ByteArray) (m : List ByteArray) : Prop := ∀ f, o = some f → ∀ x ∈ m, ltT f x = true
theorem Ahead.none (m : List ByteArray) : Ahead .none m := fun f h => by cases h
theorem Ahead.tail {o : Option ByteArray} {x : ByteArray} {m : List ByteArray} (h : Ahead o (x :: m)) : Ahead o m := fun f hf y hy => h f hf y (by simp [hy])
theorem Ahead.head {x : ByteArray} {m : List ByteArray} (h : Rises (x :: m)) : Ahead (some x) m := fun f hf y hy => by
 cases hf
 exact (List.pairwise_cons.1 h).1 y hy
theorem Rises.tail {x : ByteArray} {m : List ByteArray} (h : Rises (x :: m)) : Rises m := (List.pairwise_cons.1 h).2
theorem buildL_below (P : ByteArray → Bool) : ∀ (m : List ByteArray) (o : Option ByteArray) (k : ByteArray), Rises m → Ahead o m → (∀ x ∈ m, ltT k x = true) → memL (buildL P o m) k = (match o with | none => false | some f => !ltT k f)
 | [], none, k, _, _, _ => rfl
 | [], some f, k, _, _, _ => by
  have : noT (⟨#[]⟩ : ByteArray) = true := noT_iff.2 rfl
  simp [buildL, memL_cons, memL_nil, inS, this]
 | x :: r, none, k, hr, _, hk => by
  unfold buildL
  split
  ·rw [buildL_below P r (some x) k hr.tail (Ahead.head hr) (fun y hy => hk y (by simp [hy]))]
   simp [hk x (by simp)]
  ·rw [buildL_below P r none k hr.tail (Ahead.none _) (fun y hy => hk y (by simp [hy]))]
 | x :: r, some f, k, hr, ha, hk => by
  have hkx := hk x (by simp)
  unfold buildL
  split
  ·rw [buildL_below P r (some f) k hr.tail ha.tail (fun y hy => hk y (by simp [hy]))]
  ·rw [memL_cons, buildL_below P r none k hr.tail (Ahead.none _) (fun y hy => hk y (by simp [hy]))]
   simp [inS, hkx]
theorem buildL_at (P : ByteArray → Bool) : ∀ (m : List ByteArray) (x : ByteArray) (o : Option ByteArray) (k : ByteArray), Rises (x :: m) → Ahead o (x :: m) → ltT k x = false →
  ∃ y ∈ x :: m, ltT k y = false ∧ (∀ z ∈ x :: m, ltT k z = false → ltT y z = false) ∧ memL (buildL P o (x :: m)) k = P y := by
 have last : ∀ (m : List ByteArray) (x : ByteArray) (o : Option ByteArray) (k : ByteArray), Rises (x :: m) → Ahead o (x :: m) → ltT k x = false → (∀ z ∈ m, ltT k z = true) →
   ∃ y ∈ x :: m, ltT k y = false ∧ (∀ z ∈ x :: m, ltT k z = false → ltT y z = false) ∧ memL (buildL P o (x :: m)) k = P y := by
  intro m x o k hr ha hk hz
  refine ⟨x, by simp, hk, fun z hzm hkz => ?_, ?_⟩
  ·rcases List.mem_cons.1 hzm with rfl | hzm
   ·exact lt_irrefl _
   ·rw [hz z hzm] at hkz
    cases hkz
  ·cases o with
   | none =>
    unfold buildL
    cases hp : P x
    ·simp only [Bool.false_eq_true, if_false]
     rw [buildL_below P m none k hr.tail (Ahead.none _) hz]
    ·simp only [if_true]
     rw [buildL_below P m (some x) k hr.tail (Ahead.head hr) hz]
     simp [hk]
   | some f =>
    have hfx := ha f rfl x (by simp)
    unfold buildL
    cases hp : P x
    ·simp only [Bool.false_eq_true, if_false]
     rw [memL_cons, buildL_below P m none k hr.tail (Ahead.none _) hz, inS_to (noT_of_lt hfx) hk]
     rfl
    ·simp only [if_true]
     rw [buildL_below P m (some f) k hr.tail ha.tail hz]
     have : ltT k f = false := by
      cases h : ltT k f
      ·rfl
      ·rw [lt_trans h hfx] at hk
       cases hk
     simp [this]
 intro m
 induction m with
 | nil => intro x o k hr ha hk; exact last [] x o k hr ha hk (fun z hz => by cases hz)
 | cons x2 m ih =>
  intro x o k hr ha hk
  cases hk2 : ltT k x2
  ·have hx12 : ltT x x2 = true := (List.pairwise_cons.1 hr).1 x2 (by simp)
   have go : ∀ (o' : Option ByteArray), Ahead o' (x2 :: m) → (memL (buildL P o (x :: x2 :: m)) k = memL (buildL P o' (x2 :: m)) k) → ∃ y ∈ x :: x2 :: m, ltT k y = false ∧ (∀ z ∈ x :: x2 :: m, ltT k z = false → ltT y z = false) ∧ memL (buildL P o (x :: x2 :: m)) k = P y := by
    intro o' ha' he
    obtain ⟨y, hy, h1, h2, h3⟩ := ih x2 o' k hr.tail ha' hk2
    refine ⟨y, by simp at hy ⊢; exact .inr hy, h1, fun z hz hkz => ?_, he.trans h3⟩
    rcases List.mem_cons.1 hz with rfl | hz
    ·have := h2 x2 (by simp) hk2
     exact lt_asymm (lt_ge hx12 this)
    ·exact h2 z hz hkz
   cases o with
   | none =>
    cases hp : P x
    ·exact go none (Ahead.none _) (by rw [buildL.eq_3]; rw [if_neg (by rw [hp]; simp)])
    ·exact go (some x) (Ahead.head hr) (by rw [buildL.eq_3]; rw [if_pos hp])
   | some f =>
    have hfx := ha f rfl x (by simp)
    cases hp : P x
    ·exact go none (Ahead.none _) (by
      rw [buildL.eq_4, if_neg (by rw [hp]; simp), memL_cons, inS_to (noT_of_lt hfx) hk]
      rfl)
    ·exact go (some f) ha.tail (by rw [buildL.eq_4]; rw [if_pos hp])
  ·refine last (x2 :: m) x o k hr ha hk fun z hz => ?_
   rcases List.mem_cons.1 hz with rfl | hz
   ·exact hk2
   ·exact lt_trans hk2 ((List.pairwise_cons.1 hr.tail).1 z hz)
theorem buildL_set (P : ByteArray → Bool) : ∀ (m : List ByteArray) (o : Option ByteArray), Rises m → Ahead o m → IsSet (buildL P o m) ∧ ∀ s ∈ buildL P o m, s.1 ∈ m ∨ o = some s.1
 | [], none, _, _ => ⟨isSet_nil, fun s hs => by cases hs⟩
 | [], some f, _, _ => by
  refine ⟨isSet_cons.2 ⟨by simp [fullS, noT_iff.2], fun t ht => (by cases ht), isSet_nil⟩, fun s hs => ?_⟩
  simp only [buildL, List.mem_singleton] at hs
  subst hs
  exact .inr rfl
 | x :: r, none, hr, _ => by
  unfold buildL
  split
  ·obtain ⟨h1, h2⟩ := buildL_set P r (some x) hr.tail (Ahead.head hr)
   refine ⟨h1, fun s hs => ?_⟩
   rcases h2 s hs with h | h
   ·exact .inl (by simp [h])
   ·simp only [Option.some.injEq] at h
    exact .inl (by simp [h])
  ·obtain ⟨h1, h2⟩ := buildL_set P r none hr.tail (Ahead.none _)
   refine ⟨h1, fun s hs => ?_⟩
   rcases h2 s hs with h | h
   ·exact .inl (by simp [h])
   ·cases h
 | x :: r, some f, hr, ha => by
  have hfx := ha f rfl x (by simp)
  unfold buildL
  split
  ·obtain ⟨h1, h2⟩ := buildL_set P r (some f) hr.tail ha.tail
   refine ⟨h1, fun s hs => ?_⟩
   rcases h2 s hs with h | h
   ·exact .inl (by simp [h])
   ·exact .inr h
  ·obtain ⟨h1, h2⟩ := buildL_set P r none hr.tail (Ahead.none _)
   refine ⟨isSet_cons.2 ⟨by simp [fullS, hfx], fun t ht => ⟨noT_of_lt hfx, ?_⟩, h1⟩, fun s hs => ?_⟩
   ·rcases h2 t ht with h | h
    ·exact (List.pairwise_cons.1 hr).1 _ h
    ·cases h
   ·rcases List.mem_cons.1 hs with rfl | hs
    ·exact .inr rfl
    ·rcases h2 s hs with h | h
     ·exact .inl (by simp [h])
     ·cases h
def wantB (n : Int) (x y : Bool) : Bool := if n = 2 then x && !y else if n = 1 then x && y else x || y
theorem wantB_ff (n : Int) : wantB n false false = false := by unfold wantB; split <;> (try split) <;> rfl
def setL (n : Int) (a b : List Sp) : List Sp := buildL (fun k => wantB n (memL a k) (memL b k)) none (marksL (a ++ b))
theorem setL_set (n : Int) (a b : List Sp) : IsSet (setL n a b) := (buildL_set _ _ none (marksL_rises _) (Ahead.none _)).1
theorem inS_same {s : Sp} {y k : ByteArray} {m : List ByteArray} (h1 : s.1 ∈ m) (h2 : noT s.2 = false → s.2 ∈ m) (hyk : ltT k y = false) (hno : ∀ z ∈ m, ltT k z = false → ltT y z = false) : inS s k = inS s y := by
 have e1 : ltT k s.1 = ltT y s.1 := by
  cases h : ltT k s.1
  ·exact (hno _ h1 h).symm
  ·exact (ge_lt hyk h).symm
 unfold inS
 rw [e1]
 cases hn : noT s.2
 ·have e2 : ltT k s.2 = ltT y s.2 := by
   cases h : ltT k s.2
   ·exact (hno _ (h2 hn) h).symm
   ·exact (ge_lt hyk h).symm
  rw [e2]
 ·rfl
theorem memL_same {l : List Sp} {y k : ByteArray} {m : List ByteArray} (h : ∀ s ∈ l, s.1 ∈ m ∧ (noT s.2 = false → s.2 ∈ m)) (hyk : ltT k y = false) (hno : ∀ z ∈ m, ltT k z = false → ltT y z = false) : memL l k = memL l y := by
 unfold memL
 induction l with
 | nil => rfl
 | cons s l ih =>
  rw [List.any_cons, List.any_cons, ih (fun t ht => h t (by simp [ht])), inS_same (h s (by simp)).1 (h s (by simp)).2 hyk hno]
theorem memL_ahead {l : List Sp} {k : ByteArray} {m : List ByteArray} (h : ∀ s ∈ l, s.1 ∈ m) (hk : ∀ x ∈ m, ltT k x = true) : memL l k = false :=
 memL_false.2 fun s hs => inS_below (hk _ (h s hs))
theorem setL_mem (n : Int) (a b : List Sp) (k : ByteArray) : memL (setL n a b) k = wantB n (memL a k) (memL b k) := by
 have ha : ∀ s ∈ a, s.1 ∈ marksL (a ++ b) ∧ (noT s.2 = false → s.2 ∈ marksL (a ++ b)) := fun s hs => ⟨(marksL_mem _ _).2 ⟨s, by simp [hs], .inl rfl⟩, fun hn => (marksL_mem _ _).2 ⟨s, by simp [hs], .inr ⟨hn, rfl⟩⟩⟩
 have hb : ∀ s ∈ b, s.1 ∈ marksL (a ++ b) ∧ (noT s.2 = false → s.2 ∈ marksL (a ++ b)) := fun s hs => ⟨(marksL_mem _ _).2 ⟨s, by simp [hs], .inl rfl⟩, fun hn => (marksL_mem _ _).2 ⟨s, by simp [hs], .inr ⟨hn, rfl⟩⟩⟩
 unfold setL
 have hr := marksL_rises (a ++ b)
 generalize marksL (a ++ b) = m at *
 have below : (∀ x ∈ m, ltT k x = true) → memL (buildL (fun k => wantB n (memL a k) (memL b k)) none m) k = wantB n (memL a k) (memL b k) := fun h => by
  rw [buildL_below _ m none k hr (Ahead.none _) h, memL_ahead (fun s hs => (ha s hs).1) h, memL_ahead (fun s hs => (hb s hs).1) h, wantB_ff]
 cases m with
 | nil => exact below fun x hx => by cases hx
 | cons x r =>
  cases hx : ltT k x
  ·obtain ⟨y, hy, h1, h2, h3⟩ := buildL_at (fun k => wantB n (memL a k) (memL b k)) r x none k hr (Ahead.none _) hx
   rw [h3, memL_same ha h1 h2, memL_same hb h1 h2]
  ·refine below fun z hz => ?_
   rcases List.mem_cons.1 hz with rfl | hz
   ·exact hx
   ·exact lt_trans hx ((List.pairwise_cons.1 hr).1 z hz)
def uniL (l : List Sp) : List Sp := setL 0 l []
theorem uniL_set (l : List Sp) : IsSet (uniL l) := setL_set _ _ _
theorem uniL_mem (l : List Sp) (k : ByteArray) : memL (uniL l) k = memL l k := by
 unfold uniL
 rw [setL_mem]
 simp [wantB, memL_nil]
theorem Uni.is {l u : List Sp} (h : Uni l u) : u = uniL l := h.eq (uniL_set l) (uniL_mem l)
end S3
end Go.Proofs.Ytddbmibfebhmjaa

namespace Go.Proofs.Ytddbmibfebhmjaa
open S3
namespace S4
structure Sh where
 sp : Sp
 na : Option Addr
 nc : Nat
 nodes : List Int
def spans (l : List Sh) : List Sp := l.map (·.sp)
end S4
end Go.Proofs.Ytddbmibfebhmjaa
