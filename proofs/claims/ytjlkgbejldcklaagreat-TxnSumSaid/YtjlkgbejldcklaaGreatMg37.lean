/- The sheet's eye, whatever is read by it: what holds of it, Open, Done. Conditions: at most a million bytes. -/
import Derived.WalkSpells
import Derived.Test.YtjlkgbejldcklaaGreatMg26
import Derived.Test.YtjlkgbejldcklaaGreatMg20
import Derived.Test.YtjlkgbejldcklaaGreatMg22
set_option linter.unusedVariables false
namespace Go.Proofs.YtjlkgbejldcklaaGreat
namespace SP
open Go.RowKit
theorem low_cons (n k : Nat) : S2.low n (k + 1) = UInt8.ofNat n :: S2.low (n / 256) k := by
  unfold S2.low
  rw [List.range_succ_eq_map, List.map_cons, List.map_map]
  congr 1
  refine List.map_congr_left fun i _ => ?_
  show UInt8.ofNat (n >>> (8 * (i + 1))) = UInt8.ofNat ((n / 256) >>> (8 * i))
  congr 1
  rw [Nat.mul_add, Nat.add_comm (8 * i), Nat.shiftRight_add, Nat.shiftRight_eq_div_pow n (8 * 1)]
theorem low_leN : ∀ l : List UInt8, S2.low (S2.leN l) l.length = l := by
  intro l
  induction l with
  | nil => rfl
  | cons x r ih =>
    rw [List.length_cons, low_cons]
    have hx : x.toNat < 256 := x.toNat_lt
    have e1 : S2.leN (x :: r) = x.toNat + 256 * S2.leN r := rfl
    have e2 : (x.toNat + 256 * S2.leN r) / 256 = S2.leN r := by omega
    rw [e1, e2, ih]
    congr 1
    have e3 : UInt8.ofNat (x.toNat + 256 * S2.leN r) = UInt8.ofNat x.toNat := by
      apply UInt8.toNat_inj.1
      simp only [UInt8.toNat_ofNat']
      omega
    rw [e3]
    simp
theorem low_take {l : List UInt8} {k : Nat} (h : k ≤ l.length) : S2.low (S2.leN (l.take k)) k = l.take k := by
  have e := low_leN (l.take k)
  have hl : (l.take k).length = k := by rw [List.length_take]; omega
  rwa [hl] at e
theorem wrapU (n : Int) : IntKind.u64.wrap n = n % 18446744073709551616 := rfl
theorem wrap_same (N : Nat) (h : N < 2 ^ 64) : (IntKind.u64.wrap (wrap64 (N : Int))).toNat = N := by
  rw [wrapU]
  unfold wrap64
  omega
theorem i8_rd (r : List UInt8) (h : 8 ≤ r.length) : S2.i8 (S2.rd r) = r.take 8 := by
  have hl : (r.take 8).length = 8 := by rw [List.length_take]; omega
  have hlt := S2.leN_lt (r.take 8)
  rw [hl] at hlt
  unfold S2.i8 S2.rd
  rw [wrap_same _ hlt]
  exact low_take h
theorem inv_i {r : List UInt8} (h : 8 ≤ r.length) : S2.i8 (S2.rd r) ++ r.drop 8 = r := by
  rw [i8_rd r h, List.take_append_drop]
def u64 (x : Int) : Nat := (IntKind.u64.wrap x).toNat
theorem u64_int (x : Int) : ((u64 x : Nat) : Int) = IntKind.u64.wrap x := by
  unfold u64
  rw [wrapU]
  have : (0 : Int) ≤ x % 18446744073709551616 := Int.emod_nonneg _ (by decide)
  omega
theorem i8_u64 (x : Int) : S2.i8 (wrap64 (u64 x : Nat)) = S2.i8 x := by
  unfold S2.i8
  congr 2
  rw [u64_int, wrapU, wrapU]
  unfold wrap64
  omega
theorem u64_wrap {n : Nat} (h : n < 18446744073709551616) : u64 (wrap64 (n : Int)) = n := wrap_same n h
theorem wrap64_wf (n : Int) : (Lit.int .i64 (wrap64 n)).wf = true := by
  simp only [Lit.wf, Bool.and_eq_true, decide_eq_true_eq]
  have e1 : IntKind.i64.min = -9223372036854775808 := rfl
  have e2 : IntKind.i64.max = 9223372036854775807 := rfl
  rw [e1, e2]
  unfold wrap64
  omega
abbrev Cur := List UInt8 × Bool × Bool
def bad (c : Cur) : Bool := c.2.1 || c.2.2
theorem bad_no {c : Cur} : bad c = false ↔ c.2.1 = false ∧ c.2.2 = false := by
  unfold bad
  simp
structure Cod (α : Type) where
  lay : α → List UInt8
  val : Cur → α
  fin : Cur → Cur
  good : α → Prop
structure Cod.Ok {α : Type} (k : Cod α) : Prop where
  inv : ∀ c, bad (k.fin c) = false → bad c = false ∧ k.lay (k.val c) ++ (k.fin c).1 = c.1
  front : ∀ x R, k.good x → k.val (k.lay x ++ R, false, false) = x ∧ k.fin (k.lay x ++ R, false, false) = (R, false, false)
  len : ∀ c, (k.fin c).1.length ≤ c.1.length
theorem behind_ok {ok : Bool} (h : ok = true) (k : Nat) (l : List UInt8) : S2.behind ok k l = l.drop k := by
  subst h
  exact S2.behind_yes k l
theorem behind_le (ok : Bool) (k : Nat) (l : List UInt8) : (S2.behind ok k l).length ≤ l.length := by
  unfold S2.behind
  cases ok
  · exact Nat.le_refl _
  · simp
def cI : Cod Int := ⟨S2.i8, fun c => S2.valI c.1 c.2.1, fun c => (S2.behind (S2.okI c.1 c.2.1) 8 c.1, !S2.okI c.1 c.2.1, c.2.2), fun x => (Lit.int .i64 x).wf = true⟩
theorem okI_yes {l : List UInt8} {b : Bool} (h : S2.okI l b = true) : b = false ∧ 8 ≤ l.length ∧ S2.valI l b = S2.rd l := by
  have h2 := h
  unfold S2.okI at h2
  simp only [Bool.and_eq_true, decide_eq_true_eq, Bool.not_eq_true'] at h2
  refine ⟨h2.1, h2.2, ?_⟩
  unfold S2.valI
  rw [if_pos h]
theorem cI_ok : cI.Ok := by
  refine ⟨fun c h => ?_, fun x R hx => ?_, fun c => behind_le _ _ _⟩
  · obtain ⟨h1, h2⟩ := bad_no.1 h
    simp only [cI, Bool.not_eq_false'] at h1 h2
    obtain ⟨h3, h4, h5⟩ := okI_yes h1
    refine ⟨bad_no.2 ⟨h3, h2⟩, ?_⟩
    show S2.i8 (S2.valI c.1 c.2.1) ++ S2.behind (S2.okI c.1 c.2.1) 8 c.1 = c.1
    rw [h5, behind_ok h1, inv_i h4]
  · obtain ⟨a1, a2, a3⟩ := S2.read_i x hx R
    refine ⟨a2, ?_⟩
    show (S2.behind (S2.okI (S2.i8 x ++ R) false) 8 (S2.i8 x ++ R), !S2.okI (S2.i8 x ++ R) false, false) = _
    rw [a1, a3]
    rfl
def cN : Cod Nat := ⟨fun n => S2.i8 (wrap64 (n : Int)), fun c => u64 (S2.valI c.1 c.2.1), cI.fin, fun n => n < 18446744073709551616⟩
theorem cN_ok : cN.Ok := by
  refine ⟨fun c h => ?_, fun x R hx => ?_, cI_ok.len⟩
  · obtain ⟨h1, h2⟩ := cI_ok.inv c h
    refine ⟨h1, ?_⟩
    show S2.i8 (wrap64 (u64 (S2.valI c.1 c.2.1) : Nat)) ++ _ = _
    rw [i8_u64]
    exact h2
  · obtain ⟨h1, h2⟩ := cI_ok.front (wrap64 (x : Int)) R (wrap64_wf _)
    refine ⟨?_, h2⟩
    have h3 : S2.valI (S2.i8 (wrap64 (x : Int)) ++ R) false = wrap64 (x : Int) := h1
    show u64 (S2.valI (S2.i8 (wrap64 (x : Int)) ++ R) false) = x
    rw [h3]
    exact u64_wrap hx
def cT : Cod ByteArray := ⟨S2.tx, fun c => S2.valT c.1 c.2.1, fun c => (S2.behind (S2.okT c.1 c.2.1) (4 + S2.leN (c.1.take 4)) c.1, !S2.okT c.1 c.2.1, c.2.2), fun s => s.size ≤ 1048576⟩
theorem inv_t {l : List UInt8} (h1 : 4 ≤ l.length) (h2 : S2.leN (l.take 4) ≤ (l.drop 4).length) : S2.tx (S2.atT l) ++ l.drop (4 + S2.leN (l.take 4)) = l := by
  have e1 : (S2.atT l).data.toList = (l.drop 4).take (S2.leN (l.take 4)) := rfl
  have e2 : (S2.atT l).size = S2.leN (l.take 4) := by
    show (S2.atT l).data.size = _
    rw [← Array.length_toList, e1, List.length_take]
    omega
  unfold S2.tx
  rw [e2, e1, low_take h1, ← List.take_add, List.take_append_drop]
theorem cT_ok : cT.Ok := by
  refine ⟨fun c h => ?_, fun x R hx => ?_, fun c => behind_le _ _ _⟩
  · obtain ⟨h1, h2⟩ := bad_no.1 h
    simp only [cT, Bool.not_eq_false'] at h1 h2
    have h3 := h1
    unfold S2.okT at h3
    simp only [Bool.and_eq_true, decide_eq_true_eq, Bool.not_eq_true'] at h3
    obtain ⟨h4, h5, h6, h7⟩ := h3
    refine ⟨bad_no.2 ⟨h4, h2⟩, ?_⟩
    show S2.tx (S2.valT c.1 c.2.1) ++ S2.behind (S2.okT c.1 c.2.1) _ c.1 = c.1
    rw [behind_ok h1]
    unfold S2.valT
    rw [if_pos h1]
    exact inv_t h5 h7
  · obtain ⟨a1, a2, a3⟩ := S2.read_t x hx R
    refine ⟨a2, ?_⟩
    show (S2.behind (S2.okT (S2.tx x ++ R) false) (4 + S2.leN ((S2.tx x ++ R).take 4)) (S2.tx x ++ R), !S2.okT (S2.tx x ++ R) false, false) = _
    rw [a1, a3]
    rfl
def cS : Cod (Int × Int) := ⟨S2.st, fun c => S2.valS c.1 c.2.1, fun c => (S2.behind (S2.okS c.1 c.2.1) 16 c.1, !S2.okS c.1 c.2.1, c.2.2), fun s => (Lit.int .i64 s.1).wf = true ∧ (Lit.int .i64 s.2).wf = true⟩
def Cod.two {α β : Type} (a : Cod α) (b : Cod β) : Cod (α × β) := ⟨fun x => a.lay x.1 ++ b.lay x.2, fun c => (a.val c, b.val (a.fin c)), fun c => b.fin (a.fin c), fun x => a.good x.1 ∧ b.good x.2⟩
theorem Cod.two_ok {α β : Type} {a : Cod α} {b : Cod β} (ha : a.Ok) (hb : b.Ok) : (a.two b).Ok := by
  refine ⟨fun c h => ?_, fun x R hx => ?_, fun c => Nat.le_trans (hb.len _) (ha.len _)⟩
  · obtain ⟨h1, h2⟩ := hb.inv _ h
    obtain ⟨h3, h4⟩ := ha.inv _ h1
    refine ⟨h3, ?_⟩
    show (a.lay (a.val c) ++ b.lay (b.val (a.fin c))) ++ (b.fin (a.fin c)).1 = c.1
    rw [List.append_assoc, h2, h4]
  · obtain ⟨h1, h2⟩ := ha.front x.1 (b.lay x.2 ++ R) hx.1
    obtain ⟨h3, h4⟩ := hb.front x.2 R hx.2
    have e : (a.two b).lay x ++ R = a.lay x.1 ++ (b.lay x.2 ++ R) := by
      show (a.lay x.1 ++ b.lay x.2) ++ R = _
      rw [List.append_assoc]
    rw [e]
    refine ⟨?_, ?_⟩
    · show (a.val _, b.val (a.fin _)) = x
      rw [h1, h2, h3]
    · show b.fin (a.fin _) = _
      rw [h2, h4]
def many {α : Type} (k : Cod α) : Nat → Cur → List α × Cur
  | 0, c => ([], c)
  | n + 1, c => if (k.fin c).1.length = c.1.length then ([], k.fin c) else (k.val c :: (many k n (k.fin c)).1, (many k n (k.fin c)).2)
theorem many_len {α : Type} {k : Cod α} (hk : k.Ok) (n : Nat) : ∀ c, (many k n c).2.1.length + (many k n c).1.length ≤ c.1.length ∧ (many k n c).1.length ≤ n := by
  induction n with
  | zero => intro c; exact ⟨Nat.le_refl _, Nat.le_refl _⟩
  | succ n ih =>
    intro c
    have hl := hk.len c
    unfold many
    split
    · rename_i h
      exact ⟨by simpa using hl, Nat.zero_le _⟩
    · rename_i h
      obtain ⟨h1, h2⟩ := ih (k.fin c)
      simp only [List.length_cons]
      omega
def said (c : Cur) : Cur := ((cI.fin c).1, (cI.fin c).2.1, c.2.2 || decide (cI.val c < 0))
def Cod.list {α : Type} (k : Cod α) : Cod (List α) :=
  ⟨fun l => S2.i8 l.length ++ l.flatMap k.lay, fun c => (many k (cI.val c).toNat (said c)).1, fun c => (many k (cI.val c).toNat (said c)).2, fun l => l.length ≤ 1000000 ∧ ∀ x ∈ l, k.good x⟩
theorem said_len (c : Cur) : (said c).1.length ≤ c.1.length := cI_ok.len c
theorem list_len {α : Type} {k : Cod α} (hk : k.Ok) (c : Cur) : (k.list.val c).length + (k.list.fin c).1.length ≤ c.1.length := by
  have h1 := (many_len hk (cI.val c).toNat (said c)).1
  have h2 := said_len c
  show (many k (cI.val c).toNat (said c)).1.length + (many k (cI.val c).toNat (said c)).2.1.length ≤ _
  omega
def doneC (c : Cur) : Int := if c.2.2 then 20 else S2.doneN c.1 c.2.1
def parseK {α : Type} (k : Cod α) (check : α → Int) (B : List UInt8) : Option α := if doneC (k.fin (B, false, false)) = 0 ∧ check (k.val (B, false, false)) = 0 then some (k.val (B, false, false)) else none
end SP
end Go.Proofs.YtjlkgbejldcklaaGreat

set_option linter.unusedSimpArgs false
namespace Go.Proofs.YtjlkgbejldcklaaGreat
namespace SP
open Go.ChangeShapes Go.WideShapes Go.ChangeAt Go.RowKit Go.Joins Go.Deep
def EyeS (w : World) (s b g : Nat) (c : Cur) : Prop := w.heap[s]? = some (.cells #[.pointer (some ⟨b, 0, none⟩), .bool c.2.2] 228 (0, 0)) ∧ S2.EyeAt w b g c.1 c.2.1 ∧ s ≠ b ∧ (c.1 ≠ [] → s ≠ g)
def Both (s b x : Nat) : Prop := x = s ∨ x = b
theorem EyeS.next {w w' : World} {s b g : Nat} {c c' : Cur} (h : EyeS w s b g c) (he : S2.EyeAt w' b g c'.1 c'.2.1) (hd : c'.2.2 = c.2.2) (hn : c'.1.length ≤ c.1.length) (k : S2.Keeps (S2.Only b) w w') : EyeS w' s b g c' :=
  ⟨by rw [k.block s (lt_of_block h.1) (fun e => h.2.2.1 e), hd]; exact h.1, he, h.2.2.1, fun hne => h.2.2.2 (fun e => hne (List.eq_nil_of_length_eq_zero (by rw [e] at hn; simpa using hn)))⟩
theorem EyeS.keep {S : Nat → Prop} {w w' : World} {s b g : Nat} {c : Cur} (h : EyeS w s b g c) (k : S2.Keeps S w w') (hs : ¬ S s) (hb : ¬ S b) (hg : c.1 ≠ [] → ¬ S g) : EyeS w' s b g c :=
  ⟨(k.block s (lt_of_block h.1) hs).trans h.1, h.2.1.keep k hb hg, h.2.2⟩
theorem EyeS.before {w w' : World} {s b g : Nat} {c : Cur} (h : EyeS w s b g c) (k : S2.Keeps (fun _ => False) w w') : EyeS w' s b g c := h.keep k (fun h => h) (fun h => h) fun _ h => h
theorem EyeS.ptr {w : World} {s b g : Nat} {c : Cur} (h : EyeS w s b g c) : w.cell? ⟨s, 0, none⟩ = some (.pointer (some ⟨b, 0, none⟩)) := by rw [cell_of_row w _ _ _ _ _ h.1]; rfl
theorem EyeS.lie {w : World} {s b g : Nat} {c : Cur} (h : EyeS w s b g c) : w.cell? ⟨s, 1, none⟩ = some (.bool c.2.2) := by rw [cell_of_row w _ _ _ _ _ h.1]; rfl
theorem EyeS.lieSet {w : World} {s b g : Nat} {c : Cur} (h : EyeS w s b g c) : EyeS (w.setCell ⟨s, 1, none⟩ (.bool true)) s b g (c.1, c.2.1, true) := by
  refine ⟨?_, h.2.1.keep (S2.kSet (p := ⟨s, 1, none⟩) (S2.Keeps.refl (fun x => x = s) w) (.inl rfl) _) (fun e => h.2.2.1 e.symm) (fun hne e => h.2.2.2 hne e.symm), h.2.2.1, h.2.2.2⟩
  simp only [World.setCell]
  rw [Array.getElem?_modify, if_pos rfl, h.1]
  rfl
theorem EyeS.lt {w : World} {s b g : Nat} {c : Cur} (h : EyeS w s b g c) : s < w.heap.size ∧ b < w.heap.size ∧ (c.1 ≠ [] → g < w.heap.size) := ⟨lt_of_block h.1, h.2.1.lt, h.2.1.lt2⟩
theorem EyeS.grown {w w' : World} {s b g : Nat} {c : Cur} {r : Option Nat} (h : EyeS w s b g c) (hg : w.grownBy w' r) (h1 : ∀ k, r = some k → w.heap.size ≤ k ∨ (k ≠ s ∧ k ≠ b ∧ (c.1 ≠ [] → k ≠ g))) : EyeS w' s b g c := by
  obtain ⟨l1, l2, l3⟩ := h.lt
  refine h.keep (S2.Keeps.grown (S := fun x => r = some x) hg fun _ _ e => e) (fun e => ?_) (fun e => ?_) (fun hne e => ?_)
  · rcases h1 _ e with h2 | h2
    · omega
    · exact h2.1 rfl
  · rcases h1 _ e with h2 | h2
    · omega
    · exact h2.2.1 rfl
  · rcases h1 _ e with h2 | h2
    · have := l3 hne
      omega
    · exact h2.2.2 hne rfl
theorem both_of {s b : Nat} {w w' : World} (h : S2.Keeps (S2.Only b) w w') : S2.Keeps (Both s b) w w' := h.mono fun _ _ e => .inr e
theorem keeps_after {S : Nat → Prop} {w x y : World} {k : Nat} (h : S2.Keeps S w x) (hg : x.grownBy y (some k)) (hk : w.heap.size ≤ k) : S2.Keeps S w y :=
  ⟨hg.os.trans h.os, hg.tape.trans h.tape, hg.output.trans h.output, Nat.le_trans h.size hg.size, fun j hj hs => (hg.block j (Nat.lt_of_lt_of_le hj h.size) (fun e => by cases e; omega)).trans (h.block j hj hs)⟩
def SeeS {α : Type} (k : Cod α) (val : α → Value) (w : World) (s b g : Nat) (c : Cur) (e : Ending) (w' : World) : Prop := e = .returned (val (k.val c)) ∧ EyeS w' s b g (k.fin c) ∧ S2.Keeps (S2.Only b) w w'
theorem sint_any {w : World} {s b g : Nat} {c : Cur} (he : EyeS w s b g c) : Calls Tryz.prog 231 #[.pointer (some ⟨b, 0, none⟩)] w (SeeS cI (fun x => .int .i64 x) w s b g c) :=
  (S2.eyeInt_any w b g c.1 c.2.1 he.2.1).mono fun e w' h => ⟨h.1, he.next h.2.1 rfl (cI_ok.len c) h.2.2, h.2.2⟩
theorem stext_any {w : World} {s b g : Nat} {c : Cur} (he : EyeS w s b g c) : Calls Tryz.prog 263 #[.pointer (some ⟨b, 0, none⟩)] w (SeeS cT (fun x => .string x) w s b g c) :=
  (S2.eyeText_any w b g c.1 c.2.1 he.2.1).mono fun e w' h => ⟨h.1, he.next h.2.1 rfl (cT_ok.len c) h.2.2, h.2.2⟩
theorem keeps_afterO {S : Nat → Prop} {w x y : World} {r : Option Nat} (h : S2.Keeps S w x) (hg : x.grownBy y r) (hk : ∀ k, r = some k → w.heap.size ≤ k) : S2.Keeps S w y :=
  ⟨hg.os.trans h.os, hg.tape.trans h.tape, hg.output.trans h.output, Nat.le_trans h.size hg.size, fun j hj hs => (hg.block j (Nat.lt_of_lt_of_le hj h.size) (fun e => by have := hk j e.symm; omega)).trans (h.block j hj hs)⟩
set_option maxRecDepth 100000 in
set_option maxHeartbeats 2000000 in
theorem sdone_any {w : World} {s b g : Nat} {c : Cur} (he : EyeS w s b g c) :
    Calls Tryz.prog 97 #[.pointer (some ⟨s, 0, none⟩)] w fun e w' => e = .returned (.int .i64 (doneC c)) ∧ w = w' := by
  have HE := Lib.hid he
  have p0 := he.ptr
  have p1 := he.lie
  clear he
  cases hd : c.2.2
  · have HV : Hid (doneC c = S2.doneN c.1 c.2.1) := by show _ = _; unfold doneC; rw [hd]; rfl
    rw [hd] at p1
    go_enter Tryz.func97, Tryz.ntmps97
    go_wp2_with (go_at_call 192; go_must (refine (S2.done_any w b g c.1 c.2.1 HE.out.2.1).mono ?_; rintro e w1 ⟨rfl, rfl⟩))
    go_ret
    exact ⟨by rw [HV.out]; rfl, rfl⟩
  · have HV : Hid (doneC c = 20) := by show _ = _; unfold doneC; rw [hd]; rfl
    rw [hd] at p1
    go_enter Tryz.func97, Tryz.ntmps97
    go_wp2
    go_ret
    exact ⟨by rw [HV.out]; rfl, rfl⟩
set_option maxRecDepth 100000 in
set_option maxHeartbeats 2000000 in
theorem sopen_any (gv : Nat) (va : Value) (B : List UInt8) (w : World) (hB : S2.Bw w gv va B) (hlen : B.length ≤ 1000000) :
    Calls Tryz.prog 95 #[va] w fun e w' => ∃ s b g, e = .returned (.pointer (some ⟨s, 0, none⟩)) ∧ EyeS w' s b g (B, false, false) ∧ w.heap.size ≤ s ∧ w.heap.size ≤ b ∧ (B ≠ [] → w.heap.size ≤ g) ∧ Below w.heap.size w w' := by
  have HBS := Lib.hid hB
  have HLB := Lib.hid hlen
  clear hB hlen
  go_enter Tryz.func95, Tryz.ntmps95
  go_wp2_with (go_at_call 189; go_must (refine (S2.open_w w gv _ B HBS.out (by have := HLB.out; omega)).mono ?_; rintro e w1 ⟨b, g, rfl, he, hb1, hg1, hbel⟩; have HE := Lib.hid he; have HB1 := Lib.hid hb1; have HG1 := Lib.hid hg1; have HBL := Lib.hid hbel; clear he hb1 hg1 hbel))
  go_ret
  have hlt := HE.out.lt
  refine ⟨w1.heap.size, b, g, rfl, ⟨?_, HE.out.before (S2.kAlloc (S2.Keeps.refl _ _) _), by omega, fun hne => ?_⟩, HBL.out.size, HB1.out, HG1.out, HBL.out.alloc HBL.out.size _⟩
  · show (w1.heap.push _)[w1.heap.size]? = _
    rw [Array.getElem?_push_size]
  · have := HE.out.lt2 hne
    omega
end SP
end Go.Proofs.YtjlkgbejldcklaaGreat
