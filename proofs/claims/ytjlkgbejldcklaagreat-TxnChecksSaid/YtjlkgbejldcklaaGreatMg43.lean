/- The reference's eye, piece by piece, as a reader of codecs: what it gives, where it stands behind, and that what was laid is read again. Conditions: as each theorem states. -/
import Derived.Lib.BufferRead
import Derived.Laws.IdiomStrings
import Derived.Test.YtjlkgbejldcklaaGreatMg39
import Derived.Test.YtjlkgbejldcklaaGreatMg33
import Derived.Test.YtjlkgbejldcklaaGreatMg28
import Derived.Test.YtjlkgbejldcklaaGreatMg27
import Derived.Test.YtjlkgbejldcklaaGreatMg23
/- The reference's eye, piece by piece, as a reader of codecs: what it gives, where it stands behind, and that what was laid is read again. Conditions: as each theorem states. -/
set_option linter.unusedVariables false
set_option linter.unusedSimpArgs false
namespace Go.Proofs.YtjlkgbejldcklaaGreat
open S3 SN
namespace SP
open Go.ChangeShapes Go.WideShapes Go.ChangeAt Go.RowKit Go.Joins Go.Deep

/-- From place i on, with eyes that see (bl = false), the bytes of y would have been read as y, and the eye would stand behind them. -/
def Fr {α : Type} (k : Cod α) (B : List UInt8) (i : Nat) (bl : Bool) (x : α) (i' : Nat) (bl' : Bool) : Prop :=
  ∀ y R, bl = false → B.drop i = k.lay y ++ R → k.good y → x = y ∧ bl' = false ∧ B.drop i' = R
theorem fr_of {α : Type} {k : Cod α} (hk : k.Ok) {B : List UInt8} {i i' : Nat} {bl bl' : Bool} {x : α} (h1 : x = k.val (B.drop i, bl, false)) (h2 : B.drop i' = (k.fin (B.drop i, bl, false)).1) (h3 : bl' = (k.fin (B.drop i, bl, false)).2.1) : Fr k B i bl x i' bl' := by
  intro y R hb hd hg
  subst hb
  obtain ⟨f1, f2⟩ := hk.front y R hg
  rw [hd] at h1 h2 h3
  rw [f1] at h1
  rw [f2] at h2 h3
  exact ⟨h1, h3, h2⟩
theorem Fr.two {α β : Type} {a : Cod α} {b : Cod β} {B : List UInt8} {i i1 i2 : Nat} {bl b1 b2 : Bool} {x : α} {y : β} (h : Fr a B i bl x i1 b1) (k : Fr b B i1 b1 y i2 b2) : Fr (a.two b) B i bl (x, y) i2 b2 := by
  intro z R hb hd hg
  have hd2 : B.drop i = a.lay z.1 ++ (b.lay z.2 ++ R) := by
    rw [hd]
    show (a.lay z.1 ++ b.lay z.2) ++ R = _
    rw [List.append_assoc]
  obtain ⟨h1, h2, h3⟩ := h z.1 _ hb hd2 hg.1
  obtain ⟨k1, k2, k3⟩ := k z.2 R h2 h3 hg.2
  exact ⟨by rw [h1, k1], k2, k3⟩
/-- The eye has gone on, or is blind. -/
def Rise (i : Nat) (bl : Bool) (i' : Nat) (bl' : Bool) : Prop := i ≤ i' ∧ (bl' = false → i < i' ∧ bl = false)
theorem Rise.trans {i i1 i2 : Nat} {bl b1 b2 : Bool} (h : Rise i bl i1 b1) (k : Rise i1 b1 i2 b2) : Rise i bl i2 b2 :=
  ⟨Nat.le_trans h.1 k.1, fun e => ⟨Nat.lt_of_le_of_lt h.1 (k.2 e).1, (h.2 (k.2 e).2).2⟩⟩
theorem rise_step {ok bl : Bool} {k i : Nat} (hk : 0 < k) (h : ok = true → bl = false) : Rise i bl (S2.stepN ok k i) (!ok) := by
  unfold S2.stepN
  cases ok
  · exact ⟨Nat.le_refl _, fun e => by cases e⟩
  · exact ⟨by simp, fun _ => ⟨by simp; omega, h rfl⟩⟩
theorem okN {P : Prop} [Decidable P] {bl : Bool} (h : (!bl && decide P) = true) : bl = false := by cases bl <;> simp_all
/-- What a reading of the reference's eye comes to. -/
def XSeen {α : Type} (k : Cod α) (V : α → Value) (w : World) (b g : Nat) (B : List UInt8) (i : Nat) (bl : Bool) (e : Ending) (w' : World) : Prop :=
  ∃ x i' bl', e = .returned (V x) ∧ S2.RAt w' b g B i' bl' ∧ S2.Keeps (S2.Only b) w w' ∧ Fr k B i bl x i' bl' ∧ Rise i bl i' bl'
theorem xint_any {w : World} {b g : Nat} {B : List UInt8} {i : Nat} {bl : Bool} (he : S2.RAt w b g B i bl) :
    Calls Tryz.prog 193 #[.pointer (some ⟨b, 0, none⟩)] w (XSeen cI (fun x => .int .i64 x) w b g B i bl) :=
  (S2.rInt_any w b g B i bl he).mono fun e w' h => ⟨_, _, _, h.1, h.2.1, h.2.2, fr_of cI_ok rfl (S2.behind_step _ _ _ _).symm rfl, rise_step (by decide) fun h => okN h⟩
theorem xtext_any {w : World} {b g : Nat} {B : List UInt8} {i : Nat} {bl : Bool} (he : S2.RAt w b g B i bl) :
    Calls Tryz.prog 206 #[.pointer (some ⟨b, 0, none⟩)] w (XSeen cT (fun x => .string x) w b g B i bl) :=
  (S2.rText_any w b g B i bl he).mono fun e w' h => ⟨_, _, _, h.1, h.2.1, h.2.2, fr_of cT_ok rfl (S2.behind_step _ _ _ _).symm rfl, rise_step (by omega) fun h => okN h⟩
theorem xbool_any {w : World} {b g : Nat} {B : List UInt8} {i : Nat} {bl : Bool} (he : S2.RAt w b g B i bl) :
    Calls Tryz.prog 237 #[.pointer (some ⟨b, 0, none⟩)] w (XSeen cB (fun x => .bool x) w b g B i bl) :=
  (S2.rBool_any w b g B i bl he).mono fun e w' h => ⟨_, _, _, h.1, h.2.1, h.2.2, fr_of cB_ok rfl (S2.behind_step _ _ _ _).symm rfl, rise_step (by decide) fun h => okN h⟩
theorem xstamp_any {w : World} {b g : Nat} {B : List UInt8} {i : Nat} {bl : Bool} (he : S2.RAt w b g B i bl) :
    Calls Tryz.prog 236 #[.pointer (some ⟨b, 0, none⟩)] w (XSeen cS (fun x => .agg #[.int .i64 x.1, .int .i64 x.2]) w b g B i bl) :=
  (S2.rStamp_any w b g B i bl he).mono fun e w' h => ⟨_, _, _, h.1, h.2.1, h.2.2, fr_of cS_ok rfl (S2.behind_step _ _ _ _).symm rfl, rise_step (by decide) fun h => okN h⟩
/-- A number that is laid as it is, and read as a number without a sign. -/
theorem fr_num {B : List UInt8} {i i' : Nat} {bl bl' : Bool} {x : Int} (h : Fr cI B i bl x i' bl') : Fr cN B i bl (u64 x) i' bl' := by
  intro y R hb hd hg
  obtain ⟨h1, h2, h3⟩ := h (wrap64 (y : Int)) R hb hd (wrap64_wf _)
  exact ⟨by rw [h1]; exact u64_wrap hg, h2, h3⟩
theorem u64_lt (x : Int) : u64 x < 18446744073709551616 := by
  unfold u64
  rw [wrapU]
  omega

/-! ### Lists -/
/-- How far the reading of a list has come: F was read, the list would have been y. -/
def Lp {α : Type} (k : Cod α) (B : List UInt8) (i0 : Nat) (bl0 : Bool) (N : Int) (F : List α) (ip : Nat) (bl : Bool) : Prop :=
  ∀ y R, bl0 = false → B.drop i0 = k.list.lay y ++ R → k.list.good y → N = y.length ∧ bl = false ∧ F.length ≤ y.length ∧ F = y.take F.length ∧ B.drop ip = (y.drop F.length).flatMap k.lay ++ R
theorem Lp.start {α : Type} {k : Cod α} {B : List UInt8} {i0 i1 : Nat} {bl0 b1 : Bool} {N : Int} (h : Fr cI B i0 bl0 N i1 b1) : Lp k B i0 bl0 N [] i1 b1 := by
  intro y R hb hd hg
  have hd2 : B.drop i0 = cI.lay (y.length : Int) ++ (y.flatMap k.lay ++ R) := by rw [hd, list_lay, List.append_assoc]
  obtain ⟨h1, h2, h3⟩ := h (y.length : Int) _ hb hd2 (wf_len hg.1)
  exact ⟨h1, h2, Nat.zero_le _, by simp, by simpa using h3⟩
theorem Lp.step {α : Type} {k : Cod α} {B : List UInt8} {i0 ip i1 : Nat} {bl0 bl b1 : Bool} {N : Int} {F : List α} {x : α} (h : Lp k B i0 bl0 N F ip bl) (hN : (F.length : Int) < N) (hx : Fr k B ip bl x i1 b1) : Lp k B i0 bl0 N (F ++ [x]) i1 b1 := by
  intro y R hb hd hg
  obtain ⟨h1, h2, h3, h4, h5⟩ := h y R hb hd hg
  have hlt : F.length < y.length := by omega
  have hy : y.drop F.length = y[F.length] :: y.drop (F.length + 1) := List.drop_eq_getElem_cons hlt
  have hd2 : B.drop ip = k.lay y[F.length] ++ ((y.drop (F.length + 1)).flatMap k.lay ++ R) := by rw [h5, hy, List.flatMap_cons, List.append_assoc]
  obtain ⟨x1, x2, x3⟩ := hx _ _ h2 hd2 (hg.2 _ (List.getElem_mem hlt))
  have e : (F ++ [x]).length = F.length + 1 := by simp
  refine ⟨h1, x2, by omega, ?_, by rw [e]; exact x3⟩
  rw [e, List.take_succ_eq_append_getElem hlt, ← h4, x1]
theorem Lp.done {α : Type} {k : Cod α} {B : List UInt8} {i0 ip : Nat} {bl0 bl : Bool} {N : Int} {F : List α} (h : Lp k B i0 bl0 N F ip bl) (he : ¬ (F.length : Int) < N ∨ bl = true) : Fr k.list B i0 bl0 F ip bl := by
  intro y R hb hd hg
  obtain ⟨h1, h2, h3, h4, h5⟩ := h y R hb hd hg
  have hl : F.length = y.length := by
    rcases he with he | he
    · omega
    · rw [h2] at he; cases he
  rw [hl, List.drop_length] at h5
  rw [hl, List.take_length] at h4
  exact ⟨h4, h2, h5⟩
/-- A list of at most so many. -/
def Cod.upto {α : Type} (k : Cod (List α)) (n : Nat) : Cod (List α) := ⟨k.lay, k.val, k.fin, fun l => k.good l ∧ l.length ≤ n⟩
theorem Cod.upto_ok {α : Type} {k : Cod (List α)} (n : Nat) (hk : k.Ok) : (k.upto n).Ok := ⟨hk.inv, fun x R h => hk.front x R h.1, hk.len⟩
theorem Lp.upto {α : Type} {k : Cod α} {B : List UInt8} {i0 ip n : Nat} {bl0 bl : Bool} {N : Int} {F : List α} (h : Lp k B i0 bl0 N F ip bl) (he : ¬ (F.length : Int) < N ∨ bl = true ∨ n < F.length) : Fr (k.list.upto n) B i0 bl0 F ip bl := by
  intro y R hb hd hg
  obtain ⟨h1, h2, h3, h4, h5⟩ := h y R hb hd hg.1
  have hn := hg.2
  have hl : F.length = y.length := by
    rcases he with he | he | he
    · omega
    · rw [h2] at he; cases he
    · omega
  rw [hl, List.drop_length] at h5
  rw [hl, List.take_length] at h4
  exact ⟨h4, h2, h5⟩

/-! ### Rows of bytes that grow -/
theorem rs_cell {g g' : Option Nat} {w w' : World} {k i : Nat} {v : Value} (h : S2.RowStep g g' w w') (hg : g ≠ some k) (hc : w.cell? ⟨k, i, none⟩ = some v) : w'.cell? ⟨k, i, none⟩ = some v := h.keeps.cell (fun e => hg e) hc
theorem rs_free {g g' : Option Nat} {w w' : World} {k : Nat} (h : S2.RowStep g g' w w') (hg : g ≠ some k) (hk : k < w.heap.size) : g' ≠ some k := by
  intro e
  rcases h.row with r | r
  · exact hg (r ▸ e)
  · have := r k e
    omega
theorem rs_ge {B : Nat} {g g' : Option Nat} {w w' : World} (h : S2.RowStep g g' w w') (hB : B ≤ w.heap.size) (hg : ∀ k, g = some k → B ≤ k) : ∀ k, g' = some k → B ≤ k := by
  intro k hk
  rcases h.row with e | e
  · exact hg k (e ▸ hk)
  · exact Nat.le_trans hB (e k hk)
theorem row_free {w : World} {g : Option Nat} {v : Value} {l : List UInt8} (h : S2.Row w g v l) {k : Nat} (hk : w.heap.size ≤ k) : g ≠ some k := by
  intro e
  have := h.lt e
  omega
theorem rat_kept {w w' : World} {b g : Nat} {B : List UInt8} {i : Nat} {bl : Bool} {r : Option Nat} (h : S2.RAt w b g B i bl) (hg : w.grownBy w' r) (h1 : r ≠ some b) (h2 : B ≠ [] → r ≠ some g) : S2.RAt w' b g B i bl :=
  h.keep (S2.Keeps.grown (S := fun x => r = some x) hg fun _ _ e => e) h1 h2

/-! ### Bytes that came in -/
/-- Bytes that came in, as a text. -/
theorem bw_str {w : World} {g : Nat} {v : Value} {l : List UInt8} (h : S2.Bw w g v l) : (convert 23 9 v).run Tryz.prog w = .ok (.string ⟨l.toArray⟩) w := by
  obtain ⟨a, c, rfl, h0, h1, h2⟩ := h
  cases a with
  | none =>
    obtain ⟨rfl, rfl⟩ := h0 rfl
    exact Lib.run_convert_nil_bytes w 23 9 5 0 Tryz.underlying23 Tryz.underlying5 Tryz.underlying9
  | some p =>
    refine run_convert_bytes_back w 23 9 5 p c l Tryz.underlying23 Tryz.underlying5 Tryz.underlying9 fun j hj => ?_
    obtain ⟨o, ho, hc⟩ := h2 (by rintro rfl; simp at hj)
    simp only [Option.some.injEq] at ho
    subst ho
    rw [S2.add_plain]
    exact hc j _ (List.getElem?_eq_getElem hj)
theorem bw_cut {w : World} {g k : Nat} {a : Option Addr} {n c : Nat} {l : List UInt8} (h : S2.Bw w g (.slice a n c) l) (hk : k < l.length) : S2.Bw w g (.slice a k c) (l.take k) := by
  obtain ⟨a', c', hv, h0, h1, h2⟩ := h
  cases hv
  obtain ⟨o, ho, hc⟩ := h2 (by rintro rfl; simp at hk)
  subst ho
  have e : (l.take k).length = k := by simp; omega
  refine ⟨_, c, by rw [e], (fun h => by cases h), by rw [e]; omega, fun _ => ⟨o, rfl, fun j x hj => hc j x ?_⟩⟩
  have hj2 : j < (l.take k).length := (List.getElem?_eq_some_iff.1 hj).1
  rw [e] at hj2
  rw [List.getElem?_take] at hj
  rw [if_pos hj2] at hj
  exact hj
theorem bw_keep {w x : World} {g : Nat} {v : Value} {l : List UInt8} (h : S2.Bw w g v l) (hb : Below w.heap.size w x) : S2.Bw x g v l := by
  obtain ⟨a, c, hv, h0, h1, h2⟩ := h
  refine ⟨a, c, hv, h0, h1, fun hne => ?_⟩
  obtain ⟨o, ho, hc⟩ := h2 hne
  refine ⟨o, ho, fun j y hj => ?_⟩
  rw [hb.cell (World.block_lt_of_cell? _ _ (hc j y hj))]
  exact hc j y hj

end SP
end Go.Proofs.YtjlkgbejldcklaaGreat
