/- Cut and Meet of two lists of spans. Conditions: lists of at most a million spans. -/
import Derived.Test.YtolbgpcmpbkmmaaKf
namespace Go.Proofs.Ytolbgpcmpbkmmaa
open Go.RowKit Go.Sort Go.Shelf

/-- It returns a list of its own, with the spans of r, and leaves older memory as it was. -/
def RetO (w : World) (r : List Sp) (e : Ending) (w' : World) : Prop := ∃ v, e = .returned v ∧ OwnL w' w.heap.size v r ∧ Below w.heap.size w w'
theorem meetings_any (va vb : Value) (w : World) (a b : Option Addr) (n m c d : Nat) (hva : va = .slice a n c) (hvb : vb = .slice b m d) :
    Calls Try.prog 36 #[va, vb] w fun e w' => e = .returned (.func (.func 48) #[] #[.pointer (some ⟨w.heap.size, 0, none⟩), .pointer (some ⟨w.heap.size + 1, 0, none⟩)]) ∧ w' = (w.alloc (.cells #[va] 22)).alloc (.cells #[vb] 22) := by
  subst hva hvb
  go_enter Try.func36, Try.ntmps36
  go_wp2
  go_ret
  exact ⟨rfl, rfl⟩
theorem collect_any (g : Nat) (lb : Array Value) (eg : ∀ args w, (callFunc g args).run Try.prog w = .ok (.enter g args) w) (r : List Sp) (Sx : List Sp → Prop) (N : Nat) (hN : N ≤ 4000000) (w : World)
    (hseq : ∀ (n : Nat) (w' : World), Below w.heap.size w w' → SeqStopsK Fence.wide n Try.prog g lb (fun s : Sp => #[.agg #[.string s.1, .string s.2]]) (Below w.heap.size) (fun xs => xs = r) Sx N w') :
    Calls Try.prog 35 #[.func (.func g) #[] lb] w (RetO w r) := by
  have HS := Lib.hid hseq
  have HE := Lib.hid eg
  clear hseq eg
  go_enter Try.func35, Try.ntmps35
  go_wp2_with fail
  refine (appendSeq_any g lb HE.out r Sx N hN w HS.out).mono ?_
  rintro e w' ⟨v, rfl, ho, hb⟩
  have HO := Lib.hid ho
  have HB := Lib.hid hb
  clear ho hb
  go_wp2
  go_ret
  exact ⟨v, rfl, HO.out, HB.out⟩

theorem two_boxes (w : World) (va vb : Value) (t u : TypeId) : Box1 ((w.alloc (.cells #[va] t)).alloc (.cells #[vb] u)) w.heap.size t va ∧ Box1 ((w.alloc (.cells #[va] t)).alloc (.cells #[vb] u)) (w.heap.size + 1) u vb := by
  refine ⟨(box1_new w t va).later ((Below.refl _ _).alloc (Nat.le_refl _) _) (by simp), ?_⟩
  have h := box1_new (w.alloc (.cells #[va] t)) u vb
  rwa [World.size_alloc] at h
theorem eg48 : ∀ args w, (callFunc 48 args).run Try.prog w = .ok (.enter 48 args) w := enters_of Try.func48 (by kernel_rfl) rfl

theorem cut_any (va vb : Value) (la lb : List Sp) (w : World) (hla : la.length ≤ 1000000) (hlb : lb.length ≤ 1000000) (ha : Sl w va la) (hb : Sl w vb lb) :
    Calls Try.prog 22 #[va, vb] w (RetO w (cutL la lb)) := by
  obtain ⟨aa, ca, rfl⟩ := ha.form
  obtain ⟨ab, cb, rfl⟩ := hb.form
  have HA := Lib.hid ha
  have HB := Lib.hid hb
  clear ha hb
  go_enter Try.func22, Try.ntmps22
  go_wp2_with fail
  refine (meetings_any _ _ w _ _ _ _ _ _ rfl rfl).mono ?_
  rintro e w1 ⟨rfl, rfl⟩
  have hbel := blAlloc (blAlloc (Below.refl w.heap.size w) (.cells #[.slice aa la.length ca] 22)) (.cells #[.slice ab lb.length cb] 22)
  obtain ⟨h1, h2⟩ := two_boxes w (.slice aa la.length ca) (.slice ab lb.length cb) 22 22
  have HBEL := Lib.hid hbel
  have H1 := Lib.hid h1
  have H2 := Lib.hid h2
  clear hbel h1 h2
  go_wp2_with fail
  refine (collect_any 48 _ eg48 (cutL la lb) _ (la.length + lb.length) (by omega) _ (fun n w' hw => meetings_stops n _ w' w.heap.size (w.heap.size + 1) _ _ la lb hla hlb (HA.out.later HBEL.out) (HB.out.later HBEL.out) H1.out H2.out hw)).mono ?_
  rintro e w' ⟨v, rfl, ho, hb⟩
  have HO := Lib.hid (ho.mono HBEL.out.size)
  have HBB := Lib.hid (blThen HBEL.out hb)
  clear ho hb
  go_wp2
  go_ret
  exact ⟨v, rfl, HO.out, HBB.out⟩

end Go.Proofs.Ytolbgpcmpbkmmaa
