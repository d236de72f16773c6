/- FlatBlind: an eye that is blind stays where it is, and sees nothing for ever: whatever the bytes and the readings, the law returns true and leaves its arguments as they were. Conditions: none. -/
import Derived.Test.YtjojjpfjennnoaaFt
namespace Go.Proofs.Ytjojjpfjennnoaa
open Go.ChangeShapes Go.WideShapes Go.ChangeAt Go.RowKit Go.Joins Go.Deep

theorem eyeInt_bl (w : World) (b g : Nat) (l : List UInt8) (he : EyeAt w b g l true) : Calls Try.prog 24 #[.pointer (some ⟨b, 0, none⟩)] w (Seen w b g true (.int .i64 0) l) := by
  have h := eyeInt_any w b g l true he
  have h1 : okI l true = false := rfl
  have h2 : valI l true = 0 := by simp [valI, h1]
  rw [h1, h2] at h
  exact h
theorem eyeText_bl (w : World) (b g : Nat) (l : List UInt8) (he : EyeAt w b g l true) : Calls Try.prog 26 #[.pointer (some ⟨b, 0, none⟩)] w (Seen w b g true (.string ⟨#[]⟩) l) := by
  have h := eyeText_any w b g l true he
  have h1 : okT l true = false := rfl
  have h2 : valT l true = ⟨#[]⟩ := by simp [valT, h1]
  rw [h1, h2] at h
  exact h
theorem eyeBool_bl (w : World) (b g : Nat) (l : List UInt8) (he : EyeAt w b g l true) : Calls Try.prog 28 #[.pointer (some ⟨b, 0, none⟩)] w (Seen w b g true (.bool false) l) := by
  have h := eyeBool_any w b g l true he
  have h1 : okB l true = false := rfl
  have h2 : valB l true = false := by simp [valB, h1]
  rw [h1, h2] at h
  exact h
theorem eyeStamp_bl (w : World) (b g : Nat) (l : List UInt8) (he : EyeAt w b g l true) : Calls Try.prog 30 #[.pointer (some ⟨b, 0, none⟩)] w (Seen w b g true (.agg #[.int .i64 0, .int .i64 0]) l) := by
  have h := eyeStamp_any w b g l true he
  have h1 : okS l true = false := rfl
  have h2 : valS l true = (0, 0) := by simp [valS, h1]
  rw [h1, h2] at h
  exact h
theorem eyeStamps_bl (w : World) (b g : Nat) (l : List UInt8) (he : EyeAt w b g l true) : Calls Try.prog 33 #[.pointer (some ⟨b, 0, none⟩)] w (SeenSl w b g true [] l) := eyeStamps_blind w b g l he

set_option maxRecDepth 100000 in
set_option maxHeartbeats 8000000 in
theorem flatBlind_walk (g0 : Nat) (v : Value) (l : List UInt8) (a2 : Option Addr) (c2 g2 : Nat) (ks : List Int) (w : World) (hb : Bw w g0 v l) (hm2 : ks.length ≤ maxLen) (hi : IL w g2 a2 ks) (hg2 : ks ≠ [] → g2 < w.heap.size) :
    Calls Try.prog 10 #[v, .slice a2 ks.length c2] w fun e w' => e = .returned (.bool true) ∧ Below w.heap.size w w' := by
  obtain ⟨a1, c1, rfl⟩ := hb.form
  have hmax : l.length ≤ maxLen := by obtain ⟨_, _, _, _, h, _⟩ := hb; exact h
  unfold maxLen at hmax hm2
  by_cases hbig : 20000 < l.length
  · go_enter Try.func10, Try.ntmps10
    go_wp2_with (go_at_call 13; refine (live_any _).mono ?_; rintro e w9 ⟨rfl, hb1⟩; have HB1 := Lib.hid hb1; clear hb1)
    go_ret
    exact ⟨rfl, HB1.out⟩
  · by_cases hbig2 : 60 < ks.length
    · go_enter Try.func10, Try.ntmps10
      go_wp2_with (go_at_call 13; refine (live_any _).mono ?_; rintro e w9 ⟨rfl, hb1⟩; have HB1 := Lib.hid hb1; clear hb1)
      go_ret
      exact ⟨rfl, HB1.out⟩
    · have h1 : l.length ≤ 20000 := by omega
      have h2 : ks.length ≤ 60 := by omega
      have hd1 : decide ((20000 : Int) < (l.length : Int)) = false := by simp; omega
      have hd2 : decide ((60 : Int) < (ks.length : Int)) = false := by simp; omega
      have HBW := Lib.hid hb
      have HI := Lib.hid hi
      have HG2 := Lib.hid hg2
      clear hb hi hg2 hbig hbig2
      go_enter Try.func10, Try.ntmps10
      go_wp2_with fail
      refine (open_w w g0 _ l HBW.out (by omega)).mono ?_
      rintro e w1 ⟨b, g, rfl, he, hbb, hgg, hbel⟩
      have HE1 := Lib.hid he
      have HS1 := Lib.hid hbel
      clear he hbel hgg
      have HBX : Hid (∀ wr, Keeps (Only b) w1 wr → Below w.heap.size w wr) := fun wr h => HS1.out.trans (onlyB h HS1.out.size hbb)
      go_wp2_with fail
      go_loopw [6] (fun i wr => ∃ j : Nat, 8 * j ≤ l.length ∧ i = .int .i64 j ∧ EyeAt wr b g (l.drop (8 * j)) false ∧ Keeps (Only b) w1 wr) (fun i _ => l.length - (intOf i).toNat)
      case atStart => exact ⟨0, Nat.zero_le _, rfl, HE1.out, Keeps.refl _ _⟩
      case round =>
        obtain ⟨j, hj, rfl, hej, hkj⟩ := hrel
        have HEJ := Lib.hid hej
        have HKJ := Lib.hid hkj
        clear hej hkj
        by_cases hlt : 8 * j + 8 ≤ l.length
        · have hok : okI (l.drop (8 * j)) false = true := by simp [okI]; omega
          have HDD : Hid (behind true 8 (l.drop (8 * j)) = l.drop (8 * (j + 1))) := by show _ = _; rw [behind_yes, List.drop_drop]; congr 1
          have HOK := Lib.hid hok
          have hq : j < l.length / 8 := by omega
          have hqI : (j : Int) < (l.length : Int) / 8 := by omega
          clear hok
          go_wp2_with (go_at_call 24; refine (eyeInt_any _ b g _ false HEJ.out).mono ?_; rintro e w2 ⟨rfl, he2, hk2⟩; rw [HOK.out, HDD.out] at he2; have HE2 := Lib.hid he2; have HK2 := Lib.hid (HKJ.out.then hk2); clear he2 hk2)
          go_roundw
          case rel => exact ⟨j + 1, by omega, by go_num, HE2.out, HK2.out⟩
          case measure => simp [intOf]; omega
        · have hq : ¬ (j : Int) < (l.length : Int) / 8 := by omega
          have hjq : j = l.length / 8 := by omega
          have hrl : (l.drop (8 * j)).length = l.length % 8 := by rw [List.length_drop]; omega
          have hok : okI (l.drop (8 * j)) false = false := by simp [okI]; omega
          have hm8 : l.length % 8 < 8 := Nat.mod_lt _ (by decide)
          clear hjq hlt
          generalize l.drop (8 * j) = r at HEJ hrl hok
          have hvi : valI r false = 0 := by simp [valI, hok]
          have HOK := Lib.hid hok
          have HVI := Lib.hid hvi
          have HLR : Hid ((r.length : Int) = (l.length : Int) % 8) := by show _ = _; rw [hrl]; simp
          have HDN : Hid (doneN r true = 20) := rfl
          clear hok hvi hrl
          go_wp2_with (first | (go_at_call 35; refine (left_any _ b g r false HEJ.out).mono ?_; rintro e w' ⟨rfl, rfl⟩; rw [HLR.out]) | fail)
          have hint : Calls Try.prog 24 #[.pointer (some ⟨b, 0, none⟩)] wr (Seen wr b g true (.int .i64 0) r) := by
            have h := eyeInt_any wr b g r false HEJ.out
            rw [HOK.out, HVI.out, behind_no] at h
            exact h
          have HINT := Lib.hid hint
          clear hint
          refine HINT.out.mono ?_
          rintro e w2 ⟨rfl, he2, hk2⟩
          have HEX := Lib.hid he2
          have HKX := Lib.hid (HKJ.out.then hk2)
          clear he2 hk2
          have hneq : ∀ w : World, (binOp .neq 49 (.agg #[.int .i64 0, .int .i64 0]) (.agg #[.int .i64 0, .int .i64 0])).run Try.prog w = .ok (.bool false) w := fun _ => by kernel_rfl
          go_wp2_with (first | (go_at_call 35; refine (left_any _ b g r true HEX.out).mono ?_; rintro e w ⟨rfl, rfl⟩; rw [HLR.out]) | (go_at_call 37; refine (done_any _ b g r true HEX.out).mono ?_; rintro e w ⟨rfl, rfl⟩; rw [HDN.out]) | (go_at_call 36; refine (num_any _ _).mono ?_; rintro e w' ⟨rfl, rfl⟩))
          go_loopw [8] (fun i wr => ∃ j : Nat, j ≤ ks.length ∧ i = .int .i64 j ∧ EyeAt wr b g r true ∧ Keeps (Only b) w1 wr) (fun i _ => ks.length - (intOf i).toNat)
          case atStart => exact ⟨0, Nat.zero_le _, rfl, HEX.out, HKX.out⟩
          case round =>
            clear HEX HKX
            obtain ⟨j, hj, rfl, hej, hkj⟩ := hrel
            have HEX := Lib.hid hej
            have HKX := Lib.hid hkj
            have HB := Lib.hid (HBX.out _ hkj)
            clear hej hkj
            by_cases hlt : j < ks.length
            · obtain ⟨k, hk⟩ := get_lt hlt
              have hgw := HG2.out (not_nil hlt)
              obtain ⟨o, rfl, hc⟩ := HI.out (not_nil hlt)
              have cx := (HB.out.cell (p := ⟨g2, o + j, none⟩) hgw).trans (hc j k hk)
              clear hc hk
              by_cases k0 : k = 0
              · subst k0
                go_wp2_with (first | (go_at_call 24; refine (eyeInt_bl _ b g r HEX.out).mono ?_; rintro e w4 ⟨rfl, he4, hk4⟩; have HEX := Lib.hid he4; have HKX := Lib.hid (HKX.out.then hk4); clear he4 hk4) | (go_at_call 26; refine (eyeText_bl _ b g r HEX.out).mono ?_; rintro e w4 ⟨rfl, he4, hk4⟩; have HEX := Lib.hid he4; have HKX := Lib.hid (HKX.out.then hk4); clear he4 hk4) | (go_at_call 28; refine (eyeBool_bl _ b g r HEX.out).mono ?_; rintro e w4 ⟨rfl, he4, hk4⟩; have HEX := Lib.hid he4; have HKX := Lib.hid (HKX.out.then hk4); clear he4 hk4) | (go_at_call 30; refine (eyeStamp_bl _ b g r HEX.out).mono ?_; rintro e w4 ⟨rfl, he4, hk4⟩; have HEX := Lib.hid he4; have HKX := Lib.hid (HKX.out.then hk4); clear he4 hk4) | (go_at_call 33; refine (eyeStamps_bl _ b g r HEX.out).mono ?_; rintro e w4 ⟨a4, c4, h4, rfl, _, _, he4, hk4⟩; have HEX := Lib.hid he4; have HKX := Lib.hid (HKX.out.then hk4); clear he4 hk4) | (go_at_call 35; refine (left_any _ b g r true HEX.out).mono ?_; rintro e w ⟨rfl, rfl⟩; rw [HLR.out]) | (go_at_call 37; refine (done_any _ b g r true HEX.out).mono ?_; rintro e w ⟨rfl, rfl⟩; rw [HDN.out]) | (go_at_call 36; refine (num_any _ _).mono ?_; rintro e w' ⟨rfl, rfl⟩))
                go_roundw
                case rel => exact ⟨j + 1, hlt, by go_num, HEX.out, HKX.out⟩
                case measure => simp [intOf]; omega
              · by_cases k1 : k = 1
                · subst k1
                  go_wp2_with (first | (go_at_call 24; refine (eyeInt_bl _ b g r HEX.out).mono ?_; rintro e w4 ⟨rfl, he4, hk4⟩; have HEX := Lib.hid he4; have HKX := Lib.hid (HKX.out.then hk4); clear he4 hk4) | (go_at_call 26; refine (eyeText_bl _ b g r HEX.out).mono ?_; rintro e w4 ⟨rfl, he4, hk4⟩; have HEX := Lib.hid he4; have HKX := Lib.hid (HKX.out.then hk4); clear he4 hk4) | (go_at_call 28; refine (eyeBool_bl _ b g r HEX.out).mono ?_; rintro e w4 ⟨rfl, he4, hk4⟩; have HEX := Lib.hid he4; have HKX := Lib.hid (HKX.out.then hk4); clear he4 hk4) | (go_at_call 30; refine (eyeStamp_bl _ b g r HEX.out).mono ?_; rintro e w4 ⟨rfl, he4, hk4⟩; have HEX := Lib.hid he4; have HKX := Lib.hid (HKX.out.then hk4); clear he4 hk4) | (go_at_call 33; refine (eyeStamps_bl _ b g r HEX.out).mono ?_; rintro e w4 ⟨a4, c4, h4, rfl, _, _, he4, hk4⟩; have HEX := Lib.hid he4; have HKX := Lib.hid (HKX.out.then hk4); clear he4 hk4) | (go_at_call 35; refine (left_any _ b g r true HEX.out).mono ?_; rintro e w ⟨rfl, rfl⟩; rw [HLR.out]) | (go_at_call 37; refine (done_any _ b g r true HEX.out).mono ?_; rintro e w ⟨rfl, rfl⟩; rw [HDN.out]) | (go_at_call 36; refine (num_any _ _).mono ?_; rintro e w' ⟨rfl, rfl⟩))
                  go_roundw
                  case rel => exact ⟨j + 1, hlt, by go_num, HEX.out, HKX.out⟩
                  case measure => simp [intOf]; omega
                · by_cases k2 : k = 2
                  · subst k2
                    go_wp2_with (first | (go_at_call 24; refine (eyeInt_bl _ b g r HEX.out).mono ?_; rintro e w4 ⟨rfl, he4, hk4⟩; have HEX := Lib.hid he4; have HKX := Lib.hid (HKX.out.then hk4); clear he4 hk4) | (go_at_call 26; refine (eyeText_bl _ b g r HEX.out).mono ?_; rintro e w4 ⟨rfl, he4, hk4⟩; have HEX := Lib.hid he4; have HKX := Lib.hid (HKX.out.then hk4); clear he4 hk4) | (go_at_call 28; refine (eyeBool_bl _ b g r HEX.out).mono ?_; rintro e w4 ⟨rfl, he4, hk4⟩; have HEX := Lib.hid he4; have HKX := Lib.hid (HKX.out.then hk4); clear he4 hk4) | (go_at_call 30; refine (eyeStamp_bl _ b g r HEX.out).mono ?_; rintro e w4 ⟨rfl, he4, hk4⟩; have HEX := Lib.hid he4; have HKX := Lib.hid (HKX.out.then hk4); clear he4 hk4) | (go_at_call 33; refine (eyeStamps_bl _ b g r HEX.out).mono ?_; rintro e w4 ⟨a4, c4, h4, rfl, _, _, he4, hk4⟩; have HEX := Lib.hid he4; have HKX := Lib.hid (HKX.out.then hk4); clear he4 hk4) | (go_at_call 35; refine (left_any _ b g r true HEX.out).mono ?_; rintro e w ⟨rfl, rfl⟩; rw [HLR.out]) | (go_at_call 37; refine (done_any _ b g r true HEX.out).mono ?_; rintro e w ⟨rfl, rfl⟩; rw [HDN.out]) | (go_at_call 36; refine (num_any _ _).mono ?_; rintro e w' ⟨rfl, rfl⟩))
                    go_roundw
                    case rel => exact ⟨j + 1, hlt, by go_num, HEX.out, HKX.out⟩
                    case measure => simp [intOf]; omega
                  · by_cases k3 : k = 3
                    · subst k3
                      go_wp2_with (first | (go_at_call 24; refine (eyeInt_bl _ b g r HEX.out).mono ?_; rintro e w4 ⟨rfl, he4, hk4⟩; have HEX := Lib.hid he4; have HKX := Lib.hid (HKX.out.then hk4); clear he4 hk4) | (go_at_call 26; refine (eyeText_bl _ b g r HEX.out).mono ?_; rintro e w4 ⟨rfl, he4, hk4⟩; have HEX := Lib.hid he4; have HKX := Lib.hid (HKX.out.then hk4); clear he4 hk4) | (go_at_call 28; refine (eyeBool_bl _ b g r HEX.out).mono ?_; rintro e w4 ⟨rfl, he4, hk4⟩; have HEX := Lib.hid he4; have HKX := Lib.hid (HKX.out.then hk4); clear he4 hk4) | (go_at_call 30; refine (eyeStamp_bl _ b g r HEX.out).mono ?_; rintro e w4 ⟨rfl, he4, hk4⟩; have HEX := Lib.hid he4; have HKX := Lib.hid (HKX.out.then hk4); clear he4 hk4) | (go_at_call 33; refine (eyeStamps_bl _ b g r HEX.out).mono ?_; rintro e w4 ⟨a4, c4, h4, rfl, _, _, he4, hk4⟩; have HEX := Lib.hid he4; have HKX := Lib.hid (HKX.out.then hk4); clear he4 hk4) | (go_at_call 35; refine (left_any _ b g r true HEX.out).mono ?_; rintro e w ⟨rfl, rfl⟩; rw [HLR.out]) | (go_at_call 37; refine (done_any _ b g r true HEX.out).mono ?_; rintro e w ⟨rfl, rfl⟩; rw [HDN.out]) | (go_at_call 36; refine (num_any _ _).mono ?_; rintro e w' ⟨rfl, rfl⟩))
                      go_roundw
                      case rel => exact ⟨j + 1, hlt, by go_num, HEX.out, HKX.out⟩
                      case measure => simp [intOf]; omega
                    · by_cases k4 : k = 4
                      · subst k4
                        go_wp2_with (first | (go_at_call 24; refine (eyeInt_bl _ b g r HEX.out).mono ?_; rintro e w4 ⟨rfl, he4, hk4⟩; have HEX := Lib.hid he4; have HKX := Lib.hid (HKX.out.then hk4); clear he4 hk4) | (go_at_call 26; refine (eyeText_bl _ b g r HEX.out).mono ?_; rintro e w4 ⟨rfl, he4, hk4⟩; have HEX := Lib.hid he4; have HKX := Lib.hid (HKX.out.then hk4); clear he4 hk4) | (go_at_call 28; refine (eyeBool_bl _ b g r HEX.out).mono ?_; rintro e w4 ⟨rfl, he4, hk4⟩; have HEX := Lib.hid he4; have HKX := Lib.hid (HKX.out.then hk4); clear he4 hk4) | (go_at_call 30; refine (eyeStamp_bl _ b g r HEX.out).mono ?_; rintro e w4 ⟨rfl, he4, hk4⟩; have HEX := Lib.hid he4; have HKX := Lib.hid (HKX.out.then hk4); clear he4 hk4) | (go_at_call 33; refine (eyeStamps_bl _ b g r HEX.out).mono ?_; rintro e w4 ⟨a4, c4, h4, rfl, _, _, he4, hk4⟩; have HEX := Lib.hid he4; have HKX := Lib.hid (HKX.out.then hk4); clear he4 hk4) | (go_at_call 35; refine (left_any _ b g r true HEX.out).mono ?_; rintro e w ⟨rfl, rfl⟩; rw [HLR.out]) | (go_at_call 37; refine (done_any _ b g r true HEX.out).mono ?_; rintro e w ⟨rfl, rfl⟩; rw [HDN.out]) | (go_at_call 36; refine (num_any _ _).mono ?_; rintro e w' ⟨rfl, rfl⟩))
                        go_roundw
                        case rel => exact ⟨j + 1, hlt, by go_num, HEX.out, HKX.out⟩
                        case measure => simp [intOf]; omega
                      · have t0 : (k == 0) = false := by simpa using k0
                        have t1 : (k == 1) = false := by simpa using k1
                        have t2 : (k == 2) = false := by simpa using k2
                        have t3 : (k == 3) = false := by simpa using k3
                        have t4 : (k == 4) = false := by simpa using k4
                        go_wp2_with (first | (go_at_call 35; refine (left_any _ b g r true HEX.out).mono ?_; rintro e w ⟨rfl, rfl⟩; rw [HLR.out]) | (go_at_call 37; refine (done_any _ b g r true HEX.out).mono ?_; rintro e w ⟨rfl, rfl⟩; rw [HDN.out]) | (go_at_call 36; refine (num_any _ _).mono ?_; rintro e w' ⟨rfl, rfl⟩))
                        go_roundw
                        case rel => exact ⟨j + 1, hlt, by go_num, HEX.out, HKX.out⟩
                        case measure => simp [intOf]; omega
            · go_wp2_with (go_at_call 13; refine (live_any _).mono ?_; rintro e w9 ⟨rfl, hb1⟩; have HB1 := Lib.hid hb1; clear hb1)
              go_ret
              exact ⟨rfl, HB.out.trans (HB1.out.mono HB.out.size)⟩

set_option maxRecDepth 100000 in
theorem flatBlind_lifted (os : Os) (started : os.Started) (H : Type) (enc : TypeId × Value → H) :
    ReturnsInHanded {} Try.checked os 10 .any (Rows.flatBlindSpec.pre6 enc Try.prog Try.f10 Rows.flatBlindRow.domain false) (Rows.flatBlindSpec.post enc Try.prog Try.f10 false true false false) := by
  refine law_lift (C := Try.checked) own0 started (by kernel_rfl) Try.func10 laid0 rfl (by kernel_rfl) (fun _ _ _ _ => trodAll_mk1 (shut_bool Try.underlying4 true)) (fun ds h => match ds, h with | [_, _], _ => ⟨rfl, rfl, rfl⟩)
    (ChangeSpec.witness6 (enc := enc) (C := Try.checked) false ⟨#[], #[.slice none 0 0, .slice none 0 0], []⟩ 8 (by kernel_rfl) (by kernel_rfl) (by kernel_rfl) (by kernel_rfl)) ?_
  intro W base args ds before hval0 hA0 hlt
  have hval : ∀ (j : Nat) t v, Try.f10.params[j]? = some t → args[j]? = some v → Value.okWide Try.prog W .any base t v := hval0
  have hA : DataW.TrodAll enc Try.prog W 0 (fun _ => true) true Try.f10.params.toList args.toList ds before := hA0
  rw [Try.params10] at hA hval
  obtain ⟨v0, v1, d0, d1, p0, p1, rfl, rfl, rfl, h0, h1⟩ := trodAll_two hA
  obtain ⟨g0, l, hb0⟩ := open_bytesv (hval 0 27 v0 rfl rfl) h0
  obtain ⟨a2, ks, c2, g2, rfl, hm1, hw1, hi1, hg1⟩ := open_i64s Try.underlying39 Try.underlying3 cells_int (hval 1 39 v1 rfl rfl) h1
  exact flatBlind_walk g0 _ l a2 c2 g2 ks W hb0 hm1 hi1 hg1

theorem flatBlind_holds : Rows.FlatBlindSaid :=
  OpenClaim.holds_of_wide 10 Try.f10 rfl rfl rfl rfl rfl rfl rfl ⟨rfl, rfl, rfl, rfl, rfl⟩ rfl rfl rfl rfl rfl (by kernel_rfl) Try.func10 (by kernel_rfl)
    (of_decide_eq_true (by kernel_rfl)) (by unfold Func.isWrapper; rw [if_neg (of_decide_eq_false (by kernel_rfl))]; exact ⟨rfl, rfl⟩)
    (fun os started H enc _ => flatBlind_lifted os started H enc)

#print axioms flatBlind_holds

end Go.Proofs.Ytjojjpfjennnoaa
