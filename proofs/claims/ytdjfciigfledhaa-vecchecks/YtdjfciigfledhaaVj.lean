/- Contracts: shift by each way of moving. -/
import Derived.Test.YtdjfciigfledhaaVi
set_option linter.unusedVariables false
set_option linter.unusedSimpArgs false
namespace Go.Proofs.Ytdjfciigfledhaa
open Go.RowKit Go.Maps

/-- What is left of a number that is moved: nothing, where a bit beyond the width says so. -/
theorem far_any (p : List Bool) (k : Nat) : (p.drop k).any id = decide (2 ^ k ≤ numB p) := by
  rw [any_num, numB_drop, Bool.eq_iff_iff]
  simp only [decide_eq_true_eq]
  rw [ne_eq, Nat.div_eq_zero_iff]
  have := Nat.two_pow_pos k
  omega
theorem shl_fin (A Y P k n : Nat) (hP : P = A * 2 ^ (Y % 2 ^ k) % 2 ^ n) (hk : n ≤ 2 ^ k) : (if !decide (2 ^ k ≤ Y) then P else 0) = A * 2 ^ Y % 2 ^ n := by
  by_cases h : 2 ^ k ≤ Y
  · simp only [h, decide_true, Bool.not_true]
    rw [shl_all A Y n (by omega)]; rfl
  · simp only [h, decide_false, Bool.not_false, if_true]
    rw [hP, Nat.mod_eq_of_lt (a := Y) (by omega)]
theorem shr_fin (A Y P k n : Nat) (hA : A < 2 ^ n) (hP : P = A / 2 ^ (Y % 2 ^ k)) (hk : n ≤ 2 ^ k) : (if !decide (2 ^ k ≤ Y) then P else 0) = A / 2 ^ Y := by
  by_cases h : 2 ^ k ≤ Y
  · simp only [h, decide_true, Bool.not_true]
    rw [shr_all A Y n hA (by omega)]; rfl
  · simp only [h, decide_false, Bool.not_false, if_true]
    rw [hP, Nat.mod_eq_of_lt (a := Y) (by omega)]

section
variable (w : World) (B M : Nat) (v : Value) (g : List Gt)

set_option maxHeartbeats 4000000 in
theorem shift_left (ax bx : Option Addr) (ca cb : Nat) (a b : List Int) (n : Nat) (A Y : List Bool → List Bool)
    (hA : Gr w B M v g) (hl : g.length ≤ 900000) (hn : a.length = n) (hm : b.length = n) (h1 : 1 ≤ n) (h16 : n ≤ 16) (hca : n ≤ ca) (hcb : n ≤ cb) (hr : Fr w B M v ax a) (hs : Fr w B M v bx b) (ha : Wt g a A) (hb : Wt g b Y) :
    Calls Try.prog 61 #[.pointer (some ⟨B, 0, none⟩), .func (.func 62) #[] #[], .slice ax n ca, .slice bx n cb] w (NP w B M v g n 300 (fun ins => numB (A ins) * 2 ^ numB (Y ins) % 2 ^ n)) := by
  have AL := hide (alike_yes w B M v g ax bx ca cb a b n A Y hA hn hm h1 h16 hr hs ha hb)
  obtain ⟨p2, o2, rfl⟩ := hs.addr (by omega)
  have HS := hide (St.refl hA)
  have HR := hide hr
  have HT := hide hs
  have HWA := hide ha
  have HWB := hide hb
  have HN := hide hn
  have HNB := hide hm
  have hstart : ∀ ins, numB (A ins) = numB (A ins) * 2 ^ (numB (Y ins) % 2 ^ 0) % 2 ^ n := fun ins => by
    have hlt := numB_lt (A ins)
    rw [ha.len ins, hn] at hlt
    simp [Nat.mod_one, Nat.mod_eq_of_lt hlt]
  have HSTART := hide hstart
  clear hA hr hs ha hb hn hm hstart
  go_enter Try.func61, Try.ntmps61
  go_wp2_with (first
    | (go_at_call 49; refine (unhide AL).mono ?_; rintro e w0 ⟨rfl, hw0⟩; subst w0))
  go_loopw [9, 10] (fun mv i W => ∃ k : Nat, k + 1 ≤ n ∧ k ≤ 4 ∧ i = .int .i64 (k : Int) ∧ ∃ v' g' al c l P, mv = .slice al n c ∧ n ≤ c ∧ Hid (St w W B M v v' g g' (48 * k)) ∧ Hid (Fr W B M v' al l) ∧ Hid (l.length = n) ∧ Hid (Wt g' l P) ∧ Hid (∀ ins, numB (P ins) = numB (A ins) * 2 ^ (numB (Y ins) % 2 ^ k) % 2 ^ n)) (fun _ i _ => 5 - (intOf i).toNat)
  case atStart => exact ⟨0, h1, by omega, rfl, v, g, ax, ca, a, A, rfl, hca, HS, HR, HN, HWA, HSTART.out⟩
  case round =>
    clear HS HSTART
    obtain ⟨k, hk, hk4, rfl, v', g', al, c, l, P, rfl, hc, HK, HF, HL, HW, HP⟩ := hrel
    obtain ⟨T, hT⟩ : ∃ T : Nat, 2 ^ k = T := ⟨_, rfl⟩
    have hTI : (2 : Int) ^ k = (T : Int) := by rw [← hT]; norm_cast
    have hT16 : T ≤ 16 := by rw [← hT]; exact Nat.le_trans (Nat.pow_le_pow_right (by omega) hk4) (by decide)
    have hkT : k + 1 ≤ T := by rw [← hT]; exact Nat.lt_two_pow_self
    have HTT := hide hT
    clear hT
    have hsh : IntKind.i64.wrap (1 * 2 ^ k) = (T : Int) := by rw [Int.one_mul, hTI, IntKind.wrap_i64]; omega
    have hwT : IntKind.i64.wrap (T : Int) = (T : Int) := by rw [IntKind.wrap_i64]; omega
    by_cases hlt : T < n
    · have hk3 : k ≤ 3 := by
        by_cases e4 : k = 4
        · subst e4
          have := HTT.out
          omega
        · omega
      have hltI : (T : Int) < n := by omega
      have hka : k < b.length := by rw [HNB.out]; omega
      have hfb := HK.out.fr HT.out
      obtain ⟨_, _, eb, hp2, hcp⟩ := hfb.row k hka
      cases eb
      have hx := (HWB.out.grow HK.out.grow).at hka
      have HX := hide hx
      have hkn : (k : Int) < n := by omega
      have FB := hide (hfb.far p2 o2 rfl).2
      clear hx hfb
      generalize b[k] = y at *
      clear hka
      have M1 := hide (left_any (wr.drewN 1) B M v' g' al c l n T P (HK.out.gr.drewN 1) HL.out h16 hlt (((St.refl HK.out.gr).below (below_drewN (Below.refl _ _) 1)).fr HF.out) HW.out)
      have M2 : Hid (∀ W v2 g2 q2 l2 f, St (wr.drewN 1) W B M v' v2 g' g2 0 → WR (wr.drewN 1) W B M v2 g2 n q2 l2 f → Calls Try.prog 68 #[.pointer (some ⟨B, 0, none⟩), .int .i64 y, .slice (some ⟨q2, 0, none⟩) n n, .slice al n c] W (WP W B M v2 g2 n (3 * n) (fun ins => if (Y ins).getD k false then f ins else P ins))) := fun W v2 g2 q2 l2 f s b =>
        choice_any W B M v2 g2 (some ⟨q2, 0, none⟩) al n c y l2 l n _ f P s.gr (by have := s.len; have := HK.out.len; omega) b.len HL.out h16 b.fr ((((St.refl HK.out.gr).below (below_drewN (Below.refl _ _) 1)).trans s).fr HF.out) (HX.out.grow s.grow) b.wt (HW.out.grow s.grow)
      go_wp2
      go_region_held3 (fun z => z.cell? ⟨p2, o2 + k, none⟩ = some (.int .i64 y)) (go_keep)
        (first
          | (go_at_call 62; refine (unhide M1).mono ?_; rintro e w2 ⟨q2, l2, v2, g2, rfl, s2, b2⟩; have t0 := s2.cell hp2 FB.out hcp)
          | (go_at_call 68; refine (unhide M2 _ _ _ _ _ _ s2 b2).mono ?_; rintro e w3 ⟨q3, l3, v3, g3, rfl, s3, b3⟩; have t1 := (s2.trans s3).cell hp2 FB.out hcp))
      all_goals
        have S3 := hide ((((HK.out.below (below_drewN (Below.refl _ _) 1)).trans s2).trans s3).mono (j := 48 * (k + 1)) (by omega))
        have F3 := hide b3.fr
        have L3 := hide b3.len
        have W3 := hide b3.wt
        have hP3 : ∀ ins, numB (if (Y ins).getD k false then List.replicate T false ++ (P ins).take (n - T) else P ins) = numB (A ins) * 2 ^ (numB (Y ins) % 2 ^ (k + 1)) % 2 ^ n := fun ins => by
          have hpl : (P ins).length = n := by rw [HW.out.len ins, HL.out]
          have hs := shl_step (numB (A ins)) (numB (Y ins)) k n _ _ (HP.out ins) (numB_bit _ _)
          rw [← hs, HTT.out]
          cases (Y ins).getD k false
          · rfl
          · have := left_num (P ins) T (by omega)
            rw [hpl] at this
            exact this
        have HP3 := hide hP3
        clear s2 b2 s3 b3 t0 t1 hP3 M1 M2
        go_wp2
        go_roundw
        case rel => exact ⟨k + 1, by omega, by omega, by go_num, v3, g3, _, n, _, _, rfl, Nat.le_refl _, S3, F3, L3, W3, HP3.out⟩
        case measure => simp [intOf]; omega
    · have hltI : ¬ (T : Int) < n := by omega
      obtain ⟨m, hm⟩ : ∃ m : Nat, n - k = m := ⟨_, rfl⟩
      have hkc : ¬ cb = k := by omega
      have hkn : (k : Int) ≤ n := by omega
      have hkcI : (k : Int) ≤ cb := by omega
      have hncI : (n : Int) ≤ cb := by omega
      have S1 := hide (some_any wr B M v' g' (some ⟨p2, o2 + k, none⟩) (cb - k) (b.drop k) m _ HK.out.gr (by have := HK.out.len; omega) (by rw [List.length_drop, HNB.out]; exact hm) (by omega) ((HK.out.fr HT.out).drop k) ((HWB.out.grow HK.out.grow).drop k))
      have HKK := hide hk
      go_upto_region 8 with (first
        | (go_at_call 72; refine (unhide S1).mono ?_; rintro e w2 ⟨x2, v2, g2, rfl, s2, b2⟩))
      have hxo := xor_one (b2.i64 s2.gr.le).1
      have M1 := hide (masked_any w2 B M v2 g2 (notI x2) _ al c l n P s2.gr (by have := HK.out.len; have := s2.len; omega) HL.out h16 (s2.fr HF.out) (HW.out.grow s2.grow) b2.not)
      have SS := hide (HK.out.trans s2)
      clear s2 b2 S1
      generalize notI x2 = nx at *
      go_wp2_with (first
        | (go_at_call 53; refine (unhide M1).mono ?_; rintro e w3 ⟨q3, l3, v3, g3, rfl, s3, b3⟩)
        | (go_at_call 50; refine (word_any w3 B M v3 g3 (some ⟨q3, 0, none⟩) n l3 n s3.gr b3.len b3.rw.row (b3.wt.ok (by rw [b3.len]; omega) (by rw [b3.len]; omega))).mono ?_; rintro e w4 ⟨rfl, hw4⟩; subst w4))
      go_ret
      refine ⟨_, ⟨q3, l3, v3, g3, rfl, (SS.out.trans s3).mono (by omega), b3.after SS.out.kp.size⟩, fun ins => ?_⟩
      have hal : (A ins).length = n := by rw [HWA.out.len ins, HN.out]
      have hlA := numB_lt (A ins)
      rw [hal] at hlA
      rw [numB_mask, far_any]
      exact shl_fin _ _ _ k n (HP.out ins) (by rw [HTT.out]; omega)

set_option maxHeartbeats 4000000 in
theorem shift_right (ax bx : Option Addr) (ca cb : Nat) (a b : List Int) (n : Nat) (A Y : List Bool → List Bool)
    (hA : Gr w B M v g) (hl : g.length ≤ 900000) (hn : a.length = n) (hm : b.length = n) (h1 : 1 ≤ n) (h16 : n ≤ 16) (hca : n ≤ ca) (hcb : n ≤ cb) (hr : Fr w B M v ax a) (hs : Fr w B M v bx b) (ha : Wt g a A) (hb : Wt g b Y) :
    Calls Try.prog 61 #[.pointer (some ⟨B, 0, none⟩), .func (.func 63) #[] #[], .slice ax n ca, .slice bx n cb] w (NP w B M v g n 300 (fun ins => numB (A ins) / 2 ^ numB (Y ins))) := by
  have AL := hide (alike_yes w B M v g ax bx ca cb a b n A Y hA hn hm h1 h16 hr hs ha hb)
  obtain ⟨p2, o2, rfl⟩ := hs.addr (by omega)
  have HS := hide (St.refl hA)
  have HR := hide hr
  have HT := hide hs
  have HWA := hide ha
  have HWB := hide hb
  have HN := hide hn
  have HNB := hide hm
  have hstart : ∀ ins, numB (A ins) = numB (A ins) / 2 ^ (numB (Y ins) % 2 ^ 0) := fun ins => by
    have hlt := numB_lt (A ins)
    rw [ha.len ins, hn] at hlt
    simp [Nat.mod_one, Nat.mod_eq_of_lt hlt]
  have HSTART := hide hstart
  clear hA hr hs ha hb hn hm hstart
  go_enter Try.func61, Try.ntmps61
  go_wp2_with (first
    | (go_at_call 49; refine (unhide AL).mono ?_; rintro e w0 ⟨rfl, hw0⟩; subst w0))
  go_loopw [9, 10] (fun mv i W => ∃ k : Nat, k + 1 ≤ n ∧ k ≤ 4 ∧ i = .int .i64 (k : Int) ∧ ∃ v' g' al c l P, mv = .slice al n c ∧ n ≤ c ∧ Hid (St w W B M v v' g g' (48 * k)) ∧ Hid (Fr W B M v' al l) ∧ Hid (l.length = n) ∧ Hid (Wt g' l P) ∧ Hid (∀ ins, numB (P ins) = numB (A ins) / 2 ^ (numB (Y ins) % 2 ^ k))) (fun _ i _ => 5 - (intOf i).toNat)
  case atStart => exact ⟨0, h1, by omega, rfl, v, g, ax, ca, a, A, rfl, hca, HS, HR, HN, HWA, HSTART.out⟩
  case round =>
    clear HS HSTART
    obtain ⟨k, hk, hk4, rfl, v', g', al, c, l, P, rfl, hc, HK, HF, HL, HW, HP⟩ := hrel
    obtain ⟨T, hT⟩ : ∃ T : Nat, 2 ^ k = T := ⟨_, rfl⟩
    have hTI : (2 : Int) ^ k = (T : Int) := by rw [← hT]; norm_cast
    have hT16 : T ≤ 16 := by rw [← hT]; exact Nat.le_trans (Nat.pow_le_pow_right (by omega) hk4) (by decide)
    have hkT : k + 1 ≤ T := by rw [← hT]; exact Nat.lt_two_pow_self
    have HTT := hide hT
    clear hT
    have hsh : IntKind.i64.wrap (1 * 2 ^ k) = (T : Int) := by rw [Int.one_mul, hTI, IntKind.wrap_i64]; omega
    have hwT : IntKind.i64.wrap (T : Int) = (T : Int) := by rw [IntKind.wrap_i64]; omega
    by_cases hlt : T < n
    · have hk3 : k ≤ 3 := by
        by_cases e4 : k = 4
        · subst e4
          have := HTT.out
          omega
        · omega
      have hltI : (T : Int) < n := by omega
      have hka : k < b.length := by rw [HNB.out]; omega
      have hfb := HK.out.fr HT.out
      obtain ⟨_, _, eb, hp2, hcp⟩ := hfb.row k hka
      cases eb
      have hx := (HWB.out.grow HK.out.grow).at hka
      have HX := hide hx
      have hkn : (k : Int) < n := by omega
      have FB := hide (hfb.far p2 o2 rfl).2
      clear hx hfb
      generalize b[k] = y at *
      clear hka
      have M1 := hide (right_any (wr.drewN 1) B M v' g' al c l n T P (HK.out.gr.drewN 1) HL.out h16 hlt hc (((St.refl HK.out.gr).below (below_drewN (Below.refl _ _) 1)).fr HF.out) HW.out)
      have M2 : Hid (∀ W v2 g2 q2 l2 f, St (wr.drewN 1) W B M v' v2 g' g2 0 → WR (wr.drewN 1) W B M v2 g2 n q2 l2 f → Calls Try.prog 68 #[.pointer (some ⟨B, 0, none⟩), .int .i64 y, .slice (some ⟨q2, 0, none⟩) n n, .slice al n c] W (WP W B M v2 g2 n (3 * n) (fun ins => if (Y ins).getD k false then f ins else P ins))) := fun W v2 g2 q2 l2 f s b =>
        choice_any W B M v2 g2 (some ⟨q2, 0, none⟩) al n c y l2 l n _ f P s.gr (by have := s.len; have := HK.out.len; omega) b.len HL.out h16 b.fr ((((St.refl HK.out.gr).below (below_drewN (Below.refl _ _) 1)).trans s).fr HF.out) (HX.out.grow s.grow) b.wt (HW.out.grow s.grow)
      go_wp2
      go_region_held3 (fun z => z.cell? ⟨p2, o2 + k, none⟩ = some (.int .i64 y)) (go_keep)
        (first
          | (go_at_call 63; refine (unhide M1).mono ?_; rintro e w2 ⟨q2, l2, v2, g2, rfl, s2, b2⟩; have t0 := s2.cell hp2 FB.out hcp)
          | (go_at_call 68; refine (unhide M2 _ _ _ _ _ _ s2 b2).mono ?_; rintro e w3 ⟨q3, l3, v3, g3, rfl, s3, b3⟩; have t1 := (s2.trans s3).cell hp2 FB.out hcp))
      all_goals
        have S3 := hide ((((HK.out.below (below_drewN (Below.refl _ _) 1)).trans s2).trans s3).mono (j := 48 * (k + 1)) (by omega))
        have F3 := hide b3.fr
        have L3 := hide b3.len
        have W3 := hide b3.wt
        have hP3 : ∀ ins, numB (if (Y ins).getD k false then (P ins).drop T ++ List.replicate T false else P ins) = numB (A ins) / 2 ^ (numB (Y ins) % 2 ^ (k + 1)) := fun ins => by
          have hpl : (P ins).length = n := by rw [HW.out.len ins, HL.out]
          have hs := shr_step (numB (A ins)) (numB (Y ins)) k _ _ (HP.out ins) (numB_bit _ _)
          rw [← hs, HTT.out]
          cases (Y ins).getD k false
          · rfl
          · exact right_num (P ins) T
        have HP3 := hide hP3
        clear s2 b2 s3 b3 t0 t1 hP3 M1 M2
        go_wp2
        go_roundw
        case rel => exact ⟨k + 1, by omega, by omega, by go_num, v3, g3, _, n, _, _, rfl, Nat.le_refl _, S3, F3, L3, W3, HP3.out⟩
        case measure => simp [intOf]; omega
    · have hltI : ¬ (T : Int) < n := by omega
      obtain ⟨m, hm⟩ : ∃ m : Nat, n - k = m := ⟨_, rfl⟩
      have hkc : ¬ cb = k := by omega
      have hkn : (k : Int) ≤ n := by omega
      have hkcI : (k : Int) ≤ cb := by omega
      have hncI : (n : Int) ≤ cb := by omega
      have S1 := hide (some_any wr B M v' g' (some ⟨p2, o2 + k, none⟩) (cb - k) (b.drop k) m _ HK.out.gr (by have := HK.out.len; omega) (by rw [List.length_drop, HNB.out]; exact hm) (by omega) ((HK.out.fr HT.out).drop k) ((HWB.out.grow HK.out.grow).drop k))
      have HKK := hide hk
      go_upto_region 8 with (first
        | (go_at_call 72; refine (unhide S1).mono ?_; rintro e w2 ⟨x2, v2, g2, rfl, s2, b2⟩))
      have hxo := xor_one (b2.i64 s2.gr.le).1
      have M1 := hide (masked_any w2 B M v2 g2 (notI x2) _ al c l n P s2.gr (by have := HK.out.len; have := s2.len; omega) HL.out h16 (s2.fr HF.out) (HW.out.grow s2.grow) b2.not)
      have SS := hide (HK.out.trans s2)
      clear s2 b2 S1
      generalize notI x2 = nx at *
      go_wp2_with (first
        | (go_at_call 53; refine (unhide M1).mono ?_; rintro e w3 ⟨q3, l3, v3, g3, rfl, s3, b3⟩)
        | (go_at_call 50; refine (word_any w3 B M v3 g3 (some ⟨q3, 0, none⟩) n l3 n s3.gr b3.len b3.rw.row (b3.wt.ok (by rw [b3.len]; omega) (by rw [b3.len]; omega))).mono ?_; rintro e w4 ⟨rfl, hw4⟩; subst w4))
      go_ret
      refine ⟨_, ⟨q3, l3, v3, g3, rfl, (SS.out.trans s3).mono (by omega), b3.after SS.out.kp.size⟩, fun ins => ?_⟩
      have hal : (A ins).length = n := by rw [HWA.out.len ins, HN.out]
      have hlA := numB_lt (A ins)
      rw [hal] at hlA
      rw [numB_mask, far_any]
      exact shr_fin _ _ _ k n hlA (HP.out ins) (by rw [HTT.out]; omega)
end
end Go.Proofs.Ytdjfciigfledhaa
