/- The law of words that may be. -/
import Derived.Test.YtdjfciigfledhaaXg
import Derived.Deep.DeepCutAuto
import Derived.Deep.CutBlock
set_option linter.unusedVariables false
set_option linter.unusedSimpArgs false
namespace Go.Proofs.Ytdjfciigfledhaa
open Go.RowKit Go.Maps

section
variable (w : World)
set_option maxHeartbeats 2000000 in
set_option maxRecDepth 100000 in
/-- What is beyond the law's bounds. -/
theorem checks_out (ag ax bx : Option Addr) (cg ca cb : Nat) (g : List Gt) (a b : List Int) (hg : GS w ag g) (hgl : g.length ≤ maxLen) (hal : a.length ≤ maxLen) (hbl : b.length ≤ maxLen)
    (h : 12 < g.length ∨ 40 < a.length ∨ 40 < b.length ∨ ¬ May g) :
    Calls Try.prog 7 #[.slice ag g.length cg, .slice ax a.length ca, .slice bx b.length cb] w fun e w' => e = .returned (.bool true) ∧ Below w.heap.size w w' := by
  have AW : Hid (∀ W, Calls Try.prog 16 #[] W fun e w' => e = .returned (.bool true) ∧ Below W.heap.size W w') := fun W => awake_any W
  unfold maxLen at hgl hal hbl
  by_cases h1 : (12 : Int) < (g.length : Int)
  · generalize a.length = n at *
    generalize b.length = m at *
    clear hg h
    generalize g.length = gl at *
    go_enter Try.func7, Try.ntmps7
    go_wp2_with (first | (go_at_call 16; refine (unhide AW _).mono ?_; rintro e w1 ⟨rfl, hb1⟩))
    go_ret
    exact ⟨rfl, hb1⟩
  by_cases h2 : (40 : Int) < (a.length : Int)
  · generalize a.length = n at *
    generalize b.length = m at *
    clear hg h
    generalize g.length = gl at *
    go_enter Try.func7, Try.ntmps7
    go_wp2_with (first | (go_at_call 16; refine (unhide AW _).mono ?_; rintro e w1 ⟨rfl, hb1⟩))
    go_ret
    exact ⟨rfl, hb1⟩
  by_cases h3 : (40 : Int) < (b.length : Int)
  · generalize a.length = n at *
    generalize b.length = m at *
    clear hg h
    generalize g.length = gl at *
    go_enter Try.func7, Try.ntmps7
    go_wp2_with (first | (go_at_call 16; refine (unhide AW _).mono ?_; rintro e w1 ⟨rfl, hb1⟩))
    go_ret
    exact ⟨rfl, hb1⟩
  have hm : ¬ May g := by
    rcases h with h | h | h | h
    · omega
    · omega
    · omega
    · exact h
  have MR := refMay_any w ag cg g hg (by omega)
  replace MR : Hid (Calls Try.prog 38 #[.slice ag g.length cg] w fun e w' => e = .returned (.bool false) ∧ ∃ n, w' = w.drewN n) := MR.mono fun e w' ⟨r, he, hr, hn⟩ => by
    cases r with
    | true => exact absurd (hr.1 rfl) hm
    | false => exact ⟨he, hn⟩
  clear hg h hm
  generalize a.length = n at *
  generalize b.length = m at *
  generalize g.length = gl at *
  go_enter Try.func7, Try.ntmps7
  go_wp2_with (first
    | (go_at_call 38; refine (unhide MR).mono ?_; rintro e w0 ⟨rfl, j, hw0⟩; subst w0)
    | (go_at_call 16; refine (unhide AW _).mono ?_; rintro e w1 ⟨rfl, hb1⟩))
  go_ret
  exact ⟨rfl, (below_drewN (Below.refl _ _) j).trans hb1⟩

theorem alk_eq (g : List Gt) (a b : List Int) : alkB g a b = (decide (1 ≤ a.length) && decide (a.length ≤ 16) && decide (a.length = b.length) && a.all (isB g) && b.all (isB g)) := by
  rw [Bool.eq_iff_iff]
  simp only [alkB, wdB, Bool.and_eq_true, decide_eq_true_eq]
  constructor
  · rintro ⟨⟨h1, h2⟩, h3⟩
    exact ⟨⟨⟨⟨h2.1.1, h2.1.2⟩, h1⟩, h2.2⟩, h3.2⟩
  · rintro ⟨⟨⟨⟨h1, h2⟩, h3⟩, h4⟩, h5⟩
    exact ⟨⟨h3, ⟨h1, h2⟩, h4⟩, ⟨by omega, by omega⟩, h5⟩
theorem all_take {g : List Gt} {a : List Int} {k : Nat} (h : k < a.length) : (a.take (k + 1)).all (isB g) = ((a.take k).all (isB g) && isB g a[k]) := by
  rw [List.take_succ_eq_append_getElem h, List.all_append, List.all_cons, List.all_nil, Bool.and_true]

set_option maxHeartbeats 4000000 in
set_option maxRecDepth 100000 in
theorem checks_in (ag ax bx : Option Addr) (cg ca cb : Nat) (g : List Gt) (a b : List Int) (hg : GS w ag g) (hf : ag = none → g = [] ∧ cg = 0) (hra : Row w ax a) (hrb : Row w bx b) (hca : a.length ≤ ca) (hcb : b.length ≤ cb)
    (hgl : g.length ≤ 12) (hal : a.length ≤ 40) (hbl : b.length ≤ 40) (hmay : May g) :
    Calls Try.prog 7 #[.slice ag g.length cg, .slice ax a.length ca, .slice bx b.length cb] w fun e w' => e = .returned (.bool true) ∧ Below w.heap.size w w' := by
  have MR := refMay_any w ag cg g hg (by omega)
  replace MR : Hid (Calls Try.prog 38 #[.slice ag g.length cg] w fun e w' => e = .returned (.bool true) ∧ ∃ n, w' = w.drewN n) := MR.mono fun e w' ⟨r, he, hr, hn⟩ => by
    rw [hr.2 hmay] at he
    exact ⟨he, hn⟩
  have LD : Hid (∀ j, Calls Try.prog 39 #[.slice ag g.length cg] (w.drewN j) fun e w' => ∃ B M v, e = .returned (.tuple #[.pointer (some ⟨B, 0, none⟩), .int .i64 0]) ∧ Gr w' B M v g ∧ Below w.heap.size w w' ∧ ∀ b, Sv B M v b → w.heap.size ≤ b) := fun j => by
    refine (load_yes (w.drewN j) ag cg g (hg.below (below_drewN (Below.refl _ _) j)) hf (by omega) hmay).mono fun e w' ⟨B, M, v, he, h1, h2, h3⟩ => ?_
    exact ⟨B, M, v, he, h1, (below_drewN (Below.refl _ _) j).trans h2, h3⟩
  have HRA := hide hra
  have HRB := hide hrb
  have IS : Hid (∀ (W : World) l, Calls Try.prog 40 #[.slice ag g.length cg, .int .i64 l] W fun e w' => e = .returned (.bool (isB g l)) ∧ w' = W) := fun W l => refIs_any W ag cg g l (by omega)
  clear hg hf hra hrb hmay
  have hg12 : ¬ (12 : Int) < (g.length : Int) := by omega
  have ha40 : ¬ (40 : Int) < (a.length : Int) := by omega
  have hb40 : ¬ (40 : Int) < (b.length : Int) := by omega
  obtain ⟨n, hn⟩ : ∃ n, a.length = n := ⟨_, rfl⟩
  obtain ⟨m, hm⟩ : ∃ m, b.length = m := ⟨_, rfl⟩
  obtain ⟨gl, hgl2⟩ : ∃ x, g.length = x := ⟨_, rfl⟩
  rw [hn] at ha40 hal hca ⊢
  rw [hm] at hb40 hbl hcb ⊢
  rw [hgl2] at hg12 hgl MR LD IS ⊢
  have HN := hide hn
  have HM := hide hm
  have HGL := hide hgl2
  clear hn hm hgl2
  go_enter Try.func7, Try.ntmps7
  go_upto_region 6 with (first
    | (go_at_call 38; refine (unhide MR).mono ?_; rintro e w0 ⟨rfl, j, hw0⟩; subst w0)
    | (go_at_call 39; refine (unhide LD _).mono ?_; rintro e w1 ⟨B, M, v, rfl, hG, hb1, hlo⟩))
  have hbz := hb1.size
  have HRA1 := hide (HRA.out.below hb1)
  have HRB1 := hide (HRB.out.below hb1)
  have HG := hide hG
  have HLO := hide hlo
  have HB1 := hide hb1
  have FAR : Hid (∀ (al : Option Addr) (l : List Int), Row w al l → 0 < l.length → Fr w1 B M v al l) := fun al l h h0 => by
    obtain ⟨p, off, rfl, hp, _⟩ := h 0 h0
    exact ⟨h.below HB1.out, fun b' off' e => by cases e; exact ⟨by omega, fun hS => by have := HLO.out _ hS; omega⟩⟩
  have VC0 := vcheck_any w1 B M v g ax ca a n hG HN.out HRA1.out (by unfold maxLen; omega)
  obtain ⟨wA, hwA⟩ : ∃ r, wdB g a = r := ⟨_, rfl⟩
  rw [hwA] at VC0
  have VC := hide VC0
  have HWA := hide hwA
  clear hG hlo hb1 MR LD VC0 hwA
  go_wp2
  go_loopw [9, 10] (fun y i W => ∃ k : Nat, k ≤ n ∧ i = .int .i64 (k : Int) ∧ ∃ c, y = .bool c ∧ Hid (c = (a.take k).all (isB g)) ∧ W = w1) (fun _ i _ => n - (intOf i).toNat)
  case atStart => exact ⟨0, by omega, rfl, true, rfl, rfl, rfl⟩
  case round =>
    obtain ⟨k, hk, rfl, c, rfl, HC, rfl⟩ := hrel
    by_cases hlt : k < n
    · have hkn : (k : Int) < n := by omega
      have hka : k < a.length := by rw [HN.out]; exact hlt
      obtain ⟨p, off, rfl, hp, hc⟩ := HRA1.out k hka
      have HT := hide (all_take (g := g) hka)
      generalize a[k] = x at *
      clear hka
      cases c
      · have HF : Hid (false = (a.take (k + 1)).all (isB g)) := by unfold Hid; rw [HT.out, ← HC.out]; rfl
        go_wp2
        go_roundw
        case rel => exact ⟨k + 1, by omega, by go_num, false, rfl, HF, by first | rfl | trivial⟩
        case measure => simp [intOf]; omega
      · have HF : Hid (isB g x = (a.take (k + 1)).all (isB g)) := by unfold Hid; rw [HT.out, ← HC.out]; rfl
        go_wp2_with (first | (go_at_call 40; refine (unhide IS _ _).mono ?_; rintro e w2 ⟨rfl, hw2⟩))
        go_roundw
        case rel => exact ⟨k + 1, by omega, by go_num, isB g x, rfl, HF, by first | rfl | trivial | exact hw2⟩
        case measure => simp [intOf]; omega
    · have hke : k = n := by omega
      subst hke
      rename_i NOTK
      obtain ⟨b0, hb0⟩ : ∃ b0, (decide (1 ≤ k) && decide (k ≤ 16) && decide (k = m) && c) = b0 := ⟨_, rfl⟩
      have HB0 := hide hb0
      clear hb0
      go_upto_region 11 with fail
      go_cut [11] from 60 to 77 (fun s W => s = .bool b0 ∧ W = wr)
      case first =>
        by_cases p1 : (1 : Int) ≤ (k : Int)
        · by_cases p2 : (k : Int) ≤ 16
          · by_cases p3 : k = m
            · have hde : ((k : Int) == (m : Int)) = true := by simp; omega
              have q1 : 1 ≤ k := by omega
              have q2 : k ≤ 16 := by omega
              cases c
              · obtain rfl : b0 = false := by rw [← HB0.out]; simp
                clear HB0 p3
                go_wp2
                go_meet
                case rel => exact ⟨rfl, rfl⟩
              · obtain rfl : b0 = true := by rw [← HB0.out]; simp [q1, q2, p3]; omega
                clear HB0 p3
                go_wp2
                go_meet
                case rel => exact ⟨rfl, rfl⟩
            · have hde : ((k : Int) == (m : Int)) = false := by simp; omega
              obtain rfl : b0 = false := by rw [← HB0.out]; simp [p3]
              clear HB0 p3
              go_wp2
              go_meet
              case rel => exact ⟨rfl, rfl⟩
          · obtain rfl : b0 = false := by rw [← HB0.out, decide_eq_false (by omega : ¬ k ≤ 16)]; simp
            clear HB0
            go_wp2
            go_meet
            case rel => exact ⟨rfl, rfl⟩
        · obtain rfl : b0 = false := by rw [← HB0.out, decide_eq_false (by omega : ¬ 1 ≤ k)]; simp
          clear HB0
          go_wp2
          go_meet
          case rel => exact ⟨rfl, rfl⟩
      case rest =>
      obtain ⟨rfl, hwc⟩ := hcut
      subst hwc
      go_wp2
      go_loopw [11, 12] (fun y i W => ∃ j : Nat, j ≤ m ∧ i = .int .i64 (j : Int) ∧ ∃ e, y = .bool e ∧ Hid (e = (b0 && (b.take j).all (isB g))) ∧ W = wc) (fun _ i _ => m - (intOf i).toNat)
      case atStart => exact ⟨0, by omega, rfl, b0, rfl, by unfold Hid; simp, by first | rfl | trivial⟩
      case round =>
        obtain ⟨j, hj, rfl, e, rfl, HE, rfl⟩ := hrel
        by_cases hlt2 : j < m
        · have hjm : (j : Int) < m := by omega
          have hkb : j < b.length := by rw [HM.out]; exact hlt2
          obtain ⟨p, off, rfl, hp, hc⟩ := HRB1.out j hkb
          have HT := hide (all_take (g := g) hkb)
          generalize b[j] = x at *
          clear hkb
          cases e
          · have HF : Hid (false = (b0 && (b.take (j + 1)).all (isB g))) := by unfold Hid; rw [HT.out, ← Bool.and_assoc, ← HE.out]; rfl
            go_wp2
            go_roundw
            case rel => exact ⟨j + 1, by omega, by go_num, false, rfl, HF, by first | rfl | trivial⟩
            case measure => simp [intOf]; omega
          · have HF : Hid (isB g x = (b0 && (b.take (j + 1)).all (isB g))) := by unfold Hid; rw [HT.out, ← Bool.and_assoc, ← HE.out]; rfl
            go_wp2_with (first | (go_at_call 40; refine (unhide IS _ _).mono ?_; rintro e w2 ⟨rfl, hw2⟩))
            go_roundw
            case rel => exact ⟨j + 1, by omega, by go_num, isB g x, rfl, HF, by first | rfl | trivial | exact hw2⟩
            case measure => simp [intOf]; omega
        · have hje : j = m := by omega
          subst hje
          have hca2 : c = a.all (isB g) := by
            have h := HC.out
            rwa [List.take_of_length_le (by rw [HN.out]; exact Nat.le_refl _)] at h
          have he2 : e = (b0 && b.all (isB g)) := by
            have h := HE.out
            rwa [List.take_of_length_le (by rw [HM.out]; exact Nat.le_refl _)] at h
          have HAL : Hid (alkB g a b = e) := by
            unfold Hid
            rw [alk_eq, HN.out, HM.out, ← hca2, he2, ← HB0.out]
          have HWB : Hid ((decide (1 ≤ k) && decide (k ≤ 16) && c) = wA) := by
            unfold Hid
            rw [← HWA.out, hca2]
            unfold wdB
            rw [HN.out]
          clear hca2 he2 HC HE HB0 HWA IS
          go_upto_region 16 with fail
          go_cut [108] from 93 to 108 (fun s W => s = .bool false ∧ W = wr)
          case first =>
            by_cases p1 : (1 : Int) ≤ (k : Int)
            · by_cases p2 : (k : Int) ≤ 16
              · have q1 : 1 ≤ k := by omega
                have q2 : k ≤ 16 := by omega
                cases c
                · obtain rfl : wA = false := by rw [← HWB.out]; simp
                  replace VC : Hid (Calls Try.prog 41 #[.pointer (some ⟨B, 0, none⟩), .slice ax k ca] wr fun e w' => e = .returned (.int .i64 1) ∧ w' = wr) := VC
                  clear HWB
                  go_wp2_with (first | (go_at_call 41; refine (unhide VC).mono ?_; rintro e' w2 ⟨rfl, hw2⟩; subst w2))
                  go_meet
                  case rel => exact ⟨rfl, rfl⟩
                · obtain rfl : wA = true := by rw [← HWB.out]; simp [q1, q2]
                  replace VC : Hid (Calls Try.prog 41 #[.pointer (some ⟨B, 0, none⟩), .slice ax k ca] wr fun e w' => e = .returned (.int .i64 0) ∧ w' = wr) := VC
                  clear HWB
                  go_wp2_with (first | (go_at_call 41; refine (unhide VC).mono ?_; rintro e' w2 ⟨rfl, hw2⟩; subst w2))
                  go_meet
                  case rel => exact ⟨rfl, rfl⟩
              · obtain rfl : wA = false := by rw [← HWB.out, decide_eq_false (by omega : ¬ k ≤ 16)]; simp
                replace VC : Hid (Calls Try.prog 41 #[.pointer (some ⟨B, 0, none⟩), .slice ax k ca] wr fun e w' => e = .returned (.int .i64 1) ∧ w' = wr) := VC
                clear HWB
                go_wp2_with (first | (go_at_call 41; refine (unhide VC).mono ?_; rintro e' w2 ⟨rfl, hw2⟩; subst w2))
                go_meet
                case rel => exact ⟨rfl, rfl⟩
            · obtain rfl : wA = false := by rw [← HWB.out, decide_eq_false (by omega : ¬ 1 ≤ k)]; simp
              replace VC : Hid (Calls Try.prog 41 #[.pointer (some ⟨B, 0, none⟩), .slice ax k ca] wr fun e w' => e = .returned (.int .i64 1) ∧ w' = wr) := VC
              clear HWB
              go_wp2_with (first | (go_at_call 41; refine (unhide VC).mono ?_; rintro e' w2 ⟨rfl, hw2⟩; subst w2))
              go_meet
              case rel => exact ⟨rfl, rfl⟩
          case rest =>
          obtain ⟨rfl, hwc⟩ := hcut
          clear VC HWB
          subst hwc
          cases e
          · have K := HAL.out
            have hla : a.length ≤ 40 := by rw [HN.out]; exact hal
            have hlb : b.length ≤ 40 := by rw [HM.out]; exact hbl
            have D0 := div_no wc B M v g ax bx ca cb a b HG.out HRA1.out HRB1.out hla hlb K
            have A0 := add_no wc B M v g ax bx ca cb a b HG.out HRA1.out HRB1.out hla hlb K
            have S0 := sub_no wc B M v g ax bx ca cb a b HG.out HRA1.out HRB1.out hla hlb K
            have W0 := andw_no wc B M v g ax bx ca cb a b HG.out HRA1.out HRB1.out hla hlb K
            have L0 := shl_no wc B M v g ax bx ca cb a b HG.out HRA1.out HRB1.out hla hlb K
            have I0 := ite_no wc B M v g ax bx ca cb a b HG.out HRA1.out HRB1.out hla hlb K
            have J0 := ite_bad wc B M v g ax bx ca cb a b HG.out HRA1.out HRB1.out hla hlb
            have E0 := eq_no wc B M v g ax bx ca cb a b HG.out HRA1.out HRB1.out hla hlb K
            have F0 := less_no wc B M v g ax bx ca cb a b HG.out HRA1.out HRB1.out hla hlb K
            rw [HN.out, HM.out] at D0 A0 S0 W0 L0 I0 J0 E0 F0
            have D1 := hide D0
            have A1 := hide A0
            have S1 := hide S0
            have W1 := hide W0
            have L1 := hide L0
            have E1 := hide E0
            have F1 := hide F0
            have I1 : Hid (∀ z : Int, z = 1 ∨ z = -1 → Calls Try.prog 31 #[.pointer (some ⟨B, 0, none⟩), .int .i64 z, .slice ax k ca, .slice bx j cb] wc fun e w' => e = .returned (.slice none 0 0) ∧ w' = wc) := by
              rintro z (rfl | rfl)
              · exact I0
              · exact J0
            have hfin := HB1.out
            clear D0 A0 S0 W0 L0 I0 J0 E0 F0 K hla hlb HG HRA1 HRB1 HRA HRB FAR HLO HAL HB1
            go_wp2_with (first
              | (go_at_call 17; refine (unhide D1).mono ?_; rintro e' w0 ⟨rfl, hw0⟩; subst w0)
              | (go_at_call 12; refine (unhide A1).mono ?_; rintro e' w0 ⟨rfl, hw0⟩; subst w0)
              | (go_at_call 13; refine (unhide S1).mono ?_; rintro e' w0 ⟨rfl, hw0⟩; subst w0)
              | (go_at_call 20; refine (unhide W1).mono ?_; rintro e' w0 ⟨rfl, hw0⟩; subst w0)
              | (go_at_call 26; refine (unhide L1).mono ?_; rintro e' w0 ⟨rfl, hw0⟩; subst w0)
              | (go_at_call 31; refine (unhide I1 _ (by first | exact .inl rfl | exact .inr rfl)).mono ?_; rintro e' w0 ⟨rfl, hw0⟩; subst w0)
              | (go_at_call 32; refine (unhide E1).mono ?_; rintro e' w0 ⟨rfl, hw0⟩; subst w0)
              | (go_at_call 33; refine (unhide F1).mono ?_; rintro e' w0 ⟨rfl, hw0⟩; subst w0)
              | (go_at_call 16; refine (awake_any _).mono ?_; rintro e' w9 ⟨rfl, hb9⟩))
            go_ret
            exact ⟨rfl, hfin.trans (hb9.mono hbz)⟩
          · have K := HAL.out
            have K2 : a.length = b.length ∧ wdB g a = true ∧ wdB g b = true := by
              unfold alkB at K
              simp only [Bool.and_eq_true, decide_eq_true_eq] at K
              exact ⟨K.1.1, K.1.2, K.2⟩
            obtain ⟨z1, z2, z3⟩ := wdB_iff.1 K2.2.1
            obtain ⟨_, _, z4⟩ := wdB_iff.1 K2.2.2
            obtain rfl : j = k := by rw [← HN.out, ← HM.out]; exact K2.1.symm
            have h1k : 1 ≤ j := by rw [← HN.out]; exact z1
            have h16k : j ≤ 16 := by rw [← HN.out]; exact z2
            have LC0 : LC w wc B M v g 12 j ax bx a b := ⟨HG.out, by rw [HGL.out]; exact hgl, FAR.out _ _ HRA.out (by omega), FAR.out _ _ HRB.out (by rw [HM.out]; omega), z3, z4, HN.out, HM.out, HLO.out, HB1.out⟩
            have BAD : Hid (∀ (W : World) v g, Gr W B M v g → Row W ax a → Row W bx b → Calls Try.prog 31 #[.pointer (some ⟨B, 0, none⟩), .int .i64 (-1), .slice ax j ca, .slice bx j cb] W fun e w' => e = .returned (.slice none 0 0) ∧ w' = W) := fun W v g h h2 h3 => by
              have t := ite_bad W B M v g ax bx ca cb a b h h2 h3 (by rw [HN.out]; exact hal) (by rw [HM.out]; exact hbl)
              rwa [HN.out, HM.out] at t
            clear K K2 z1 z2 z3 z4 HG HRA1 HRB1 HRA HRB FAR HLO HAL HB1 HN HM HGL
            go_wp2_with (first
              | (go_at_call 16; refine (awake_any _).mono ?_; rintro e' w9 ⟨rfl, hb9⟩)
              | (go_at_call 31; refine (unhide BAD w8 v8 g8 LC8.gr LC8.fa.row LC8.fb.row).mono ?_; rintro e' w0 ⟨rfl, hw0⟩; subst w0)
              | (go_at_call 33; refine (less_cl LC7 (by omega) h1k h16k hca hcb).mono ?_; rintro e' w8 ⟨l8, v8, g8, rfl, hl8, LC8⟩)
              | (go_at_call 32; refine (eq_cl LC6 (by omega) h1k h16k hca hcb).mono ?_; rintro e' w7 ⟨l7, v7, g7, rfl, hl7, LC7⟩)
              | (go_at_call 31; refine (ite_cw LC5 (by omega) h1k h16k hca hcb).mono ?_; rintro e' w6 ⟨q6, v6, g6, rfl, LC6⟩)
              | (go_at_call 26; refine (shl_cw LC4 (by omega) h1k h16k hca hcb).mono ?_; rintro e' w5 ⟨q5, v5, g5, rfl, LC5⟩)
              | (go_at_call 20; refine (and_cw LC3 (by omega) h1k h16k hca hcb).mono ?_; rintro e' w4 ⟨q4, v4, g4, rfl, LC4⟩)
              | (go_at_call 13; refine (sub_cw LC2 (by omega) h1k h16k hca hcb).mono ?_; rintro e' w3 ⟨q3, v3, g3, rfl, LC3⟩)
              | (go_at_call 12; refine (add_cw LC1 (by omega) h1k h16k hca hcb).mono ?_; rintro e' w2 ⟨q2, v2, g2, rfl, LC2⟩)
              | (go_at_call 17; refine (div_cw LC0 (by omega) h1k h16k hca hcb).mono ?_; rintro e' w1 ⟨q1, r1, v1, g1, rfl, LC1⟩))
            go_ret
            exact ⟨rfl, LC8.bel.trans (hb9.mono LC8.bel.size)⟩
end
end Go.Proofs.Ytdjfciigfledhaa
