/- Contract: Mul. -/
import Derived.Test.YtdjfciigfledhaaVg
import Derived.Test.YtdjfciigfledhaaVh
set_option linter.unusedVariables false
set_option linter.unusedSimpArgs false
namespace Go.Proofs.Ytdjfciigfledhaa
open Go.RowKit Go.Maps

/-- A word of the call's own whose number is N, by inputs. -/
def NP (w : World) (B M : Nat) (v : Value) (g : List Gt) (n k : Nat) (N : List Bool → Nat) (e : Ending) (w' : World) : Prop := ∃ f, WP w B M v g n k f e w' ∧ ∀ ins, numB (f ins) = N ins
theorem WP.np {w w' : World} {B M n k : Nat} {v : Value} {g : List Gt} {f : List Bool → List Bool} {N : List Bool → Nat} {e : Ending} (h : WP w B M v g n k f e w') (hN : ∀ ins, numB (f ins) = N ins) : NP w B M v g n k N e w' := ⟨f, h, hN⟩

section
variable (w : World) (B M : Nat) (v : Value) (g : List Gt)

theorem alike_yes (ax bx : Option Addr) (ca cb : Nat) (a b : List Int) (n : Nat) (A Y : List Bool → List Bool)
    (hA : Gr w B M v g) (hn : a.length = n) (hm : b.length = n) (h1 : 1 ≤ n) (h16 : n ≤ 16) (hr : Fr w B M v ax a) (hs : Fr w B M v bx b) (ha : Wt g a A) (hb : Wt g b Y) :
    Calls Try.prog 49 #[.pointer (some ⟨B, 0, none⟩), .slice ax n ca, .slice bx n cb] w fun e w' => e = .returned (.bool true) ∧ w' = w := by
  have AL := valike_any w B M v g ax bx ca cb a b n n hA hn hm hr.row hs.row (by unfold maxLen; omega) (by unfold maxLen; omega)
  have hal : alkB g a b = true := by unfold alkB; rw [ha.ok (by omega) (by omega), hb.ok (by omega) (by omega), hn, hm]; simp
  rwa [hal] at AL

set_option maxHeartbeats 4000000 in
theorem mul_any (ax bx : Option Addr) (ca cb : Nat) (a b : List Int) (n : Nat) (A Y : List Bool → List Bool)
    (hA : Gr w B M v g) (hl : g.length ≤ 900000) (hn : a.length = n) (hm : b.length = n) (h1 : 1 ≤ n) (h16 : n ≤ 16) (hca : n ≤ ca) (hr : Fr w B M v ax a) (hs : Fr w B M v bx b) (ha : Wt g a A) (hb : Wt g b Y) :
    Calls Try.prog 15 #[.pointer (some ⟨B, 0, none⟩), .slice ax n ca, .slice bx n cb] w (NP w B M v g n 4000 (fun ins => numB (A ins) * numB (Y ins) % 2 ^ n)) := by
  have AL := hide (alike_yes w B M v g ax bx ca cb a b n A Y hA hn hm h1 h16 hr hs ha hb)
  obtain ⟨p2, o2, rfl⟩ := hs.addr (by omega)
  obtain ⟨p1, o1, rfl⟩ := hr.addr (by omega)
  obtain ⟨_, _, eb, hp2, z0⟩ := hs.row 0 (by omega)
  cases eb
  have hb0 := hb.at (i := 0) (by omega)
  have M1 := hide (masked_any w B M v g b[0] _ (some ⟨p1, o1, none⟩) ca a n A hA (by omega) hn h16 hr ha hb0)
  have HR := hide hr
  have HT := hide hs
  have HWA := hide ha
  have HWB := hide hb
  have HN := hide hn
  have HNB := hide hm
  have hn0 : (0 : Int) < n := by omega
  have hnc : (n : Int) ≤ ca := by omega
  rw [Nat.add_zero] at z0
  clear hA hr hs ha hb hb0
  generalize b[0] = y0 at *
  clear hn hm
  go_enter Try.func15, Try.ntmps15
  go_wp2_with (first
    | (go_at_call 49; refine (unhide AL).mono ?_; rintro e w0 ⟨rfl, hw0⟩; subst w0)
    | (go_at_call 53; refine (unhide M1).mono ?_; rintro e w1 ⟨q, l1, v1, g1, rfl, s1, b1⟩))
  have HS := hide (b1.ml s1)
  have HW := hide b1.wt
  clear s1 b1 M1 AL z0
  have hstart : ∀ ins, numB ((A ins).map ((Y ins).getD 0 false && ·)) = numB (A ins) * (numB (Y ins) % 2 ^ 1) % 2 ^ n := fun ins => by
    have hlt := numB_lt (A ins)
    rw [HWA.out.len ins, HN.out] at hlt
    rw [numB_mask]
    exact mul_first _ _ _ _ hlt (numB_bit _ _)
  have HSTART := hide hstart
  clear hstart
  go_upto_region 5 with fail
  go_loopw [8] (fun i W => ∃ k : Nat, 1 ≤ k ∧ k ≤ n ∧ i = .int .i64 (k : Int) ∧ ∃ v' g' l P, Hid (Ml w W B M v v' g g' (200 * k) n q l) ∧ Hid (Wt g' l P) ∧ Hid (∀ ins, numB (P ins) = numB (A ins) * (numB (Y ins) % 2 ^ k) % 2 ^ n)) (fun i _ => n - (intOf i).toNat)
  case atStart => exact ⟨1, Nat.le_refl _, h1, rfl, v1, g1, l1, _, HS.out.mono (by omega), HW, HSTART.out⟩
  case round =>
    clear HS HW HSTART
    obtain ⟨k, hk1, hk, rfl, v', g', l, P, HK, HW, HP⟩ := hrel
    by_cases hlt : k < n
    · have hka : k < b.length := by rw [HNB.out]; exact hlt
      have hfa := HK.out.st.fr HR.out
      have hfb := HK.out.st.fr HT.out
      obtain ⟨_, _, eb, _, hcp⟩ := hfb.row k hka
      cases eb
      have hx := (HWB.out.grow HK.out.st.grow).at hka
      have HX := hide hx
      have hkn : (k : Int) < n := by omega
      obtain ⟨m, hm⟩ : ∃ m : Nat, n - k = m := ⟨_, rfl⟩
      have hsub : (n : Int) - (k : Int) = (m : Int) := by omega
      have hwm : IntKind.i64.wrap (m : Int) = (m : Int) := by rw [IntKind.wrap_i64]; omega
      have hm0 : (0 : Int) ≤ (m : Int) := by omega
      have hmc : (m : Int) ≤ (ca : Int) := by omega
      have HM := hide hm
      have M2 := hide (masked_any (wr.drewN 1) B M v' g' b[k] _ (some ⟨p1, o1, none⟩) ca (a.take m) m _ (HK.out.st.gr.drewN 1) (by have := HK.out.st.len; omega) (by simp [HN.out]; omega) (by omega) ((HK.out.st.below (below_drewN (Below.refl _ _) 1)).fr HR.out |>.take m) ((HWA.out.grow HK.out.st.grow).take m) hx)
      have FB := hide (hfb.far p2 o2 rfl)
      clear hx hfa hfb hm
      generalize b[k] = y at *
      clear hka
      go_wp2
      go_region_held3 (fun z => z.cell? ⟨p2, o2 + k, none⟩ = some (.int .i64 y)) (go_keep)
        (first | (go_at_call 53; refine (unhide M2).mono ?_; rintro e w2 ⟨q2, l2, v2, g2, rfl, s2, b2⟩; have t0 := s2.cell FB.out.1 FB.out.2 hcp))
      all_goals
        have S1 := hide ((HK.out.below (below_drewN (Below.refl _ _) 1)).act s2)
        have W1 := hide (HW.out.grow s2.grow)
        have B2 := hide b2.fr
        have B2W := hide b2.wt
        have B2L := hide b2.len
        clear s2 b2 t0 HK HW HX M2 FB hcp
        have hnk := HM.out
        have hld : (l.drop k).length = m := by rw [List.length_drop, S1.out.len]; exact hnk
        have SM := hide (sum_any (w2.drewN 1) B M v2 g2 (some ⟨q, k, none⟩) (some ⟨q2, 0, none⟩) m m (l.drop k) l2 0 m (fun ins => (P ins).drop k) _ (fun _ => false) (S1.out.st.gr.drewN 1) (by have := S1.out.st.len; omega) hld B2L.out (by omega)
          (by have := (S1.out.below (below_drewN (Below.refl _ _) 1)).fr.drop k; rwa [Nat.zero_add] at this) (((St.refl S1.out.st.gr).below (below_drewN (Below.refl _ _) 1)).fr B2.out) (W1.out.drop k) B2W.out (lt_zero g2))
        have HLD := hide hld
        have hke : ¬ n = k := by omega
        clear hld
        go_wp2
        go_region_held3 (fun z => True) (trivial)
          (first
            | (go_at_call 51; refine (unhide SM).mono ?_; rintro e w3 ⟨q3, l3, v3, g3, rfl, s3, b3⟩)
            | (refine step_copy_rw (by rfl) _ _ 27 27 (by rfl) Try.underlying27 q k m m q3 0 m m (by rfl) (by rfl) l l3 ((S1.out.below (below_drewN (Below.refl _ _) 1)).act s3).rw (by rw [b3.len]; show m = min m m; omega) b3.rw.row (by rw [b3.len, S1.out.len]; omega) ?_; intro w4 hr4 hg4))
        all_goals
          have hl3 : l3.length = m := b3.len
          have hdr : l.drop (k + l3.length) = [] := by rw [hl3]; exact List.drop_of_length_le (by rw [S1.out.len]; omega)
          rw [hdr, List.append_nil] at hr4
          have S3 := hide ((((S1.out.below (below_drewN (Below.refl _ _) 1)).act s3).copy hg4 hr4 (by rw [List.length_append, hl3, List.length_take, S1.out.len]; omega)).mono (j := 200 * (k + 1)) (by omega))
          have W3 : Hid (Wt g3 (l.take k ++ l3) (fun ins => (P ins).take k ++ addB ((P ins).drop k) (((A ins).take m).map ((Y ins).getD k false && ·)) false)) := ((W1.out.grow s3.grow).take k).append b3.wt
          have hP3 : ∀ ins, numB ((P ins).take k ++ addB ((P ins).drop k) (((A ins).take m).map ((Y ins).getD k false && ·)) false) = numB (A ins) * (numB (Y ins) % 2 ^ (k + 1)) % 2 ^ n := fun ins => by
            have hpl : (P ins).length = n := by rw [W1.out.len ins, S1.out.len]
            have hal : (A ins).length = n := by rw [HWA.out.len ins, HN.out]
            rw [mul_round (P ins) _ (numB (A ins)) k n ((Y ins).getD k false) hk hpl (by simp; omega) (by rw [numB_mask, numB_take, hnk])]
            exact mul_step _ _ k n _ _ (HP.out ins) (numB_bit _ _)
          have HP3 := hide hP3
          clear s3 b3 hr4 hg4 hdr hl3 hP3 SM S1 W1 B2 B2W B2L
          go_wp2
          go_roundw
          case rel => exact ⟨k + 1, by omega, by omega, by go_num, v3, g3, _, _, S3, W3, HP3.out⟩
          case measure => simp [intOf]; omega
    · have hke : k = n := by omega
      subst hke
      have hw : wdB g' l = true := HW.out.ok (by rw [HK.out.len]; omega) (by rw [HK.out.len]; omega)
      have WD := hide (word_any wr B M v' g' (some ⟨q, 0, none⟩) k l k HK.out.st.gr HK.out.len HK.out.rw.row hw)
      have HF : Hid (NP w B M v g k 4000 (fun ins => numB (A ins) * numB (Y ins) % 2 ^ k) (.returned (.slice (some ⟨q, 0, none⟩) k k)) wr) := by
        refine ((HK.out.wp HW.out).mono (by omega)).np fun ins => ?_
        have h2 := numB_lt (Y ins)
        rw [HWB.out.len ins, HNB.out] at h2
        rw [HP.out ins, Nat.mod_eq_of_lt h2]
      clear HK HW HP hw
      go_wp2_with (first | (go_at_call 50; refine (unhide WD).mono ?_; rintro e w0 ⟨rfl, hw0⟩; subst w0))
      go_ret
      exact HF.out
end
end Go.Proofs.Ytdjfciigfledhaa
