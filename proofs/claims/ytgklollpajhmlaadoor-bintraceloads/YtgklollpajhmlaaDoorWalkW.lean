/- Contract of the document's way: a literal at the beginning of bytes. -/
import Derived.Test.YtgklollpajhmlaaDoorWalkU
import Derived.Test.YtgklollpajhmlaaDoorWalkX
import Derived.Test.YtgklollpajhmlaaDoorPlainC
import Derived.Test.YtgklollpajhmlaaDoorWalkZ
set_option linter.unusedVariables false
set_option linter.unusedSimpArgs false
namespace Go.Proofs.YtgklollpajhmlaaDoor
open Go.RowKit Go.Maps

attribute [local go_sem ↓] Go.wp_at_zero Go.wp_at_succ

theorem unit_val {V W U c k : Nat} (hk : k < 5) (hc : c < 256) (hU : U = 128 ^ k) (h : W = V + c % 128 * U) (hV : V < U) : wrap64 ((V : Int) + wrap64 ((c : Int) % 128 * (U : Int))) = (W : Int) ∧ W ≤ 34359738368 ∧ U ≤ 268435456 := by
  have hcases : k = 0 ∨ k = 1 ∨ k = 2 ∨ k = 3 ∨ k = 4 := by omega
  rcases hcases with rfl | rfl | rfl | rfl | rfl
  all_goals
    simp only [Nat.reducePow] at hU
    subst hU
    unfold wrap64
    omega

theorem cut_take {B : Nat} {w : World} {b off cap : Nat} {t : List UInt8} (h : Txt B w (some ⟨b, off, none⟩) t) (n : Nat) (hn : n ≤ t.length) : (convert 22 9 (.slice (some ⟨b, off, none⟩) n cap)).run Tryd.prog w = .ok (.string (str (t.take n))) w := by
  have hl : (t.take n).length = n := by simp; omega
  have := run_convert_bytes_back (P := Tryd.prog) w 22 9 5 ⟨b, off, none⟩ cap (t.take n) Tryd.underlying22 Tryd.underlying5 Tryd.underlying9 (by
    intro j hj
    rw [Addr.add_lit]
    refine h.at ?_
    rw [hl] at hj
    rw [List.getElem_take, List.getElem?_eq_getElem (by omega)])
  rw [hl] at this
  exact this

theorem litOf_wrap (W : Nat) (h : W ≤ 34359738368) : (W % 2 = 1 → wrap64 (-wrap64 ((W : Int).tdiv 2)) = litOf W) ∧ (¬ W % 2 = 1 → wrap64 ((W : Int).tdiv 2) = litOf W) := by
  have e : (W : Int).tdiv 2 = (W : Int) / 2 := Int.tdiv_eq_ediv_of_nonneg (by omega)
  rw [e]
  unfold litOf
  constructor
  · intro hp
    rw [if_pos hp]
    unfold wrap64
    omega
  · intro hp
    rw [if_neg hp]
    unfold wrap64
    omega

set_option maxRecDepth 100000 in
set_option maxHeartbeats 8000000 in
theorem refTake_any (w : World) (b off cap : Nat) (t : List UInt8) (ht : Txt w.heap.size w (some ⟨b, off, none⟩) t) (hm : t.length ≤ 4194304) (hc : t.length ≤ cap) :
    Calls Tryd.prog 26 #[.slice (some ⟨b, off, none⟩) t.length cap] w fun e w' => e = .returned (.tuple #[.int .i64 (tkF 5 [] t).1, .int .i64 ((tkF 5 [] t).2 : Int)]) ∧ Below w.heap.size w w' := by
  have HT := hide ht
  clear ht
  go_enter Tryd.func26, Tryd.ntmps26
  go_wp2
  go_loopw [4, 5, 6] (fun zn zi zu wr => ∃ (k U : Nat), k ≤ t.length ∧ k ≤ 5 ∧ zi = .int .i64 (k : Int) ∧ zn = .int .i64 (valB (t.take k) : Int) ∧ zu = .int .i64 (U : Int) ∧ Hid (U = 128 ^ k) ∧ Lt 5 t k ∧ Below w.heap.size w wr) (fun _ zi _ _ => 5 - (intOf zi).toNat)
  case atStart => exact ⟨0, 1, Nat.zero_le _, by omega, rfl, rfl, rfl, rfl, lt_start 5 t, Below.refl _ _⟩
  case round =>
    obtain ⟨k, U, hk, hk5, rfl, rfl, rfl, HU, hL, hB⟩ := hrel
    have hBz := hB.size
    by_cases hlt : k < t.length ∧ k < 5
    · obtain ⟨hkt, hk4⟩ := hlt
      have hv := hL.val hkt
      have hT := HT.out.below hB
      obtain ⟨b', off', e, hb, hcell⟩ := hT k hkt
      simp at e
      obtain ⟨rfl, rfl⟩ := e
      have hbw : b < wr.heap.size := by omega
      have hcl : t[k].toNat < 256 := t[k].toNat_lt
      have hki : (k : Int) < t.length := by omega
      have hk4i : (k : Int) < 5 := by omega
      have hst := hL.step hkt hk4
      have HNXT := hide (hL.next hkt hk4)
      rw [← HU.out] at hv
      obtain ⟨hv1, hv2⟩ := hv
      have HU2 : Hid (U * 128 = 128 ^ (k + 1)) := by show _ = _; rw [HU.out, Nat.pow_succ]
      obtain ⟨hw, hWb, hUb⟩ := unit_val hk4 hcl HU.out hv1 hv2
      generalize hWV : valB (t.take (k + 1)) = W at *
      have HWV := hide hWV
      clear hWV
      have HW := hide hw
      clear hv1 hv2 hL hw
      generalize valB (t.take k) = V at *
      generalize t[k].toNat = c at *
      by_cases hcc : c < 128
      · have hci : (c : Int) < 128 := by omega
        rw [if_pos hcc] at hst
        have HST := hide hst
        clear hst
        have hlen : (t.take (k + 1)).length = k + 1 := by simp; omega
        have hans : tkF 5 [] t = if litB (litOf W) 1048576 = true ∧ bytL (litOf W) = t.take (k + 1) then (litOf W, k + 1) else (0, 0) := by
          rw [HST.out]; unfold finT; rw [HWV.out, hlen]
        have HCV : Hid (∀ x, Below w.heap.size w x → (convert 22 9 (.slice (some ⟨b, off, none⟩) (k + 1) cap)).run Tryd.prog x = .ok (.string (str (t.take (k + 1)))) x) := fun x hx => by
          have := cut_take (cap := cap) (HT.out.below hx) (k + 1) hkt
          exact this
        have HB := hide hB
        have CL : Hid (∀ x, Calls Tryd.prog 29 #[.int .i64 (litOf W)] x fun e w' => e = .returned (.bool (litB (litOf W) 1048576)) ∧ w' = x) := fun x => lit_any _ x
        have CR : Hid (litB (litOf W) 1048576 = true → ∀ x, Calls Tryd.prog 36 #[.int .i64 (litOf W)] x fun e w' => ∃ v', e = .returned v' ∧ Br x.heap.size w' v' (bytL (litOf W)) ∧ Below x.heap.size x w') := fun h x => refLiteral_any _ x h
        have HLO : Hid ((W % 2 = 1 → wrap64 (-wrap64 ((W : Int).tdiv 2)) = litOf W) ∧ (¬ W % 2 = 1 → wrap64 ((W : Int).tdiv 2) = litOf W)) := litOf_wrap W hWb
        have hkc : (k : Int) + 1 ≤ cap := by omega
        have hk1 : (0 : Int) ≤ (k : Int) + 1 := by omega
        generalize litOf W = l at *
        generalize t.take (k + 1) = u at *
        clear hB hT HWV HST HNXT HU HU2 hlen
        by_cases hp : W % 2 = 1
        · have hpar : ((wrap64 ((V : Int) + wrap64 ((c : Int) % 128 * (U : Int)))).tmod 2 == 1) = true := by rw [HW.out, Int.tmod_eq_emod_of_nonneg (by omega)]; simp; omega
          go_wp2
          rw [HW.out, HLO.out.1 hp]
          generalize wrap64 ((c : Int) % 128 * (U : Int)) = cu at *
          clear hpar hcell HLO
          cases hlit : litB l 1048576
          · rw [hlit] at hans CL
            simp only [Bool.false_eq_true, false_and, if_false] at hans
            have HA := hide hans
            clear hans hlit CR
            go_quiet ((go_at_call 29; exact Calls.quiet_of_same (CL.out _)))
            go_wp2
            go_ret2
            exact ⟨by rw [HA.out]; rfl, below_drewN HB.out⟩
          · rw [hlit] at hans CL
            have CR2 := hide (CR.out hlit)
            clear CR hlit
            clear hcl hcc hci hWb hUb hk hk5 hki hk4i hp HW hkt hk4 hm hc
            have hcu : ∀ n, (convert 22 9 (.slice (some ⟨b, off, none⟩) (k + 1) cap)).run Tryd.prog (wr.drewN n) = .ok (.string (str u)) (wr.drewN n) := fun n => HCV.out _ (below_drewN HB.out)
            have hcu0 : (convert 22 9 (.slice (some ⟨b, off, none⟩) (k + 1) cap)).run Tryd.prog wr = .ok (.string (str u)) wr := hcu 0
            have hcu1 : (convert 22 9 (.slice (some ⟨b, off, none⟩) (k + 1) cap)).run Tryd.prog wr.drew = .ok (.string (str u)) wr.drew := hcu 1
            by_cases hu : bytL l = u
            · rw [hu] at CR2
              rw [if_pos ⟨rfl, hu⟩] at hans
              have HA := hide hans
              clear hans hu
              go_region_law (first
                | (go_simp; go_at_call 29; refine (unhide CL _).mono ?_; rintro e w0 ⟨rfl, hw0⟩; subst w0)
                | (go_simp; go_at_call 36; refine (unhide CR2 _).mono ?_; rintro e w5 ⟨v5, rfl, hbr5, hbl5⟩; obtain ⟨g5, c5, rfl, -⟩ := hbr5.shape; have HB5 := hide (HB.out.trans (Below.mono (below_undrew hbl5) hBz)); have hcy : ∀ n, (convert 22 9 (.slice (some ⟨g5, 0, none⟩) u.length c5)).run Tryd.prog (w5.drewN n) = .ok (.string (str u)) (w5.drewN n) := fun n => br_string hbr5 n; have hcy0 : (convert 22 9 (.slice (some ⟨g5, 0, none⟩) u.length c5)).run Tryd.prog w5 = .ok (.string (str u)) w5 := br_string hbr5 0; have hcy1 : (convert 22 9 (.slice (some ⟨g5, 0, none⟩) u.length c5)).run Tryd.prog w5.drew = .ok (.string (str u)) w5.drew := br_string hbr5 1; have hcz : ∀ n, (convert 22 9 (.slice (some ⟨b, off, none⟩) (k + 1) cap)).run Tryd.prog (w5.drewN n) = .ok (.string (str u)) (w5.drewN n) := fun n => HCV.out _ (below_drewN HB5.out); have hcz0 : (convert 22 9 (.slice (some ⟨b, off, none⟩) (k + 1) cap)).run Tryd.prog w5 = .ok (.string (str u)) w5 := hcz 0; have hcz1 : (convert 22 9 (.slice (some ⟨b, off, none⟩) (k + 1) cap)).run Tryd.prog w5.drew = .ok (.string (str u)) w5.drew := hcz 1; clear hbr5 hbl5))
              all_goals
                clear hcu hcu0 hcu1 hcy hcy0 hcy1 hcz hcz0 hcz1
                go_wp2
                go_ret2
                exact ⟨by rw [HA.out]; rfl, by first | exact HB5.out | exact below_drewN HB5.out | exact HB5.out.drew⟩
            · rw [if_neg (fun h => hu h.2)] at hans
              have HA := hide hans
              generalize bytL l = Y at *
              have hn1 : ((str Y).toList == (str u).toList) = false := by rw [str_toList, str_toList]; simpa using hu
              clear hans hu
              go_region_law (first
                | (go_simp; go_at_call 29; refine (unhide CL _).mono ?_; rintro e w0 ⟨rfl, hw0⟩; subst w0)
                | (go_simp; go_at_call 36; refine (unhide CR2 _).mono ?_; rintro e w5 ⟨v5, rfl, hbr5, hbl5⟩; obtain ⟨g5, c5, rfl, -⟩ := hbr5.shape; have HB5 := hide (HB.out.trans (Below.mono (below_undrew hbl5) hBz)); have hcy : ∀ n, (convert 22 9 (.slice (some ⟨g5, 0, none⟩) Y.length c5)).run Tryd.prog (w5.drewN n) = .ok (.string (str Y)) (w5.drewN n) := fun n => br_string hbr5 n; have hcy0 : (convert 22 9 (.slice (some ⟨g5, 0, none⟩) Y.length c5)).run Tryd.prog w5 = .ok (.string (str Y)) w5 := br_string hbr5 0; have hcy1 : (convert 22 9 (.slice (some ⟨g5, 0, none⟩) Y.length c5)).run Tryd.prog w5.drew = .ok (.string (str Y)) w5.drew := br_string hbr5 1; have hcz : ∀ n, (convert 22 9 (.slice (some ⟨b, off, none⟩) (k + 1) cap)).run Tryd.prog (w5.drewN n) = .ok (.string (str u)) (w5.drewN n) := fun n => HCV.out _ (below_drewN HB5.out); have hcz0 : (convert 22 9 (.slice (some ⟨b, off, none⟩) (k + 1) cap)).run Tryd.prog w5 = .ok (.string (str u)) w5 := hcz 0; have hcz1 : (convert 22 9 (.slice (some ⟨b, off, none⟩) (k + 1) cap)).run Tryd.prog w5.drew = .ok (.string (str u)) w5.drew := hcz 1; clear hbr5 hbl5))
              all_goals
                clear hcu hcu0 hcu1 hcy hcy0 hcy1 hcz hcz0 hcz1
                go_wp2
                go_ret2
                exact ⟨by rw [HA.out]; rfl, by first | exact HB5.out | exact below_drewN HB5.out | exact HB5.out.drew⟩
        · have hpar : ((wrap64 ((V : Int) + wrap64 ((c : Int) % 128 * (U : Int)))).tmod 2 == 1) = false := by rw [HW.out, Int.tmod_eq_emod_of_nonneg (by omega)]; simp; omega
          go_wp2
          rw [HW.out, HLO.out.2 hp]
          generalize wrap64 ((c : Int) % 128 * (U : Int)) = cu at *
          clear hpar hcell HLO
          cases hlit : litB l 1048576
          · rw [hlit] at hans CL
            simp only [Bool.false_eq_true, false_and, if_false] at hans
            have HA := hide hans
            clear hans hlit CR
            go_quiet ((go_at_call 29; exact Calls.quiet_of_same (CL.out _)))
            go_wp2
            go_ret2
            exact ⟨by rw [HA.out]; rfl, below_drewN HB.out⟩
          · rw [hlit] at hans CL
            have CR2 := hide (CR.out hlit)
            clear CR hlit
            clear hcl hcc hci hWb hUb hk hk5 hki hk4i hp HW hkt hk4 hm hc
            have hcu : ∀ n, (convert 22 9 (.slice (some ⟨b, off, none⟩) (k + 1) cap)).run Tryd.prog (wr.drewN n) = .ok (.string (str u)) (wr.drewN n) := fun n => HCV.out _ (below_drewN HB.out)
            have hcu0 : (convert 22 9 (.slice (some ⟨b, off, none⟩) (k + 1) cap)).run Tryd.prog wr = .ok (.string (str u)) wr := hcu 0
            have hcu1 : (convert 22 9 (.slice (some ⟨b, off, none⟩) (k + 1) cap)).run Tryd.prog wr.drew = .ok (.string (str u)) wr.drew := hcu 1
            by_cases hu : bytL l = u
            · rw [hu] at CR2
              rw [if_pos ⟨rfl, hu⟩] at hans
              have HA := hide hans
              clear hans hu
              go_region_law (first
                | (go_simp; go_at_call 29; refine (unhide CL _).mono ?_; rintro e w0 ⟨rfl, hw0⟩; subst w0)
                | (go_simp; go_at_call 36; refine (unhide CR2 _).mono ?_; rintro e w5 ⟨v5, rfl, hbr5, hbl5⟩; obtain ⟨g5, c5, rfl, -⟩ := hbr5.shape; have HB5 := hide (HB.out.trans (Below.mono (below_undrew hbl5) hBz)); have hcy : ∀ n, (convert 22 9 (.slice (some ⟨g5, 0, none⟩) u.length c5)).run Tryd.prog (w5.drewN n) = .ok (.string (str u)) (w5.drewN n) := fun n => br_string hbr5 n; have hcy0 : (convert 22 9 (.slice (some ⟨g5, 0, none⟩) u.length c5)).run Tryd.prog w5 = .ok (.string (str u)) w5 := br_string hbr5 0; have hcy1 : (convert 22 9 (.slice (some ⟨g5, 0, none⟩) u.length c5)).run Tryd.prog w5.drew = .ok (.string (str u)) w5.drew := br_string hbr5 1; have hcz : ∀ n, (convert 22 9 (.slice (some ⟨b, off, none⟩) (k + 1) cap)).run Tryd.prog (w5.drewN n) = .ok (.string (str u)) (w5.drewN n) := fun n => HCV.out _ (below_drewN HB5.out); have hcz0 : (convert 22 9 (.slice (some ⟨b, off, none⟩) (k + 1) cap)).run Tryd.prog w5 = .ok (.string (str u)) w5 := hcz 0; have hcz1 : (convert 22 9 (.slice (some ⟨b, off, none⟩) (k + 1) cap)).run Tryd.prog w5.drew = .ok (.string (str u)) w5.drew := hcz 1; clear hbr5 hbl5))
              all_goals
                clear hcu hcu0 hcu1 hcy hcy0 hcy1 hcz hcz0 hcz1
                go_wp2
                go_ret2
                exact ⟨by rw [HA.out]; rfl, by first | exact HB5.out | exact below_drewN HB5.out | exact HB5.out.drew⟩
            · rw [if_neg (fun h => hu h.2)] at hans
              have HA := hide hans
              generalize bytL l = Y at *
              have hn1 : ((str Y).toList == (str u).toList) = false := by rw [str_toList, str_toList]; simpa using hu
              clear hans hu
              go_region_law (first
                | (go_simp; go_at_call 29; refine (unhide CL _).mono ?_; rintro e w0 ⟨rfl, hw0⟩; subst w0)
                | (go_simp; go_at_call 36; refine (unhide CR2 _).mono ?_; rintro e w5 ⟨v5, rfl, hbr5, hbl5⟩; obtain ⟨g5, c5, rfl, -⟩ := hbr5.shape; have HB5 := hide (HB.out.trans (Below.mono (below_undrew hbl5) hBz)); have hcy : ∀ n, (convert 22 9 (.slice (some ⟨g5, 0, none⟩) Y.length c5)).run Tryd.prog (w5.drewN n) = .ok (.string (str Y)) (w5.drewN n) := fun n => br_string hbr5 n; have hcy0 : (convert 22 9 (.slice (some ⟨g5, 0, none⟩) Y.length c5)).run Tryd.prog w5 = .ok (.string (str Y)) w5 := br_string hbr5 0; have hcy1 : (convert 22 9 (.slice (some ⟨g5, 0, none⟩) Y.length c5)).run Tryd.prog w5.drew = .ok (.string (str Y)) w5.drew := br_string hbr5 1; have hcz : ∀ n, (convert 22 9 (.slice (some ⟨b, off, none⟩) (k + 1) cap)).run Tryd.prog (w5.drewN n) = .ok (.string (str u)) (w5.drewN n) := fun n => HCV.out _ (below_drewN HB5.out); have hcz0 : (convert 22 9 (.slice (some ⟨b, off, none⟩) (k + 1) cap)).run Tryd.prog w5 = .ok (.string (str u)) w5 := hcz 0; have hcz1 : (convert 22 9 (.slice (some ⟨b, off, none⟩) (k + 1) cap)).run Tryd.prog w5.drew = .ok (.string (str u)) w5.drew := hcz 1; clear hbr5 hbl5))
              all_goals
                clear hcu hcu0 hcu1 hcy hcy0 hcy1 hcz hcz0 hcz1
                go_wp2
                go_ret2
                exact ⟨by rw [HA.out]; rfl, by first | exact HB5.out | exact below_drewN HB5.out | exact HB5.out.drew⟩
      · have hci : 128 ≤ (c : Int) := by omega
        have HB := hide hB
        clear hB hst
        go_wp2
        go_roundw
        case rel => exact ⟨k + 1, U * 128, by omega, by omega, by go_num, by rw [HWV.out, HW.out], by go_num, HU2.out, HNXT.out (by omega), HB.out⟩
        case measure => simp [intOf]; omega
    · have hans := hL.none hlt
      have HA := hide hans
      have HB := hide hB
      clear hans hL hB
      by_cases hlt2 : (k : Int) < t.length
      · have hk4i : ¬ (k : Int) < 5 := by omega
        go_wp2
        go_ret2
        exact ⟨by rw [HA.out]; rfl, HB.out⟩
      · go_wp2
        go_ret2
        exact ⟨by rw [HA.out]; rfl, HB.out⟩

end Go.Proofs.YtgklollpajhmlaaDoor
