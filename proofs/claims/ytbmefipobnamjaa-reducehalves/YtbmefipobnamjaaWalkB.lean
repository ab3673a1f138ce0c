/- Contracts: whether all may be (the program's check, the document's); which of two is better. -/
import Derived.Test.YtbmefipobnamjaaWalkA
import Derived.Deep.DeepCutAuto
import Derived.Deep.CutBlock
set_option linter.unusedVariables false
set_option linter.unusedSimpArgs false
namespace Go.Proofs.Ytbmefipobnamjaa
open Go.RowKit

/-- An error's number: 1 (one may not be), or 0. -/
def errI (b : Bool) : Int := if b then 0 else 1

set_option maxHeartbeats 1000000 in
theorem check_any (w : World) (a : Option Addr) (cap : Nat) (L : List Ln) (h : Lns w a L) (hl : L.length ≤ 100) :
    Calls Try.prog 13 #[.slice a L.length cap] w fun e w' => e = .returned (.int .i64 (errI (mayA L))) ∧ Below w.heap.size w w' := by
  go_enter Try.func13, Try.ntmps13
  go_wp2
  go_loopw [4, 7] (fun _ i wr => ∃ k : Nat, k ≤ L.length ∧ i = .int .i64 k ∧ (L.take k).all mayL = true ∧ Below w.heap.size w wr) (fun _ i _ => L.length - (intOf i).toNat)
  case atStart => exact ⟨0, Nat.zero_le _, rfl, rfl, Below.refl _ _⟩
  case round =>
    obtain ⟨k, hk, rfl, hno, hbw⟩ := hrel
    have HN := hide hno
    clear hno
    by_cases hlt : k < L.length
    · obtain ⟨b, off, rfl, hA0⟩ := h k hlt
      have hA := hA0.below hbw hA0.lt
      have hc0 := hA.c0
      have hc1 := hA.c1
      have hc2 := hA.c2
      have CM := fun W => mayBe_any W (nth L k)
      have HB := hide (hbw.alloc hbw.size (.cells #[.int .i64 (nth L k).lev, .int .i64 (nth L k).siz, .bool (nth L k).lck] 29))
      have hlt' : (k : Int) < L.length := by omega
      by_cases he : mayL (nth L k) = true
      · rw [he] at CM
        replace CM := hide CM
        have HN2 := hide (mayA_to HN.out hlt he)
        clear hA hA0 h he hbw
        generalize (nth L k).lev = lv at *
        generalize (nth L k).siz = sz at *
        generalize (nth L k).lck = lk at *
        go_wp2_with (go_at_call 16; refine (unhide CM _).mono ?_; rintro e w0 ⟨rfl, hb0⟩)
        go_roundw
        case rel => exact ⟨k + 1, by omega, by go_num, HN2.out, HB.out.trans (hb0.mono HB.out.size)⟩
        case measure => simp [intOf]; omega
      · have he' : mayL (nth L k) = false := by simpa using he
        rw [he'] at CM
        replace CM := hide CM
        have HM := hide (mayA_no hlt he')
        clear hA hA0 h he hbw he'
        generalize (nth L k).lev = lv at *
        generalize (nth L k).siz = sz at *
        generalize (nth L k).lck = lk at *
        go_wp2_with (go_at_call 16; refine (unhide CM _).mono ?_; rintro e w0 ⟨rfl, hb0⟩)
        go_ret
        exact ⟨ret_int (by rw [HM.out]; rfl), HB.out.trans (hb0.mono HB.out.size)⟩
    · have HM := hide (mayA_all HN.out (by omega))
      have HB := hide hbw
      clear h hbw
      go_wp2
      go_ret
      exact ⟨ret_int (by rw [HM.out]; rfl), HB.out⟩

set_option maxHeartbeats 2000000 in
theorem refMay_any (w : World) (a : Option Addr) (cap : Nat) (L : List Ln) (h : Lns w a L) (hl : L.length ≤ 100) :
    Calls Try.prog 5 #[.slice a L.length cap] w fun e w' => e = .returned (.bool (mayA L)) ∧ Below w.heap.size w w' := by
  go_enter Try.func5, Try.ntmps5
  go_wp2
  go_loopw [3] (fun i wr => ∃ k : Nat, k ≤ L.length ∧ i = .int .i64 k ∧ (L.take k).all mayL = true ∧ Below w.heap.size w wr) (fun i _ => L.length - (intOf i).toNat)
  case atStart => exact ⟨0, Nat.zero_le _, rfl, rfl, Below.refl _ _⟩
  case round =>
    obtain ⟨k, hk, rfl, hno, hbw⟩ := hrel
    have HN := hide hno
    clear hno
    by_cases hlt : k < L.length
    · obtain ⟨b, off, rfl, hA0⟩ := h k hlt
      have hA := hA0.below hbw hA0.lt
      have hc0 := hA.c0
      have hc1 := hA.c1
      have HB := hide hbw
      have hlt' : (k : Int) < L.length := by omega
      by_cases he : mayL (nth L k) = true
      · have HN2 := hide (mayA_to HN.out hlt he)
        unfold mayL at he
        rw [decide_eq_true_eq] at he
        obtain ⟨g1, g2, g3, g4⟩ := he
        clear hA hA0 h hbw
        generalize (nth L k).lev = lv at *
        generalize (nth L k).siz = sz at *
        have d1 : decide (sz < 0) = false := by simp; omega
        have d2 : decide (4096 < sz) = false := by simp; omega
        have d3 : decide (lv < 0) = false := by simp; omega
        have d4 : decide (sz < lv) = false := by simp; omega
        clear g1 g2 g3 g4
        go_upto_region 4 with fail
        go_quiet (fail)
        go_wp2
        go_roundw
        case rel => exact ⟨k + 1, by omega, by go_num, HN2.out, below_drewN HB.out _⟩
        case measure => simp [intOf]; omega
      · have he' : mayL (nth L k) = false := by simpa using he
        have HM := hide (mayA_no hlt he')
        unfold mayL at he
        rw [decide_eq_true_eq] at he
        clear hA hA0 h hbw he'
        generalize (nth L k).lev = lv at *
        generalize (nth L k).siz = sz at *
        by_cases g1 : sz < 0
        · have d1 : decide (sz < 0) = true := by simpa using g1
          clear g1 he
          go_upto_region 4 with fail
          go_quiet (fail)
          go_wp2
          go_ret
          exact ⟨ret_bool HM.out.symm, below_drewN HB.out _⟩
        have d1 : decide (sz < 0) = false := by simpa using g1
        by_cases g2 : 4096 < sz
        · have d2 : decide (4096 < sz) = true := by simpa using g2
          clear g1 he g2
          go_upto_region 4 with fail
          go_quiet (fail)
          go_wp2
          go_ret
          exact ⟨ret_bool HM.out.symm, below_drewN HB.out _⟩
        have d2 : decide (4096 < sz) = false := by simpa using g2
        by_cases g3 : lv < 0
        · have d3 : decide (lv < 0) = true := by simpa using g3
          clear g1 he g2 g3
          go_upto_region 4 with fail
          go_quiet (fail)
          go_wp2
          go_ret
          exact ⟨ret_bool HM.out.symm, below_drewN HB.out _⟩
        have d3 : decide (lv < 0) = false := by simpa using g3
        have g4 : sz < lv := by omega
        have d4 : decide (sz < lv) = true := by simpa using g4
        clear g1 he g2 g3 g4
        go_upto_region 4 with fail
        go_quiet (fail)
        go_wp2
        go_ret
        exact ⟨ret_bool HM.out.symm, below_drewN HB.out _⟩
    · have HM := hide (mayA_all HN.out (by omega))
      have HB := hide hbw
      clear h hbw
      go_wp2
      go_ret
      exact ⟨ret_bool HM.out.symm, HB.out⟩

theorem betB_lev {L : List Ln} {i j : Nat} (h : (nth L i).lev ≠ (nth L j).lev) : betB L i j = decide ((nth L i).lev < (nth L j).lev) := by unfold betB; rw [decide_eq_decide]; omega
theorem betB_siz {L : List Ln} {i j : Nat} (h : (nth L i).lev = (nth L j).lev) (h2 : (nth L i).siz ≠ (nth L j).siz) : betB L i j = decide ((nth L i).siz < (nth L j).siz) := by unfold betB; rw [decide_eq_decide]; omega
theorem betB_at {L : List Ln} {i j : Nat} (h : (nth L i).lev = (nth L j).lev) (h2 : (nth L i).siz = (nth L j).siz) : betB L i j = decide (j < i) := by unfold betB; rw [decide_eq_decide]; omega

set_option maxHeartbeats 2000000 in
theorem better_any (w : World) (b off cap : Nat) (L : List Ln) (i j : Nat) (h : Lns w (some ⟨b, off, none⟩) L) (hl : L.length ≤ 100) (hi : i < L.length) (hj : j < L.length) :
    Calls Try.prog 9 #[.slice (some ⟨b, off, none⟩) L.length cap, .int .i64 (i : Int), .int .i64 (j : Int)] w fun e w' => e = .returned (.bool (betB L i j)) ∧ Below w.heap.size w w' := by
  obtain ⟨b1, off1, e1, hA⟩ := h i hi
  obtain ⟨b2, off2, e2, hB⟩ := h j hj
  cases e1
  cases e2
  have a0 := hA.c0
  have a1 := hA.c1
  have b0 := hB.c0
  have b1 := hB.c1
  have hi' : (i : Int) < L.length := by omega
  have hj' : (j : Int) < L.length := by omega
  clear h hA hB
  by_cases el : (nth L i).lev = (nth L j).lev
  · have dl : ((nth L i).lev != (nth L j).lev) = false := by simpa using el
    by_cases es : (nth L i).siz = (nth L j).siz
    · have ds : ((nth L i).siz != (nth L j).siz) = false := by simpa using es
      have HR := hide (betB_at el es)
      clear el es
      generalize betB L i j = R at *
      generalize (nth L i).lev = l1 at *
      generalize (nth L j).lev = l2 at *
      generalize (nth L i).siz = s1 at *
      generalize (nth L j).siz = s2 at *
      go_enter Try.func9, Try.ntmps9
      go_upto_region 1 with fail
      go_quiet (fail)
      go_upto_region 3 with fail
      go_quiet (fail)
      go_wp2
      go_ret
      exact ⟨ret_bool (by rw [HR.out]), below_drewN (Below.refl _ _) _⟩
    · have ds : ((nth L i).siz != (nth L j).siz) = true := by simpa using es
      have HR := hide (betB_siz el es)
      clear el es
      generalize betB L i j = R at *
      generalize (nth L i).lev = l1 at *
      generalize (nth L j).lev = l2 at *
      generalize (nth L i).siz = s1 at *
      generalize (nth L j).siz = s2 at *
      go_enter Try.func9, Try.ntmps9
      go_upto_region 1 with fail
      go_quiet (fail)
      go_upto_region 3 with fail
      go_quiet (fail)
      go_upto_region 4 with fail
      go_quiet (fail)
      go_wp2
      go_ret
      exact ⟨ret_bool (by rw [HR.out]), below_drewN (below_drewN (below_drewN (Below.refl _ _) _) _) _⟩
  · have dl : ((nth L i).lev != (nth L j).lev) = true := by simpa using el
    have HR := hide (betB_lev el)
    clear el
    generalize betB L i j = R at *
    generalize (nth L i).lev = l1 at *
    generalize (nth L j).lev = l2 at *
    generalize (nth L i).siz = s1 at *
    generalize (nth L j).siz = s2 at *
    go_enter Try.func9, Try.ntmps9
    go_upto_region 1 with fail
    go_quiet (fail)
    go_upto_region 2 with fail
    go_quiet (fail)
    go_wp2
    go_ret
    exact ⟨ret_bool (by rw [HR.out]), below_drewN (below_drewN (Below.refl _ _) _) _⟩

end Go.Proofs.Ytbmefipobnamjaa
