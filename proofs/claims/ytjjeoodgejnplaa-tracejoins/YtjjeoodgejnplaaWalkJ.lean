/- Contracts: whether steps, and proofs, are alike (the program's way). -/
import Derived.Test.YtjjeoodgejnplaaWalkI
set_option linter.unusedVariables false
set_option linter.unusedSimpArgs false
namespace Go.Proofs.Ytjjeoodgejnplaa
open Go.RowKit Go.Maps

attribute [local go_sem ↓] Go.wp_at_zero Go.wp_at_succ

theorem below_two (w : World) (o p : Obj) : Below w.heap.size w ((w.alloc o).alloc p) := ((Below.refl _ _).alloc (Nat.le_refl _) _).alloc (by simp) _

def stpB (x y : Stp) : Bool := decide (x = y)

theorem stpB_eq (x y : Stp) : stpB x y = (decide (x.1 = y.1) && intsB x.2 y.2) := by
  unfold stpB intsB
  rw [Bool.eq_iff_iff]
  simp [Prod.ext_iff]

set_option maxHeartbeats 800000 in
theorem sameStep_any (x y : Stp) (a b : Option Addr) (ca cb : Nat) (w : World) (hr : Row w a x.2) (hs : Row w b y.2) (hl : x.2.length ≤ maxLen) (hm : y.2.length ≤ maxLen) :
    Calls Try.prog 22 #[.agg #[.bool x.1, .slice a x.2.length ca], .agg #[.bool y.1, .slice b y.2.length cb]] w fun e w' => e = .returned (.bool (stpB x y)) ∧ Below w.heap.size w w' := by
  have hb := below_two w (.cells #[.bool x.1, .slice a x.2.length ca] 33) (.cells #[.bool y.1, .slice b y.2.length cb] 33)
  have C := equal_any a b ca cb x.2 y.2 _ (hr.below hb) (hs.below hb) hl hm
  have HB := hide hb
  have HE := hide (stpB_eq x y)
  clear hr hs hb
  unfold maxLen at hl hm
  cases d1 : x.1 <;> cases d2 : y.1
  all_goals
    rw [d1] at C HE HB
    rw [d2] at C HE HB
    clear d1 d2
    replace C := hide C
    generalize x.2.length = n1 at *
    generalize y.2.length = n2 at *
    go_enter Try.func22, Try.ntmps22
    go_wp2_with (go_at_call 24; refine (unhide C).mono ?_; rintro e w0 ⟨rfl, m0, hw0⟩; subst w0)
    go_ret
    exact ⟨ret_bool (by rw [HE.out]; simp), by first | exact HB.out | exact below_drewN HB.out⟩

set_option maxHeartbeats 1600000 in
theorem equalFunc_any (a b : Option Addr) (ca cb : Nat) (l m : List Stp) (w : World) (hr : Steps w a l) (hs : Steps w b m) (hl : l.length ≤ maxLen) (hm : m.length ≤ maxLen) :
    Calls Try.prog 21 #[.slice a l.length ca, .slice b m.length cb, .func (.func 22) #[] #[]] w fun e w' => e = .returned (.bool (sameB l m)) ∧ Below w.heap.size w w' := by
  unfold maxLen at hl hm
  by_cases hne : (l.length : Int) = m.length
  case neg =>
    have hb : ((l.length : Int) != m.length) = true := by rw [bne_iff_ne]; exact hne
    clear hr hs
    go_enter Try.func21, Try.ntmps21
    go_wp2
    go_ret
    exact ⟨ret_bool (by simp only [sameB]; symm; rw [decide_eq_false_iff_not]; intro h; apply hne; rw [h]), Below.refl _ _⟩
  have hb : ((l.length : Int) != m.length) = false := by simp [hne]
  have hyl : l.length ≤ m.length := by omega
  have HE : Hid (l.length = m.length) := by show l.length = m.length; omega
  clear hne
  go_enter Try.func21, Try.ntmps21
  go_wp2
  go_loopw [17] (fun i wr => ∃ k : Nat, k ≤ l.length ∧ i = .int .i64 k ∧ l.take k = m.take k ∧ Below w.heap.size w wr) (fun i _ => l.length - (intOf i).toNat)
  case atStart => exact ⟨0, Nat.zero_le _, rfl, rfl, Below.refl _ _⟩
  case round =>
    obtain ⟨k, hk, rfl, hno, hB⟩ := hrel
    have HN := hide hno
    clear hno
    by_cases hlt : k < l.length
    · obtain ⟨b1, off1, a1, c1, rfl, hb1, hx1, hy1, hr1, hm1⟩ := (hr.below hB) k hlt
      obtain ⟨b2, off2, a2, c2, rfl, hb2, hx2, hy2, hr2, hm2⟩ := (hs.below hB) k (by omega)
      have hb3 := below_two wr (.cells #[.bool l[k].1, .slice a1 l[k].2.length c1] 33) (.cells #[.bool m[k].1, .slice a2 m[k].2.length c2] 33)
      have C := sameStep_any l[k] m[k] a1 a2 c1 c2 _ (hr1.below hb3) (hr2.below hb3) hm1 hm2
      have hlt' : (k : Int) < l.length := by omega
      have hlt2 : (k : Int) < m.length := by omega
      have hltn : k < m.length := by omega
      have HB := hide (hB.trans (hb3.mono hB.size))
      have HX : Hid (stpB l[k] m[k] = true → l[k] = m[k]) := fun e => of_decide_eq_true e
      have HY : Hid (stpB l[k] m[k] = false → sameB l m = false) := fun e => same_no hlt hltn (of_decide_eq_false e)
      have hsz : wr.heap.size ≤ ((wr.alloc (.cells #[.bool l[k].1, .slice a1 l[k].2.length c1] 33)).alloc (.cells #[.bool m[k].1, .slice a2 m[k].2.length c2] 33)).heap.size := by simp; omega
      have HSZ := hide (Nat.le_trans hB.size hsz)
      clear hr hs hr1 hr2 hb3 hB hb hsz
      unfold maxLen at hm1 hm2
      cases hst : stpB l[k] m[k]
      all_goals
        rw [hst] at C
        first
          | (have HQ := hide (HX.out hst); clear HX HY)
          | (have HQ := hide (HY.out hst); clear HX HY)
        clear hst
        generalize l[k].1 = d1 at *
        generalize m[k].1 = d2 at *
        generalize l[k].2.length = n1 at *
        generalize m[k].2.length = n2 at *
        replace C := hide C
        go_wp2_with (go_at_call 22; refine (unhide C).mono ?_; rintro e w3 ⟨rfl, hb4⟩)
        first
          | (go_ret
             exact ⟨ret_bool HQ.out.symm, HB.out.trans (hb4.mono HSZ.out)⟩)
          | (go_roundw
             case rel => exact ⟨k + 1, by omega, by go_num, takeS_snoc hlt hltn HN.out HQ.out, HB.out.trans (hb4.mono HSZ.out)⟩
             case measure => simp [intOf]; omega)
    · have hz : l.length ≤ k := by omega
      have HB := hide hB
      clear hr hs hB
      go_wp2
      go_ret
      refine ⟨ret_bool ?_, HB.out⟩
      have h := HN.out
      rw [List.take_of_length_le hz, List.take_of_length_le (by have := HE.out; omega)] at h
      simp [sameB, h]

set_option maxHeartbeats 400000 in
theorem same_any (a b : Option Addr) (ca cb : Nat) (l m : List Stp) (w : World) (hr : Steps w a l) (hs : Steps w b m) (hl : l.length ≤ maxLen) (hm : m.length ≤ maxLen) :
    Calls Try.prog 12 #[.slice a l.length ca, .slice b m.length cb] w fun e w' => e = .returned (.bool (sameB l m)) ∧ Below w.heap.size w w' := by
  have C := hide (equalFunc_any a b ca cb l m w hr hs hl hm)
  clear hr hs
  unfold maxLen at hl hm
  go_enter Try.func12, Try.ntmps12
  go_wp2_with (go_at_call 21; refine (unhide C).mono ?_; rintro e w1 ⟨rfl, hb1⟩)
  go_ret
  exact ⟨rfl, hb1⟩

end Go.Proofs.Ytjjeoodgejnplaa
