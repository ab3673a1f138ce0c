/- Which formulas there may be, by which models they hold, and which are alike: the law's own text, walked. -/
import Derived.Test.YtiddcpemckifmaaWalkO
import Derived.Deep.RegionHeld3
import Derived.Deep.DrawnRows
set_option linter.unusedVariables false
set_option linter.unusedSimpArgs false
namespace Go.Proofs.Ytiddcpemckifmaa
open Go.RowKit

attribute [local go_sem ↓] Go.wp_at_zero Go.wp_at_succ

/-- Two structs of two cells that were laid, read later. -/
theorem two_boxes {w x : World} {p0 p1 q0 q1 : Value} {t1 t2 : TypeId} (h : Below (w.heap.size + 2) ((w.alloc (.cells #[p0, p1] t1)).alloc (.cells #[q0, q1] t2)) x) :
    x.cell? ⟨w.heap.size, 0, none⟩ = some p0 ∧ x.cell? ⟨w.heap.size, 1, none⟩ = some p1 ∧ x.cell? ⟨w.heap.size + 1, 0, none⟩ = some q0 ∧ x.cell? ⟨w.heap.size + 1, 1, none⟩ = some q1 := by
  refine ⟨?_, ?_, ?_, ?_⟩
  · rw [h.cell (p := ⟨w.heap.size, 0, none⟩) (by show w.heap.size < w.heap.size + 2; omega), World.cell?_alloc_past _ _ _ (by simp), World.cell?_alloc_at _ _ _ _ rfl]; rfl
  · rw [h.cell (p := ⟨w.heap.size, 1, none⟩) (by show w.heap.size < w.heap.size + 2; omega), World.cell?_alloc_past _ _ _ (by simp), World.cell?_alloc_at _ _ _ _ rfl]; rfl
  · rw [h.cell (p := ⟨w.heap.size + 1, 0, none⟩) (by show w.heap.size + 1 < w.heap.size + 2; omega), World.cell?_alloc_at _ _ _ _ (by simp)]; rfl
  · rw [h.cell (p := ⟨w.heap.size + 1, 1, none⟩) (by show w.heap.size + 1 < w.heap.size + 2; omega), World.cell?_alloc_at _ _ _ _ (by simp)]; rfl

theorem sameB_self (n : Int) (xs : List (List Int)) : sameB n xs n xs = true := by simp [sameB, listsB]

set_option maxHeartbeats 4000000 in
theorem holds_light (a b am : Option Addr) (ca cb cm : Nat) (n1 n2 : Int) (xs ys : List (List Int)) (m : List Int) (w : World) (hr : Grid w a xs) (hs : Grid w b ys) (hl : xs.length ≤ maxLen) (hm : ys.length ≤ maxLen) (hq : Row w am m) (hml : m.length ≤ maxLen)
    (h1 : lightB xs = true) (h2 : lightB ys = true) :
    Calls Try.prog 5 #[.agg #[.int .i64 n1, .slice a xs.length ca], .agg #[.int .i64 n2, .slice b ys.length cb], .slice am m.length cm] w fun e w' => e = .returned (.bool true) ∧ Below w.heap.size w w' := by
  have C8 := hide awake_any
  have hbW := below_two w (.cells #[.int .i64 n1, .slice a xs.length ca] 36) (.cells #[.int .i64 n2, .slice b ys.length cb] 36)
  have hszW : ((w.alloc (.cells #[.int .i64 n1, .slice a xs.length ca] 36)).alloc (.cells #[.int .i64 n2, .slice b ys.length cb] 36)).heap.size = w.heap.size + 2 := by simp
  generalize hWW : (w.alloc (.cells #[.int .i64 n1, .slice a xs.length ca] 36)).alloc (.cells #[.int .i64 n2, .slice b ys.length cb] 36) = W at *
  have KB : ∀ x, Below (w.heap.size + 2) W x → Below w.heap.size w x := fun x h => hbW.trans (h.mono (by omega))
  have K1 : ∀ x y, Below (w.heap.size + 2) W x → Below x.heap.size x y → Below (w.heap.size + 2) W y := fun x y h g => h.trans (g.mono (by have := h.size; omega))
  have KF := fun x (h : Below (w.heap.size + 2) W x) => two_boxes (w := w) (by rw [hWW]; exact h)
  have D1 := fun x (h : Below (w.heap.size + 2) W x) => (light_any a ca n1 xs x (hr.below (KB x h)) hl).mono (fun e y ⟨he, g⟩ => (⟨he, K1 x y h g⟩ : _ ∧ Below (w.heap.size + 2) W y))
  have D2 := fun x (h : Below (w.heap.size + 2) W x) => (light_any b cb n2 ys x (hs.below (KB x h)) hm).mono (fun e y ⟨he, g⟩ => (⟨he, K1 x y h g⟩ : _ ∧ Below (w.heap.size + 2) W y))
  have D3 := fun x (h : Below (w.heap.size + 2) W x) => (litSame_any a b ca cb n1 n2 xs ys x (hr.below (KB x h)) (hs.below (KB x h)) hl hm).mono (fun e y ⟨he, g⟩ => (⟨he, K1 x y h g⟩ : _ ∧ Below (w.heap.size + 2) W y))
  have D4 := fun x (h : Below (w.heap.size + 2) W x) => (refSame_any a b ca cb n1 n2 xs ys x (hr.below (KB x h)) (hs.below (KB x h)) hl hm).mono (fun e y ⟨he, g⟩ => (⟨he, K1 x y h g⟩ : _ ∧ Below (w.heap.size + 2) W y))
  have D5 := fun x (h : Below (w.heap.size + 2) W x) => (litSame_any a a ca ca n1 n1 xs xs x (hr.below (KB x h)) (hr.below (KB x h)) hl hl).mono (fun e y ⟨he, g⟩ => (⟨he, K1 x y h g⟩ : _ ∧ Below (w.heap.size + 2) W y))
  have D6 := fun x (h : Below (w.heap.size + 2) W x) => (refCnf_any a ca n1 xs x (hr.below (KB x h)) hl).mono (fun e y ⟨he, g⟩ => (⟨he, K1 x y h g⟩ : _ ∧ Below (w.heap.size + 2) W y))
  have D7 := fun x (h : Below (w.heap.size + 2) W x) => (checkCnf_any a ca n1 xs x (hr.below (KB x h)) hl).mono (fun e y ⟨he, g⟩ => (⟨he, K1 x y h g⟩ : _ ∧ Below (w.heap.size + 2) W y))
  have D9 := fun x (h : Below (w.heap.size + 2) W x) => (awake_any x).mono (fun e y ⟨he, g⟩ => (⟨he, K1 x y h g⟩ : _ ∧ Below (w.heap.size + 2) W y))
  have D10 := fun (hc : cnfB n1 xs = false) x (h : Below (w.heap.size + 2) W x) => (litHolds_no a am ca cm n1 xs m x (hr.below (KB x h)) hl hc).mono (fun e y ⟨he, g⟩ => (⟨he, K1 x y h g⟩ : _ ∧ Below (w.heap.size + 2) W y))
  have D11 := fun (hc : cnfB n1 xs = true) x (h : Below (w.heap.size + 2) W x) => (litHolds_yes a am ca cm n1 xs m x (hr.below (KB x h)) hl (hq.below (KB x h)) hml hc).mono (fun e y ⟨he, g⟩ => (⟨he, K1 x y h g⟩ : _ ∧ Below (w.heap.size + 2) W y))
  have D12 := fun x (h : Below (w.heap.size + 2) W x) => (refHolds_any a am ca cm n1 xs m x (hr.below (KB x h)) hl (hq.below (KB x h)) hml).mono (fun e y ⟨he, g⟩ => (⟨he, K1 x y h g⟩ : _ ∧ Below (w.heap.size + 2) W y))
  rw [h1] at D1
  rw [h2] at D2
  rw [sameB_self] at D5
  have HWW := hide hWW
  have HKF := hide KF
  have HKB := hide KB
  have h0 : Below (w.heap.size + 2) W W := Below.refl _ _
  replace D1 := hide D1
  replace D2 := hide D2
  replace D5 := hide D5
  replace D6 := hide D6
  replace D7 := hide D7
  replace D9 := hide D9
  replace D10 := hide D10
  replace D11 := hide D11
  replace D12 := hide D12
  clear hWW KF KB K1 hr hs hl hm hq hml h1 h2 hbW hszW
  generalize hsame : sameB n1 xs n2 ys = sm at *
  clear hsame
  replace D3 := hide D3
  replace D4 := hide D4
  go_enter Try.func5, Try.ntmps5
  go_wp2_with fail
  rw [HWW.out]
  refine (unhide D1 _ h0).mono ?_
  rintro e x1 ⟨rfl, hb1⟩
  obtain ⟨f1, f2, f3, f4⟩ := HKF.out x1 hb1
  go_wp2_with fail
  refine (unhide D2 _ hb1).mono ?_
  rintro e x2 ⟨rfl, hb2⟩
  clear f1 f2 f3 f4 hb1
  obtain ⟨f1, f2, f3, f4⟩ := HKF.out x2 hb2
  go_wp2_with fail
  have hsm : (sm != sm) = false := by simp
  go_region_held3 (fun x => (x.cell? ⟨w.heap.size, 0, none⟩ = some (.int .i64 n1) ∧ x.cell? ⟨w.heap.size, 1, none⟩ = some (.slice a xs.length ca) ∧ x.cell? ⟨w.heap.size + 1, 0, none⟩ = some (.int .i64 n2) ∧ x.cell? ⟨w.heap.size + 1, 1, none⟩ = some (.slice b ys.length cb)) ∧ Below (w.heap.size + 2) W x)
    (first | exact ⟨HKF.out _ hb2, hb2⟩ | exact ⟨HKF.out _ hb2.drew, hb2.drew⟩ | exact ⟨HKF.out _ (by assumption), by assumption⟩)
    (first
      | (go_at_call_of 21 (Value.agg #[Value.int IntKind.i64 n2, Value.slice b ys.length cb]); refine (unhide D3 _ ?_).mono ?_; (simp [*]); rintro e x3 ⟨rfl, hb3⟩)
      | (go_at_call 22; refine (unhide D4 _ ?_).mono ?_; (simp [*]); rintro e x4 ⟨rfl, hb4⟩)
      | (go_at_call 21; refine (unhide D5 _ ?_).mono ?_; (simp [*]); rintro e x5 ⟨rfl, hb5⟩))
  clear f1 f2 f3 f4 D3 D4 D5 D1 D2 hb2 hb3 hb4
  obtain ⟨f1, f2, f3, f4⟩ := HKF.out x5 hb5
  by_cases hc : cnfB n1 xs = true
  case neg =>
    have hc' : cnfB n1 xs = false := by simpa using hc
    replace D10 := hide (unhide D10 hc')
    have E6 := unhide D6
    have E7 := unhide D7
    rw [hc'] at E6 E7
    replace E6 := hide E6
    replace E7 := hide E7
    clear D6 D7 D11 D12 hc hc'
    go_wp2_with fail
    refine (unhide E6 _ hb5).mono ?_
    rintro e x6 ⟨rfl, hb6⟩
    clear f1 f2 f3 f4 hb5
    obtain ⟨f1, f2, f3, f4⟩ := HKF.out x6 hb6
    go_wp2_with fail
    refine (unhide E7 _ hb6).mono ?_
    rintro e x7 ⟨rfl, hb7⟩
    clear f1 f2 f3 f4 hb6
    obtain ⟨f1, f2, f3, f4⟩ := HKF.out x7 hb7
    simp only [errI, Bool.false_eq_true, if_false]
    go_wp2_with fail
    refine (unhide D10 _ hb7).mono ?_
    rintro e x8 ⟨rfl, hb8⟩
    go_wp2_with fail
    refine (unhide D9 _ hb8).mono ?_
    rintro e x9 ⟨rfl, hb9⟩
    go_wp2
    go_ret
    exact ⟨rfl, HKB.out x9 hb9⟩
  replace D11 := hide (unhide D11 hc)
  have E6 := unhide D6
  have E7 := unhide D7
  rw [hc] at E6 E7
  replace E6 := hide E6
  replace E7 := hide E7
  clear D6 D7 D10 hc
  generalize holdsB m xs = hb at *
  go_wp2_with fail
  refine (unhide E6 _ hb5).mono ?_
  rintro e x6 ⟨rfl, hb6⟩
  clear f1 f2 f3 f4 hb5
  obtain ⟨f1, f2, f3, f4⟩ := HKF.out x6 hb6
  go_wp2_with fail
  have hsm2 : (hb == hb) = true := by simp
  simp only [errI, if_true] at E7
  go_region_held3 (fun x => (x.cell? ⟨w.heap.size, 0, none⟩ = some (.int .i64 n1) ∧ x.cell? ⟨w.heap.size, 1, none⟩ = some (.slice a xs.length ca) ∧ x.cell? ⟨w.heap.size + 1, 0, none⟩ = some (.int .i64 n2) ∧ x.cell? ⟨w.heap.size + 1, 1, none⟩ = some (.slice b ys.length cb)) ∧ Below (w.heap.size + 2) W x)
    (first | exact ⟨HKF.out _ hb6, hb6⟩ | exact ⟨HKF.out _ hb6.drew, hb6.drew⟩ | exact ⟨HKF.out _ (by assumption), by assumption⟩)
    (first
      | (go_at_call 24; refine (unhide E7 _ ?_).mono ?_; (simp [*]); rintro e x7 ⟨rfl, hb7⟩)
      | (go_at_call 25; refine (unhide D11 _ ?_).mono ?_; (simp [*]); rintro e x8 ⟨rfl, hb8⟩)
      | (go_at_call 26; refine (unhide D12 _ ?_).mono ?_; (simp [*]); rintro e x9 ⟨rfl, hb9⟩)
      | (go_at_call 8; refine (unhide D9 _ ?_).mono ?_; (simp [*]); rintro e x10 ⟨rfl, hb10⟩))
  go_wp2
  go_ret
  exact ⟨rfl, HKB.out x10 hb10⟩

set_option maxHeartbeats 1000000 in
theorem holds_dark (a b am : Option Addr) (ca cb cm : Nat) (n1 n2 : Int) (xs ys : List (List Int)) (m : List Int) (w : World) (hr : Grid w a xs) (hs : Grid w b ys) (hl : xs.length ≤ maxLen) (hm : ys.length ≤ maxLen)
    (h : (lightB xs && lightB ys) = false) :
    Calls Try.prog 5 #[.agg #[.int .i64 n1, .slice a xs.length ca], .agg #[.int .i64 n2, .slice b ys.length cb], .slice am m.length cm] w fun e w' => e = .returned (.bool true) ∧ Below w.heap.size w w' := by
  have C8 := hide awake_any
  have hbW := below_two w (.cells #[.int .i64 n1, .slice a xs.length ca] 36) (.cells #[.int .i64 n2, .slice b ys.length cb] 36)
  have C1 := light_any a ca n1 xs _ (hr.below hbW) hl
  have C2 := fun y (g : Below w.heap.size w y) => light_any b cb n2 ys y (hs.below g) hm
  have F0 := fun y (g : Below (w.heap.size + 2) ((w.alloc (.cells #[.int .i64 n1, .slice a xs.length ca] 36)).alloc (.cells #[.int .i64 n2, .slice b ys.length cb] 36)) y) => two_boxes (w := w) g
  replace C2 := hide C2
  replace F0 := hide F0
  replace C1 := hide C1
  have HB := hide hbW
  clear hr hs hl hm hbW
  by_cases h1 : lightB xs = true
  case neg =>
    have h1' : lightB xs = false := by simpa using h1
    rw [h1'] at C1
    clear h h1 h1' C2
    go_enter Try.func5, Try.ntmps5
    go_wp2_with fail
    refine (unhide C1).mono ?_
    rintro e x1 ⟨rfl, hb1⟩
    have hB1 := HB.out.trans (hb1.mono (by simp; omega))
    go_wp2_with fail
    refine (unhide C8 _).mono ?_
    rintro e x2 ⟨rfl, hb2⟩
    go_wp2
    go_ret
    exact ⟨rfl, hB1.trans (hb2.mono hB1.size)⟩
  rw [h1] at C1 h
  rw [Bool.true_and] at h
  rw [h] at C2
  clear h h1
  go_enter Try.func5, Try.ntmps5
  go_wp2_with fail
  refine (unhide C1).mono ?_
  rintro e x1 ⟨rfl, hb1⟩
  have hB1 := HB.out.trans (hb1.mono (by simp; omega))
  obtain ⟨f1, f2, f3, f4⟩ := F0.out x1 (hb1.mono (by simp))
  have C3 := hide (unhide C2 x1 hB1)
  clear C2 C1 F0
  go_wp2_with fail
  refine (unhide C3).mono ?_
  rintro e x2 ⟨rfl, hb2⟩
  have hB2 := hB1.trans (hb2.mono hB1.size)
  clear C3 hb2 hb1
  go_wp2_with fail
  refine (unhide C8 _).mono ?_
  rintro e x3 ⟨rfl, hb3⟩
  go_wp2
  go_ret
  exact ⟨rfl, hB2.trans (hb3.mono hB2.size)⟩

end Go.Proofs.Ytiddcpemckifmaa
