/- Nobody's purse; its law, walked. -/
import Derived.Test.YtjijikkcpnojcaaWalkV
set_option linter.unusedVariables false
set_option linter.unusedSimpArgs false
namespace Go.Proofs.Ytjijikkcpnojcaa
open Go.RowKit Go.Conc

/-- No purse, or one that New did not give. -/
def Nob (w : World) (z : Value) : Prop := z = .pointer none ∨ ∃ B, z = .pointer (some ⟨B, 0, none⟩) ∧ w.cell? ⟨B, 0, none⟩ = some (.pointer none)
theorem Nob.drewN {w : World} {z : Value} (h : Nob w z) (m : Nat) : Nob (w.drewN m) z := h

theorem run_eql_none_ptr (w : World) {tp te : TypeId} (a : Addr) (hp : Try.prog.underlying tp = some (.pointer te)) :
    (binOp .eql tp (.pointer none) (.pointer (some a))).run Try.prog w = .ok (.bool false) w := by
  have h : ∀ d : Nat, (Op.equalIn (d + 1) tp (.pointer none) (.pointer (some a))).run Try.prog w = .ok false w := fun d => by
    simp [Op.equalIn, run_underlying hp, sizeOf, typeInfo]
  simp only [binOp]
  simp [Op.equal, Op.maxDepth, h 9999]

set_option maxHeartbeats 400000 in
theorem given_nob {w : World} {z : Value} (h : Nob w z) : Calls Try.prog 21 #[z] w fun e w' => e = .returned (.bool false) ∧ w' = w := by
  rcases h with rfl | ⟨B, rfl, hc⟩
  · go_enter Try.func21, Try.ntmps21
    go_wp2
    all_goals
      go_ret
      exact ⟨rfl, rfl⟩
  · have he := run_eql_none_ptr w ⟨B, 0, none⟩ Try.underlying25
    go_enter Try.func21, Try.ntmps21
    go_wp2
    all_goals
      go_ret
      exact ⟨rfl, rfl⟩
set_option maxHeartbeats 400000 in
theorem kind_nob {w : World} {z : Value} (h : Nob w z) (k : Int) : Calls Try.prog 22 #[z, .int .i64 k] w fun e w' => e = .returned (.bool false) ∧ w' = w := by
  have G := hide (given_nob h)
  rcases h with rfl | ⟨B, rfl, hc⟩
  all_goals
    go_enter Try.func22, Try.ntmps22
    go_wp2_with (first | (go_at_call 21; refine (unhide G).mono ?_; rintro e w0 ⟨rfl, hw0⟩; subst w0))
    all_goals
      go_ret
      exact ⟨rfl, rfl⟩
set_option maxHeartbeats 400000 in
theorem any_nob {w : World} {z : Value} (h : Nob w z) : Calls Try.prog 11 #[z] w fun e w' => e = .returned (.tuple #[.int .i64 0, .bool false]) ∧ w' = w := by
  have G := hide (given_nob h)
  rcases h with rfl | ⟨B, rfl, hc⟩
  all_goals
    go_enter Try.func11, Try.ntmps11
    go_wp2
    go_step3
    go_wp2_with (first | (go_at_call 21; refine (unhide G).mono ?_; rintro e w0 ⟨rfl, hw0⟩; subst w0))
    rw [Exit.noGoto_ret]
    go_ret2
    exact ⟨rfl, rfl⟩
set_option maxHeartbeats 400000 in
theorem left_nob {w : World} {z : Value} (h : Nob w z) (k : Int) : Calls Try.prog 12 #[z, .int .i64 k] w fun e w' => e = .returned (.int .i64 0) ∧ w' = w := by
  have G := hide (kind_nob h k)
  rcases h with rfl | ⟨B, rfl, hc⟩
  all_goals
    go_enter Try.func12, Try.ntmps12
    go_wp2_with (first | (go_at_call 22; refine (unhide G).mono ?_; rintro e w0 ⟨rfl, hw0⟩; subst w0))
    all_goals
      go_ret
      exact ⟨rfl, rfl⟩
set_option maxHeartbeats 400000 in
theorem take_nob {w : World} {z : Value} (h : Nob w z) (k n : Int) : Calls Try.prog 13 #[z, .int .i64 k, .int .i64 n] w fun e w' => e = .returned (.int .i64 1) ∧ w' = w := by
  have G := hide (kind_nob h k)
  rcases h with rfl | ⟨B, rfl, hc⟩
  all_goals
    go_enter Try.func13, Try.ntmps13
    go_wp2_with (first | (go_at_call 22; refine (unhide G).mono ?_; rintro e w0 ⟨rfl, hw0⟩; subst w0))
    all_goals
      go_ret
      exact ⟨rfl, rfl⟩
set_option maxHeartbeats 400000 in
theorem give_nob {w : World} {z : Value} (h : Nob w z) (k n : Int) : Calls Try.prog 14 #[z, .int .i64 k, .int .i64 n] w fun e w' => e = .returned (.int .i64 1) ∧ w' = w := by
  have G := hide (kind_nob h k)
  rcases h with rfl | ⟨B, rfl, hc⟩
  all_goals
    go_enter Try.func14, Try.ntmps14
    go_wp2_with (first | (go_at_call 22; refine (unhide G).mono ?_; rintro e w0 ⟨rfl, hw0⟩; subst w0))
    all_goals
      go_ret
      exact ⟨rfl, rfl⟩
set_option maxHeartbeats 400000 in
theorem spent_nob {w : World} {z : Value} (h : Nob w z) : Calls Try.prog 15 #[z] w fun e w' => e = .returned (.int .i64 0) ∧ w' = w := by
  have G := hide (given_nob h)
  rcases h with rfl | ⟨B, rfl, hc⟩
  all_goals
    go_enter Try.func15, Try.ntmps15
    go_wp2_with (first | (go_at_call 21; refine (unhide G).mono ?_; rintro e w0 ⟨rfl, hw0⟩; subst w0))
    all_goals
      go_ret
      exact ⟨rfl, rfl⟩

set_option maxHeartbeats 4000000 in
theorem nobody_any (w : World) (d k n : Int) : Calls Try.prog 5 #[.agg #[.int .i64 d, .int .i64 k, .int .i64 n]] w fun e w' => e = .returned (.bool true) ∧ Below w.heap.size w w' := by
  go_enter Try.func5, Try.ntmps5
  go_wp2
  have hA0 : (w.alloc (.cells #[.int .i64 d, .int .i64 k, .int .i64 n] 40)).heap[w.heap.size]? = some (.cells #[.int .i64 d, .int .i64 k, .int .i64 n] 40 (0, 0)) := heap_alloc_new w _
  have hb0 : Below w.heap.size w (w.alloc (.cells #[.int .i64 d, .int .i64 k, .int .i64 n] 40)) := (Below.refl _ _).alloc (Nat.le_refl _) _
  refine forget (P := fun W => Code.wp Try.prog _ _ _ W) (fun W => Hid (W.heap[w.heap.size]? = some (.cells #[.int .i64 d, .int .i64 k, .int .i64 n] 40 (0, 0))) ∧ Hid (Below w.heap.size w W)) ⟨hA0, hb0⟩ ?_
  clear hA0 hb0
  rintro W0 ⟨HA0, HB0⟩
  obtain ⟨A, hA⟩ : ∃ A, A = w.heap.size := ⟨_, rfl⟩
  rw [← hA] at HA0 ⊢
  clear hA
  go_loopw [3] (fun x W => ∃ i : Nat, i ≤ 2 ∧ x = .int .i64 (i : Int) ∧ Hid (W.heap[A]? = some (.cells #[.int .i64 d, .int .i64 k, .int .i64 n] 40 (0, 0))) ∧ Hid (Below w.heap.size w W)) (fun x _ => 2 - (intOf x).toNat)
  case atStart => exact ⟨0, by omega, rfl, HA0, HB0⟩
  case round =>
    clear HA0 HB0
    obtain ⟨i, hi, rfl, HA, HB⟩ := hrel
    have rest : Hid (∀ (W : World) (z : Value), Nob W z → Calls Try.prog 11 #[z] W (fun e w' => e = .returned (.tuple #[.int .i64 0, .bool false]) ∧ w' = W) ∧ Calls Try.prog 12 #[z, .int .i64 k] W (fun e w' => e = .returned (.int .i64 0) ∧ w' = W) ∧ Calls Try.prog 13 #[z, .int .i64 k, .int .i64 n] W (fun e w' => e = .returned (.int .i64 1) ∧ w' = W) ∧ Calls Try.prog 14 #[z, .int .i64 k, .int .i64 n] W (fun e w' => e = .returned (.int .i64 1) ∧ w' = W) ∧ Calls Try.prog 15 #[z] W (fun e w' => e = .returned (.int .i64 0) ∧ w' = W)) :=
      fun W z h => ⟨any_nob h, left_nob h k, take_nob h k n, give_nob h k n, spent_nob h⟩
    by_cases h2 : i < 2
    · by_cases h1 : i = 1
      · subst h1
        go_upto_region 7 with fail
        have hcB : (wr.alloc (.cells #[.pointer none, .slice none 0 0, .int .i64 0, .int .i64 0] 43)).cell? ⟨wr.heap.size, 0, none⟩ = some (.pointer none) := by
          have h0 : (wr.alloc (.cells #[.pointer none, .slice none 0 0, .int .i64 0, .int .i64 0] 43)).heap[wr.heap.size]? = _ := heap_alloc_new wr _
          simp only [World.cell?, h0]; rfl
        have hA2 : (wr.alloc (.cells #[.pointer none, .slice none 0 0, .int .i64 0, .int .i64 0] 43)).heap[A]? = some (.cells #[.int .i64 d, .int .i64 k, .int .i64 n] 40 (0, 0)) := (heap_alloc_old wr _ (lt_of_block HA.out)).trans HA.out
        have hB2 : Below w.heap.size w (wr.alloc (.cells #[.pointer none, .slice none 0 0, .int .i64 0, .int .i64 0] 43)) := HB.out.alloc HB.out.size _
        refine forget (P := fun W => Code.wp Try.prog _ _ _ W) (fun W => Hid (W.cell? ⟨wr.heap.size, 0, none⟩ = some (.pointer none)) ∧ Hid (W.heap[A]? = some (.cells #[.int .i64 d, .int .i64 k, .int .i64 n] 40 (0, 0))) ∧ Hid (Below w.heap.size w W)) ⟨hcB, hA2, hB2⟩ ?_
        clear hcB hA2 hB2 HA HB
        generalize wr.heap.size = B
        rintro W1 ⟨HC, HA, HB⟩
        obtain ⟨g11, g12, g13, g14, g15⟩ := rest.out W1 (.pointer (some ⟨B, 0, none⟩)) (.inr ⟨B, rfl, HC.out⟩)
        have G11 := hide g11
        have G12 := hide g12
        have G13 := hide g13
        have G14 := hide g14
        have G15 := hide g15
        clear g11 g12 g13 g14 g15 rest
        have a1 : W1.cell? ⟨A, 1, none⟩ = some (.int .i64 k) := by simp [World.cell?, HA.out]
        have a2 : W1.cell? ⟨A, 2, none⟩ = some (.int .i64 n) := by simp [World.cell?, HA.out]
        go_wp2_with (first | (go_at_call 11; refine (unhide G11).mono ?_; rintro e w0 ⟨rfl, hw0⟩; subst w0) | (go_at_call 12; refine (unhide G12).mono ?_; rintro e w0 ⟨rfl, hw0⟩; subst w0) | (go_at_call 13; refine (unhide G13).mono ?_; rintro e w0 ⟨rfl, hw0⟩; subst w0) | (go_at_call 14; refine (unhide G14).mono ?_; rintro e w0 ⟨rfl, hw0⟩; subst w0) | (go_at_call 15; refine (unhide G15).mono ?_; rintro e w0 ⟨rfl, hw0⟩; subst w0))
        go_roundw
        case rel => exact ⟨2, by omega, rfl, HA, HB⟩
        case measure => simp [intOf]
      · have h0 : i = 0 := by omega
        subst h0
        obtain ⟨g11, g12, g13, g14, g15⟩ := rest.out wr (.pointer none) (.inl rfl)
        have G11 := hide g11
        have G12 := hide g12
        have G13 := hide g13
        have G14 := hide g14
        have G15 := hide g15
        clear g11 g12 g13 g14 g15 rest
        have a1 : wr.cell? ⟨A, 1, none⟩ = some (.int .i64 k) := by simp [World.cell?, HA.out]
        have a2 : wr.cell? ⟨A, 2, none⟩ = some (.int .i64 n) := by simp [World.cell?, HA.out]
        go_wp2_with (first | (go_at_call 11; refine (unhide G11).mono ?_; rintro e w0 ⟨rfl, hw0⟩; subst w0) | (go_at_call 12; refine (unhide G12).mono ?_; rintro e w0 ⟨rfl, hw0⟩; subst w0) | (go_at_call 13; refine (unhide G13).mono ?_; rintro e w0 ⟨rfl, hw0⟩; subst w0) | (go_at_call 14; refine (unhide G14).mono ?_; rintro e w0 ⟨rfl, hw0⟩; subst w0) | (go_at_call 15; refine (unhide G15).mono ?_; rintro e w0 ⟨rfl, hw0⟩; subst w0))
        go_roundw
        case rel => exact ⟨1, by omega, rfl, HA, HB⟩
        case measure => simp [intOf]
    · have hi2 : i = 2 := by omega
      subst hi2
      have GW := hide (awake_any wr)
      go_wp2_with (first | (go_at_call 8; refine (unhide GW).mono ?_; rintro e w3 ⟨rfl, hb3⟩))
      go_ret
      exact ⟨rfl, HB.out.trans (hb3.mono HB.out.size)⟩
end Go.Proofs.Ytjijikkcpnojcaa
