/- Contract: a clause in order, and whether it is a tautology. -/
import Derived.Test.YtiddcpemckifmaaWalkG
import Derived.Test.YtiddcpemckifmaaPlain3
set_option linter.unusedVariables false
set_option linter.unusedSimpArgs false
namespace Go.Proofs.Ytiddcpemckifmaa
open Go.RowKit

theorem Row.below {w w' : World} {a : Option Addr} {xs : List Int} (h : Row w a xs) (hb : Below w.heap.size w w') : Row w' a xs := by
  intro i hi
  obtain ⟨b, off, e, hlt, hc⟩ := h i hi
  exact ⟨b, off, e, Nat.lt_of_lt_of_le hlt hb.size, (hb.cell (p := ⟨b, off + i, none⟩) hlt).trans hc⟩

set_option maxHeartbeats 400000 in
theorem norm_no (a : Option Addr) (cap : Nat) (xs : List Int) (w : World) (hr : Row w a xs) (hl : xs.length ≤ maxLen) (hmay : mayB xs 1048576 = false) :
    Calls Try.prog 9 #[.slice a xs.length cap] w fun e w' => e = .returned (.tuple #[.slice none 0 0, .bool false]) ∧ w' = w := by
  have hck := check_any a cap xs w hr hl
  have he : errI (mayB xs 1048576) = 1 := by rw [hmay]; rfl
  rw [he] at hck
  have HC := hide hck
  clear he hck hr
  go_enter Try.func9, Try.ntmps9
  go_wp2_with (go_at_call 11; refine (unhide HC).mono ?_; rintro e w' ⟨rfl, rfl⟩)
  go_ret2
  exact ⟨rfl, rfl⟩

set_option maxHeartbeats 800000 in
theorem norm_yes (a : Option Addr) (cap : Nat) (xs : List Int) (w : World) (hr : Row w a xs) (hl : xs.length ≤ 5000) (hmay : mayB xs 1048576 = true) :
    Calls Try.prog 9 #[.slice a xs.length cap] w fun e w' => ∃ v, e = .returned (.tuple #[v, .bool (tautB xs)]) ∧ Own w.heap.size w' v (order xs) ∧ Below w.heap.size w w' := by
  have hck := check_any a cap xs w hr (by unfold maxLen; omega)
  have he : errI (mayB xs 1048576) = 0 := by rw [hmay]; rfl
  rw [he] at hck
  have HC := hide hck
  have HK := hide (clone_any a cap xs w hr hl)
  have hli := lits_of hmay
  have hol := order_len xs
  have HO := hide (order_ordered xs)
  have HZ := hide (order_nz hmay)
  have HT := hide (order_taut xs)
  have hon := order_lits hli
  clear he hck hr
  go_enter Try.func9, Try.ntmps9
  go_wp2_with fail
  refine (unhide HC).mono ?_
  rintro e w0 ⟨rfl, hw0⟩
  subst w0
  go_wp2_with fail
  refine (unhide HK).mono ?_
  rintro e w1 ⟨v1, rfl, hown1, hbel1⟩
  have HI := hide (inOrder_any w.heap.size v1 xs w1 hown1 hli (by omega) hbel1.size)
  clear hown1 hli HC HK
  go_wp2_with fail
  refine (unhide HI).mono ?_
  rintro e w2 ⟨v2, rfl, hown2, hbel2⟩
  clear HI
  obtain ⟨a2, cap2, rfl, hrow2, hml, hcap2⟩ := hown2.row
  have hbel := hbel1.trans hbel2
  clear hbel1 hbel2
  generalize hns : order xs = ns at *
  have HNS := hide hns
  clear hns
  have HOW := hide hown2
  clear hown2
  unfold maxLen at hml
  go_wp2
  go_loopw [5] (fun i wr => ∃ k n : Nat, 1 ≤ k ∧ (k = 1 ∨ k ≤ ns.length) ∧ i = .int .i64 k ∧ (∀ i (h1 : 1 ≤ i) (h2 : i < ns.length), i < k → ns[i] ≠ -(ns[i - 1]'(by omega))) ∧ wr = w2.drewN n) (fun i _ => ns.length + 1 - (intOf i).toNat)
  case atStart => exact ⟨1, 0, Nat.le_refl _, .inl rfl, rfl, fun i h1 h2 h3 => by omega, rfl⟩
  case round =>
    obtain ⟨k, n, hk1, hk2, rfl, hno, rfl⟩ := hrel
    have HN := hide hno
    clear hno
    by_cases hlt : k < ns.length
    · obtain ⟨b, off, rfl, hb, hc⟩ := hrow2 k hlt
      obtain ⟨b', off', eq, hb', hc'⟩ := hrow2 (k - 1) (by omega)
      cases eq
      clear hrow2
      have hbd := hon (ns[k - 1]'(by omega)) (List.getElem_mem _)
      obtain ⟨hbd1, hbd2⟩ := hbd
      generalize hx : ns[k] = x at *
      generalize hy : ns[k - 1]'(by omega) = y at *
      by_cases he : x = -y
      · have he' : (x == -y) = true := by simp [he]
        have HF : Hid (tautB xs = true) := by show _ = _; rw [← HT.out]; exact taut_side hk1 hlt (by rw [hx, hy]; exact he)
        clear he hx hy
        go_wp2
        go_quiet (fail)
        go_wp2
        go_ret2
        refine ⟨.slice (some ⟨b, off, none⟩) ns.length cap2, ?_, ?_, below_drewN (below_drewN hbel _) _⟩
        · rw [HF.out]; rfl
        · rw [HNS.out]; exact HOW.out
      · have he' : (x == -y) = false := by simp [he]
        have HF : Hid (∀ i (h1 : 1 ≤ i) (h2 : i < ns.length), i < k + 1 → ns[i] ≠ -(ns[i - 1]'(by omega))) := by
          intro i h1 h2 h3
          rcases Nat.lt_or_ge i k with h | h
          · exact HN.out i h1 h2 h
          · have e : i = k := by omega
            subst e
            rw [hx, hy]; exact he
        clear he hx hy HN
        go_wp2
        go_quiet (fail)
        go_wp2
        go_roundw
        case rel => exact ⟨k + 1, _, by omega, .inr (by omega), by go_num, HF.out, rfl⟩
        case measure => simp [intOf]; omega
    · have HF : Hid (tautB xs = false) := by
        show _ = _
        rw [← HT.out]
        exact no_taut HO.out HZ.out fun i h1 h2 => HN.out i h1 h2 (by omega)
      clear hrow2 HN
      go_wp2
      go_ret2
      refine ⟨.slice a2 ns.length cap2, ?_, ?_, below_drewN hbel _⟩
      · rw [HF.out]; rfl
      · rw [HNS.out]; exact HOW.out

end Go.Proofs.Ytiddcpemckifmaa
