/- Contracts of the law: whether a clause is a reason, by the trail. -/
import Derived.Test.YtlmbgaconjcaiaaPlainS
import Derived.Test.YtlmbgaconjcaiaaHd
import Derived.Test.YtlmbgaconjcaiaaId
import Derived.BigQuiet
set_option linter.unusedVariables false
set_option linter.unusedSimpArgs false
namespace Go.Proofs.Ytlmbgaconjcaiaa
open Go.RowKit

section
variable {ρ : Nat → Rl} {w : World} {B : Nat} {H : Hd} {s : PS}

set_option maxHeartbeats 4000000 in
set_option maxRecDepth 100000 in
theorem lawReason_any (h : Rep ρ w B H s) (hI : Inv s) (V : Nat) (a2 a3 a4 : Option Addr) (n2 c2 n3 c3 n4 c4 : Nat) (i : Nat) (hr : ∃ x ∈ s.trail, s.rsnT x = (i : Int)) :
    Calls Try.prog 38 #[.agg #[.pointer (some ⟨B, 0, none⟩), .int .i64 V, .slice a2 n2 c2, .slice a3 n3 c3, .slice a4 n4 c4], .int .i64 i] w fun e w' => e = .returned (.bool true) ∧ Below w.heap.size w w' := by
  have htl : s.trail.length ≤ 1048576 := by have := trail_len hI.tr; have := hI.sz.vars; omega
  have hbW := below_alloc w (.cells #[.pointer (some ⟨B, 0, none⟩), .int .i64 V, .slice a2 n2 c2, .slice a3 n3 c3, .slice a4 n4 c4] 36)
  have hR0 := h.alloc (.cells #[.pointer (some ⟨B, 0, none⟩), .int .i64 V, .slice a2 n2 c2, .slice a3 n3 c3, .slice a4 n4 c4] 36)
  have HK := hide (heap_alloc_new w (.cells #[.pointer (some ⟨B, 0, none⟩), .int .i64 V, .slice a2 n2 c2, .slice a3 n3 c3, .slice a4 n4 c4] 36))
  have TR := hide (propTrail_any hR0 htl)
  have HB0 := hide hbW
  have HH := hide h
  have HS := hide hI.shp
  have HR := hide hr
  clear h hI hbW hR0 hr
  go_enter Try.func38, Try.ntmps38
  go_wp2_with (go_at_call 15; refine (unhide TR).mono ?_; rintro e w2 ⟨v, rfl, ho, hb⟩; obtain ⟨ta, tc, rfl, hrow, hlen, _⟩ := Own.row ho)
  have HB2 := hide (HB0.out.trans (hb.mono HB0.out.size))
  have p0 := (hb.cell (p := ⟨w.heap.size, 0, none⟩) (by simp)).trans (cell_of_block HK.out (i := 0) rfl)
  have HROW := hide hrow
  have HR2 := hide (HH.out.below HB2.out)
  clear HK TR HB0 HH ho hb hrow hlen
  go_loopw [6] (fun j wr => ∃ k : Nat, k ≤ s.trail.length ∧ j = .int .i64 k ∧ Hid (∀ j x, j < k → s.trail[j]? = some x → s.rsnT x ≠ (i : Int)) ∧ Hid (∃ m, wr = w2.drewN m)) (fun j _ => s.trail.length - (intOf j).toNat)
  case atStart => exact ⟨0, Nat.zero_le _, rfl, fun j x hj => by omega, ⟨0, rfl⟩⟩
  case round =>
    obtain ⟨k, hk, rfl, HN, HW⟩ := hrel
    have hRw : Rep ρ wr B H s := by obtain ⟨m, rfl⟩ := HW.out; exact HR2.out.drewN m
    replace p0 : wr.cell? ⟨w.heap.size, 0, none⟩ = some (.pointer (some ⟨B, 0, none⟩)) := by obtain ⟨m, rfl⟩ := HW.out; exact p0
    by_cases hlt : k < s.trail.length
    · obtain ⟨bb, off, rfl, hbb, hcell0⟩ := HROW.out k hlt
      have hcell : wr.cell? ⟨bb, off + k, none⟩ = some (.int .i64 s.trail[k]) := by obtain ⟨m, rfl⟩ := HW.out; exact hcell0
      have hki : (k : Int) < s.trail.length := by omega
      have RS := fun n => hide (propReason_any (hRw.drewN n) HS.out s.trail[k])
      have HX : Hid (s.rsnT s.trail[k] ≠ (i : Int) → ∀ j x, j < k + 1 → s.trail[j]? = some x → s.rsnT x ≠ (i : Int)) := by
        intro hne j x hj hx
        rcases Nat.lt_or_ge j k with c | c
        · exact HN.out j x c hx
        · obtain rfl : j = k := by omega
          rw [List.getElem?_eq_getElem hlt] at hx
          cases hx; exact hne
      clear hcell0 hRw HROW
      generalize s.trail[k] = x at *
      by_cases hA : s.rsnT x = (i : Int)
      · have hA' : (s.rsnT x == (i : Int)) = true := by simpa using hA
        clear hA
        generalize s.rsnT x = y at *
        go_wp2_with fail
        go_quiet (first | (go_at_call 28; exact Calls.quiet_of (unhide (RS _))))
        go_wp2_with fail
        go_ret
        exact ⟨rfl, by obtain ⟨m, rfl⟩ := HW.out; exact ⟨HB2.out.os, HB2.out.tape, HB2.out.output, HB2.out.size, HB2.out.block⟩⟩
      · have hA' : (s.rsnT x == (i : Int)) = false := by simpa using hA
        have HX2 := hide (HX.out hA)
        clear hA HX
        generalize s.rsnT x = y at *
        go_wp2_with fail
        go_quiet (first | (go_at_call 28; exact Calls.quiet_of (unhide (RS _))))
        go_wp2_with fail
        go_roundw
        case rel => exact ⟨k + 1, by omega, by go_num, HX2, by obtain ⟨m, rfl⟩ := HW.out; exact ⟨_, drewN_drewN' _ _ _⟩⟩
        case measure => simp [intOf]; omega
    · exfalso
      obtain ⟨x, hx, he⟩ := HR.out
      obtain ⟨j, hj⟩ := List.mem_iff_getElem?.1 hx
      have hjl : j < s.trail.length := (List.getElem?_eq_some_iff.1 hj).1
      exact HN.out j x (by omega) hj he
end
end Go.Proofs.Ytlmbgaconjcaiaa
