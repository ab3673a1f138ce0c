/- Contracts: whether a clause is a reason. -/
import Derived.Test.YtlmbgaconjcaiabGreatGb
set_option linter.unusedVariables false
set_option linter.unusedSimpArgs false
namespace Go.Proofs.YtlmbgaconjcaiabGreat
open Go.RowKit

def PS.rsnB (s : PS) (i : Nat) (ls : List Int) : Bool := ls.any (fun x => s.val x == 1 && (s.fct x).2.2 == (i : Int))

section
variable {ρ : Nat → Rl} {w : World} {B : Nat} {H : Hd} {s : PS}

theorem drewN_drewN' (w : World) (m n : Nat) : (w.drewN m).drewN n = w.drewN (m + n) := by simp [World.drewN, Nat.add_assoc]

theorem rsnB_drop {i k : Nat} {ls : List Int} (hk : k < ls.length) : s.rsnB i (ls.drop k) = ((s.val ls[k] == 1 && (s.fct ls[k]).2.2 == (i : Int)) || s.rsnB i (ls.drop (k + 1))) := by
  unfold PS.rsnB
  rw [List.drop_eq_getElem_cons hk]; rfl

set_option maxHeartbeats 2000000 in
set_option maxRecDepth 100000 in
theorem isReason_any (h : Rep ρ w B H s) (hS : Shp s) (i : Nat) (c : Cl) (hc : s.cls[i]? = some c) (hl : ∀ x ∈ c.lits, Lt s.vars x) :
    Calls Tryz.prog 72 #[.pointer (some ⟨B, 0, none⟩), .pointer (some ⟨H.cb i, 0, none⟩)] w fun e w' => e = .returned (.bool (s.rsnB i c.lits)) ∧ ∃ n, w' = w.drewN n := by
  have hV := hS.vars
  obtain ⟨o0, o1, _, _, _, _, hol, hoB⟩ := h.obj hc
  obtain ⟨a, cap, er, hrow, hrm, _⟩ := h.lits hc
  rw [er] at o1
  have VV := fun (x : Int) (hx : Lt s.vars x) (m : Nat) => hide (value_any (h.drewN m) x hx (by omega) hS.vals)
  have HH := hide h
  have HS := hide hS
  clear h hc hS er
  generalize hb : H.cb i = b at *
  generalize c.lits = ls at *
  unfold maxLen at hrm
  go_enter Tryz.func72, Tryz.ntmps72
  go_wp2
  go_loopw [12] (fun j wr => ∃ (k : Nat), k ≤ ls.length ∧ j = .int .i64 k ∧ Hid (s.rsnB i (ls.drop k) = s.rsnB i ls) ∧ Hid (∃ m, wr = w.drewN m)) (fun j _ => ls.length - (intOf j).toNat)
  case atStart => exact ⟨0, Nat.zero_le _, rfl, rfl, ⟨0, rfl⟩⟩
  case round =>
    obtain ⟨k, hk, rfl, HSC, HW⟩ := hrel
    have hR : Rep ρ wr B H s := by obtain ⟨m, rfl⟩ := HW.out; exact HH.out.drewN m
    replace o0 : wr.cell? ⟨b, 0, none⟩ = some (.int .i64 i) := by obtain ⟨m, rfl⟩ := HW.out; exact o0
    replace hrow : Row wr a ls := by obtain ⟨m, rfl⟩ := HW.out; exact hrow
    clear o1
    by_cases hlt : k < ls.length
    · obtain ⟨bb, off, rfl, hbb, hcell⟩ := hrow k hlt
      have hx := hl ls[k] (List.getElem_mem hlt)
      have hki : (k : Int) < ls.length := by omega
      have HSC2 := HSC.out
      rw [rsnB_drop hlt] at HSC2
      have hvb := HS.out.val ls[k]
      have VX := fun n => (value_any (hR.drewN n) ls[k] hx (by omega) HS.out.vals)
      obtain ⟨gf, cf, efv, hgB, f0, f1, f2⟩ := hR.fctAt HS.out ls[k] hx
      have FX := fun n => hide (fact_any (hR.drewN n) ls[k] hx (by omega) HS.out.fac gf cf efv)
      replace VX := hide VX
      clear hrow hl efv VV hR
      generalize ls[k] = x at *
      generalize x.natAbs * 3 = kf at *
      by_cases hA : s.val x = 1
      · by_cases hB : (s.fct x).2.2 = (i : Int)
        · have hA' : (s.val x == 1) = true := by simpa using hA
          have hB' : ((s.fct x).2.2 == (i : Int)) = true := by simpa using hB
          have HE : Hid (s.rsnB i ls = true) := by unfold Hid; rw [← HSC2]; simp [hA, hB]
          clear HSC HSC2 hA hB
          generalize s.val x = y at *
          generalize (s.fct x).2.2 = z at *
          go_wp2_with fail
          go_quiet (first | (go_at_call 56; exact Calls.quiet_of (unhide VX _)) | (go_at_call 67; exact Calls.quiet_of_same (unhide (FX _))))
          go_wp2
          go_ret
          exact ⟨ret_bool HE.out.symm, by obtain ⟨m, rfl⟩ := HW.out; exact ⟨_, drewN_drewN' _ _ _⟩⟩
        · have hA' : (s.val x == 1) = true := by simpa using hA
          have hB' : ((s.fct x).2.2 == (i : Int)) = false := by simpa using hB
          have HE : Hid (s.rsnB i (ls.drop (k + 1)) = s.rsnB i ls) := by unfold Hid; rw [← HSC2]; simp [hA, hB]
          clear HSC HSC2 hA hB
          generalize s.val x = y at *
          generalize (s.fct x).2.2 = z at *
          go_wp2_with fail
          go_quiet (first | (go_at_call 56; exact Calls.quiet_of (unhide VX _)) | (go_at_call 67; exact Calls.quiet_of_same (unhide (FX _))))
          go_wp2
          go_roundw
          case rel => exact ⟨k + 1, by omega, by go_num, HE, by obtain ⟨m, rfl⟩ := HW.out; exact ⟨_, drewN_drewN' _ _ _⟩⟩
          case measure => simp [intOf]; omega
      · have hA' : (s.val x == 1) = false := by simpa using hA
        have HE : Hid (s.rsnB i (ls.drop (k + 1)) = s.rsnB i ls) := by unfold Hid; rw [← HSC2]; simp [hA]
        clear HSC HSC2 hA
        generalize s.val x = y at *
        go_wp2_with fail
        go_quiet (first | (go_at_call 56; exact Calls.quiet_of (unhide VX _)) | (go_at_call 67; exact Calls.quiet_of_same (unhide (FX _))))
        go_wp2
        go_roundw
        case rel => exact ⟨k + 1, by omega, by go_num, HE, by obtain ⟨m, rfl⟩ := HW.out; exact ⟨_, drewN_drewN' _ _ _⟩⟩
        case measure => simp [intOf]; omega
    · have hkl : ls.drop k = [] := List.drop_eq_nil_of_le (by omega)
      have HE : Hid (s.rsnB i ls = false) := by unfold Hid; rw [← HSC.out, hkl]; rfl
      clear hrow hl HSC hkl VV hR
      go_wp2
      go_ret
      exact ⟨ret_bool HE.out.symm, HW.out⟩
end
end Go.Proofs.YtlmbgaconjcaiabGreat
