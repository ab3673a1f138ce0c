/- Whether a word has a number, by inputs. -/
import Derived.Test.YtdjfciigfledhaaVq
set_option linter.unusedVariables false
set_option linter.unusedSimpArgs false
namespace Go.Proofs.Ytdjfciigfledhaa
open Go.RowKit Go.Maps

section
variable (w : World) (B M : Nat) (v : Value) (g : List Gt)
set_option maxHeartbeats 2000000 in
theorem is_any (ai : Option Addr) (ci : Nat) (L : List Bool) (ax : Option Addr) (ca : Nat) (l : List Int) (n N : Nat)
    (hA : Gr w B M v g) (hi : Vs w ai L) (hil : L.length ≤ maxLen) (hr : Row w ax l) (hn : l.length = n) (h1 : 1 ≤ n) (h16 : n ≤ 16) (hw : Wd g l) :
    Calls Try.prog 11 #[.pointer (some ⟨B, 0, none⟩), .slice ai L.length ci, .slice ax n ca, .int .i64 (n : Int), .int .i64 (N : Int)] w fun e w' => e = .returned (.bool (decide (numW L g l = N))) ∧ Below w.heap.size w w' := by
  have C1 := vcheck_any w B M v g ax ca l n hA hn hr (by unfold maxLen; omega)
  rw [wdB_iff.2 ⟨by omega, by omega, hw⟩] at C1
  replace C1 : Hid (Calls Try.prog 41 #[.pointer (some ⟨B, 0, none⟩), .slice ax n ca] w fun e w' => e = .returned (.int .i64 0) ∧ w' = w) := C1
  have ND := hide (nodes_any w B M v g hA)
  have hmay := hA.may
  have hle := hA.le
  have EV : Hid (∀ W al cap, Below w.heap.size w W → GS W al g → Calls Try.prog 35 #[.slice al g.length cap, .slice ai L.length ci] W (EvP W (allV L g))) := fun W al cap hb hs => eval_any W al cap g hs hle hmay ai ci L (hi.below hb) hil
  have NM : Hid (∀ W q cap, Below w.heap.size w W → Vs W (some ⟨q, 0, none⟩) (allV L g) → Calls Try.prog 47 #[.slice (some ⟨q, 0, none⟩) (allV L g).length cap, .slice ax n ca] W fun e w' => e = .returned (.int .i64 (numB (l.map (valF (allV L g))) : Int)) ∧ ∃ m, w' = W.drewN m) := fun W q cap hb hv => number_any W (some ⟨q, 0, none⟩) cap (allV L g) ax ca l n hv (by rw [allV_len]; exact hle) (hr.below hb) hn h16
  have hK : numW L g l = numB (l.map (valF (allV L g))) := rfl
  rw [hK]
  generalize numB (l.map (valF (allV L g))) = K at *
  generalize allV L g = V at *
  have hEN : decide (K = N) = ((K : Int) == (N : Int)) := by
    rw [Bool.eq_iff_iff]; simp; omega
  rw [hEN]
  obtain ⟨b, hb⟩ : ∃ b, ((K : Int) == (N : Int)) = b := ⟨_, rfl⟩
  rw [hb]
  clear hEN hK hA hi hr hn hw hmay hle hil
  go_enter Try.func11, Try.ntmps11
  go_wp2_with (first
    | (go_at_call 41; refine (unhide C1).mono ?_; rintro e w0 ⟨rfl, hw0⟩; subst w0)
    | (go_at_call 36; refine (unhide ND).mono ?_; rintro e w1 ⟨al, cap, rfl, hs1, hb1, hf1⟩)
    | (go_at_call 35; refine (unhide EV _ _ _ hb1 hs1).mono ?_; rintro e w2 ⟨q2, c2, rfl, hv2, hb2⟩; have hb12 := hb1.trans (hb2.mono hb1.size))
    | (go_at_call 47; refine (unhide NM _ _ _ hb12 hv2).mono ?_; rintro e w3 ⟨rfl, m3, hw3⟩))
  go_ret
  exact ⟨rfl, by subst hw3; exact below_drewN hb12 _⟩
end
end Go.Proofs.Ytdjfciigfledhaa
