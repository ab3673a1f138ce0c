/- The law's own small sum: the sum of 3 and 6, of three bits, is the constant 1. -/
import Derived.Test.YtbilhiklfficoaaVn
set_option linter.unusedVariables false
set_option linter.unusedSimpArgs false
namespace Go.Proofs.Ytbilhiklfficoaa
open Go.RowKit Go.Maps

set_option maxHeartbeats 1000000 in
theorem ints_same (w : World) (ax bx : Option Addr) (ca cb : Nat) (l : List Int) (n : Nat) (hn : l.length = n) (h16 : n ≤ 16) (hr : Row w ax l) (hs : Row w bx l) :
    Calls Try.prog 26 #[.slice ax n ca, .slice bx n cb] w fun e w' => e = .returned (.bool true) ∧ ∃ m, w' = w.drewN m := by
  have HR := hide hr
  have HS := hide hs
  have HN := hide hn
  clear hr hs hn
  go_enter Try.func26, Try.ntmps26
  go_wp2
  go_loopw [5] (fun i W => ∃ k : Nat, k ≤ n ∧ i = .int .i64 (k : Int) ∧ ∃ m, W = w.drewN m) (fun i _ => n - (intOf i).toNat)
  case atStart => exact ⟨0, Nat.zero_le _, rfl, 0, rfl⟩
  case round =>
    obtain ⟨k, hk, rfl, m, rfl⟩ := hrel
    by_cases hlt : k < n
    · have hka : k < l.length := by rw [HN.out]; exact hlt
      obtain ⟨b, off, rfl, hb, hcell0⟩ := HR.out k hka
      obtain ⟨b2, off2, rfl, hb2, hcell2⟩ := HS.out k hka
      generalize l[k] = x at *
      have he' : (x != x) = false := by simp
      clear hka
      go_wp2
      go_quiet (fail)
      go_wp2
      go_roundw
      case rel => exact ⟨k + 1, by omega, by go_num, _, by first | rfl | exact World.drewN_drewN _ _ _⟩
      case measure => simp [intOf]; omega
    · have hke : k = n := by omega
      subst hke
      go_wp2
      go_ret
      exact ⟨rfl, m, rfl⟩

section
variable (w : World) (B M : Nat) (v : Value)
theorem fr_new {w W : World} {B M : Nat} {v : Value} {g : List Gt} {q : Nat} {l : List Int} (h : Gr w B M v g) (hr : Rw W q l) (hq : w.heap.size ≤ q) : Fr W B M v (some ⟨q, 0, none⟩) l :=
  ⟨hr.row, fun b off e => by
    cases e
    refine ⟨hr.lt, ?_⟩
    have hlt := h.lt
    rintro (h | h | h)
    · omega
    · omega
    · have := hlt.2.2 _ h; omega⟩
theorem Rw.below {w W : World} {q : Nat} {l : List Int} (h : Rw w q l) (hb : Below w.heap.size w W) : Rw W q l := h.same (hb.block q h.lt)

end
end Go.Proofs.Ytbilhiklfficoaa
