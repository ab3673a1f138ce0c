/- Contracts of the library's functions, in this proof's words. -/
import Derived.Test.YtiddcpemckifmaaWalkD
import Derived.Test.YtiddcpemckifmaaPlain2
import Derived.Test.YtiddcpemckifmaaShelf1
import Derived.Lib.OwnBridge
set_option linter.unusedVariables false
set_option linter.unusedSimpArgs false
namespace Go.Proofs.Ytiddcpemckifmaa
open Go.RowKit Go.Sort

theorem Row.cells {w : World} {a : Option Addr} {xs : List Int} (h : Row w a xs) : xs = [] ∨ ∃ b off, a = some ⟨b, off, none⟩ ∧ b < w.heap.size ∧ ∀ j, j < xs.length → w.cell? ⟨b, off + j, none⟩ = some (.int .i64 (xs.getD j 0)) := by
  cases xs with
  | nil => exact .inl rfl
  | cons x xs =>
    right
    obtain ⟨b, off, rfl, hb, _⟩ := h 0 (by simp)
    refine ⟨b, off, rfl, hb, fun j hj => ?_⟩
    obtain ⟨b', off', e, _, hc⟩ := h j hj
    cases e
    rw [hc, List.getD_eq_getElem?_getD, List.getElem?_eq_getElem hj]; rfl

theorem contains_any (a : Option Addr) (cap : Nat) (xs : List Int) (n : Int) (w : World) (hr : Row w a xs) (hl : xs.length ≤ maxLen) :
    Calls Try.prog 45 #[.slice a xs.length cap, .int .i64 n] w fun e w' => e = .returned (.bool (hasB xs n)) ∧ w' = w := by
  unfold maxLen at hl
  rcases hr.cells with rfl | ⟨b, off, rfl, hb, hc⟩
  · exact Any.slices_Contains_int_empty Try.lays107 a cap n w
  · refine (Any.slices_Contains_int Try.lays107 b off xs.length cap xs n w (Nat.le_refl _) (by omega) hc).mono ?_
    rintro e w' ⟨rfl, rfl⟩
    refine ⟨ret_bool ?_, rfl⟩
    rw [List.take_length, List.contains_eq_any_beq]
    unfold hasB
    congr 1
    funext x
    exact Bool.beq_comm

theorem equal_any (a b : Option Addr) (ca cb : Nat) (xs ys : List Int) (w : World) (hr : Row w a xs) (hs : Row w b ys) (hl : xs.length ≤ maxLen) (hm : ys.length ≤ maxLen) :
    Calls Try.prog 43 #[.slice a xs.length ca, .slice b ys.length cb] w fun e w' => e = .returned (.bool (intsB xs ys)) ∧ ∃ n, w' = w.drewN n := by
  unfold maxLen at hl hm
  rcases hr.cells with rfl | ⟨b1, off1, rfl, hb1, hc1⟩
  · refine (Any.slices_Equal_int_empty Try.lays111 a b ca ys.length cb w (by omega)).mono ?_
    rintro e w' ⟨rfl, rfl⟩
    refine ⟨ret_bool ?_, 0, rfl⟩
    cases ys <;> simp [intsB]
  rcases hs.cells with rfl | ⟨b2, off2, rfl, hb2, hc2⟩
  · by_cases h0 : xs = []
    · subst h0
      refine (Any.slices_Equal_int_empty Try.lays111 _ b ca 0 cb w (by omega)).mono ?_
      rintro e w' ⟨rfl, rfl⟩
      exact ⟨ret_bool (by simp [intsB]), 0, rfl⟩
    · have hb : ((xs.length : Int) != 0) = true := by rw [bne_iff_ne]; intro h; apply h0; cases xs with | nil => rfl | cons x xs => simp at h; omega
      clear hr hs hc1
      go_enter Try.func43, Try.ntmps43
      go_wp2
      go_ret
      exact ⟨ret_bool (by simp [intsB, h0]), 0, rfl⟩
  · refine (Any.slices_Equal_int Try.lays111 b1 off1 xs.length ca b2 off2 ys.length cb xs ys w (Nat.le_refl _) (Nat.le_refl _) (by omega) (by omega) hc1 hc2).mono ?_
    rintro e w' ⟨rfl, q, rfl⟩
    refine ⟨ret_bool ?_, q, rfl⟩
    rw [List.take_length, List.take_length]
    unfold intsB
    rw [Bool.eq_iff_iff]; simp

theorem clone_any (a : Option Addr) (cap : Nat) (xs : List Int) (w : World) (hr : Row w a xs) (hl : xs.length ≤ 5000) :
    Calls Try.prog 34 #[.slice a xs.length cap] w fun e w' => ∃ v, e = .returned v ∧ Own w.heap.size w' v xs ∧ Below w.heap.size w w' := by
  rcases hr.cells with rfl | ⟨b, off, rfl, hb, hc⟩
  · cases a with
    | none =>
      refine (Any.slices_Clone_int_nil Try.laysNm215 0 cap w).mono ?_
      rintro e w' ⟨rfl, rfl⟩
      exact ⟨_, rfl, World.ownsRow_nil _ _ _ _, Below.refl _ _⟩
    | some a =>
      refine (Any.slices_Clone_int_zero Try.laysNm215 a cap w).mono ?_
      rintro e w' ⟨v, rfl, hown, _, hbel⟩
      exact ⟨_, rfl, hown, hbel⟩
  · refine (Any.slices_Clone_int Try.laysNm215 b off xs.length cap xs w (Nat.le_refl _) (by omega) hc).mono ?_
    rintro e w' ⟨v, rfl, hown, _, hbel⟩
    rw [List.take_length] at hown
    exact ⟨_, rfl, hown, hbel⟩

theorem compact_any (base : Nat) (v : Value) (xs : List Int) (w : World) (h : Own base w v xs) (hl : xs.length ≤ 20000) (hb : base ≤ w.heap.size) :
    Calls Try.prog 49 #[v] w fun e w' => ∃ v', e = .returned v' ∧ Own base w' v' (Lib.compact xs) ∧ Below base w w' := by
  by_cases hv : v = .slice none 0 0
  · have h0 : xs.length = 0 := by
      rcases h.2 with ⟨_, h0⟩ | ⟨g, cap, cur, e, _⟩
      · exact h0
      · rw [hv] at e; cases e
    have hx : xs = [] := List.length_eq_zero_iff.1 h0
    subst hv; subst hx
    refine (Any.slices_Compact_int_empty Try.laysNm220 none 0 w).mono ?_
    rintro e w' ⟨rfl, rfl⟩
    exact ⟨_, rfl, World.ownsRow_nil _ _ _ _, Below.refl _ _⟩
  obtain ⟨g, cap, rfl, hbg, hgl, hcap, hcm, _, hH⟩ := Lib.holds_of_ownsRow h hv
  refine (Any.slices_Compact_int Try.laysNm220 g 0 cap xs w hH (by omega) hcap).mono ?_
  rintro e w' ⟨rfl, q, rfl⟩
  have hle := Lib.compact_length_le xs
  have hc := Lib.ownsRow_putRow (q := q) (k := (Lib.compact xs).length) (ys := Lib.compact xs ++ List.replicate (xs.length - (Lib.compact xs).length) 0) h (by simp; omega) (by omega)
  rw [List.take_left] at hc
  exact ⟨_, rfl, hc, Lib.below_putRow (Below.refl _ _) hbg⟩

end Go.Proofs.Ytiddcpemckifmaa
