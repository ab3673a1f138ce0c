/- What each act tells and leaves, whatever it is: the program's part and the document's in one. -/
import Derived.Test.YtbibbdkijgaoeaaWalkS
set_option linter.unusedVariables false
set_option linter.unusedSimpArgs false
namespace Go.Proofs.Ytbibbdkijgaoeaa
open Go.RowKit Go.Maps

section
variable {w x : World} {B M Wc : Nat} {rv : Value} {a : Option Addr} {cap : Nat} {L : List Itm}

theorem u_add (h : St w x B M Wc rv a cap L L) (hl : words L ≤ 20000) {ca : Option Addr} {cc : Nat} {c : List Int} (hr : Row w ca c) (hc : c.length ≤ 300) (hcn : ca = none → cc = 0) :
    ∃ (D : List Itm) (q r : Int) (n2 : Nat), words D ≤ words L + 302 ∧
      Hid (Calls Try.prog 17 #[.pointer (some ⟨B, 0, none⟩), .slice ca c.length cc] x fun e x1 => e = .returned (.tuple #[.int .i64 q, .int .i64 r]) ∧ Kp (Mine B M rv) x x1 ∧ ∃ rv1, St w x1 B M Wc rv1 a cap L D) ∧
      Hid (∀ x1 rv1, St w x1 B M Wc rv1 a cap L D → Calls Try.prog 19 #[.agg #[.slice a L.length cap], .slice ca c.length cc] x1 fun e x2 => ∃ a2 cap2, e = .returned (.tuple #[.agg #[.slice a2 n2 cap2], .int .i64 q, .int .i64 r]) ∧ St w x2 B M Wc rv1 a cap L D ∧ St w (x2.setCell ⟨Wc, 0, none⟩ (.slice a2 n2 cap2)) B M Wc rv1 a2 cap2 D D) := by
  cases hmay : mayB c 1048576
  · refine ⟨L, 0, 1, L.length, by omega, ?_, ?_⟩
    · refine (st_addno h hr hc hmay).1.mono ?_
      rintro e x1 ⟨rfl, rfl⟩
      exact ⟨rfl, Kp.of_below (Below.refl _ _), rv, h⟩
    · intro x1 rv1 h1
      refine (st_addno h1 hr hc hmay).2.mono ?_
      rintro e x2 ⟨rfl, h2⟩
      exact ⟨a, cap, rfl, h2, h2.refd (Below.refl _ _) h2.ref _ rfl⟩
  · refine ⟨L ++ [(c, false)], words L, 0, L.length + 1, by rw [words_add]; omega, ?_, ?_⟩
    · exact st_add h hl hr hc hcn hmay
    · intro x1 rv1 h1
      exact st_add' h1 hl hr hc hcn hmay

theorem u_drop (h : St w x B M Wc rv a cap L L) (hl : words L ≤ 20000) {p : Int} (hp : (Lit.int .i64 p).wf = true) :
    ∃ (D : List Itm) (r : Int), words D = words L ∧
      Hid (Calls Try.prog 20 #[.pointer (some ⟨B, 0, none⟩), .int .i64 p] x fun e x1 => e = .returned (.int .i64 r) ∧ Kp (Mine B M rv) x x1 ∧ St w x1 B M Wc rv a cap L D) ∧
      Hid (∀ x1, St w x1 B M Wc rv a cap L D → Calls Try.prog 21 #[.agg #[.slice a L.length cap], .int .i64 p] x1 fun e x2 => ∃ a2 cap2, e = .returned (.tuple #[.agg #[.slice a2 L.length cap2], .int .i64 r]) ∧ St w x2 B M Wc rv a cap L D ∧ St w (x2.setCell ⟨Wc, 0, none⟩ (.slice a2 L.length cap2)) B M Wc rv a2 cap2 D D) := by
  by_cases hin : p ∈ plF 0 L
  · obtain ⟨A, it, R, rfl, hit, rfl⟩ := plF_split L 0 p hin
    rw [Nat.zero_add]
    exact ⟨A ++ (it.1, true) :: R, 0, words_set A R it (it.1, true) rfl, st_drop h hl hit, fun x1 h1 => st_drop' h1 hl hit⟩
  · refine ⟨L, 4, rfl, st_dropno h hl hp hin, fun x1 h1 => (st_dropno' h1 hl hin).mono ?_⟩
    rintro e x2 ⟨rfl, h2⟩
    exact ⟨a, cap, rfl, h2, h2.refd (Below.refl _ _) h2.ref _ rfl⟩

theorem u_swap (h : St w x B M Wc rv a cap L L) (hl : words L ≤ 20000) {p : Int} (i j : Int) (hp : (Lit.int .i64 p).wf = true) :
    ∃ (D : List Itm) (r : Int), words D = words L ∧
      Hid (Calls Try.prog 22 #[.pointer (some ⟨B, 0, none⟩), .int .i64 p, .int .i64 i, .int .i64 j] x fun e x1 => e = .returned (.int .i64 r) ∧ Kp (Mine B M rv) x x1 ∧ St w x1 B M Wc rv a cap L D) ∧
      Hid (∀ x1, St w x1 B M Wc rv a cap L D → Calls Try.prog 23 #[.agg #[.slice a L.length cap], .int .i64 p, .int .i64 i, .int .i64 j] x1 fun e x2 => ∃ a2 cap2, e = .returned (.tuple #[.agg #[.slice a2 L.length cap2], .int .i64 r]) ∧ St w x2 B M Wc rv a cap L D ∧ St w (x2.setCell ⟨Wc, 0, none⟩ (.slice a2 L.length cap2)) B M Wc rv a2 cap2 D D) := by
  by_cases hin : p ∈ plF 0 L
  · obtain ⟨A, it, R, rfl, hit, rfl⟩ := plF_split L 0 p hin
    rw [Nat.zero_add]
    by_cases hbad : i < 0 ∨ j < 0 ∨ (it.1.length : Int) ≤ i ∨ (it.1.length : Int) ≤ j
    · refine ⟨A ++ it :: R, 1, rfl, st_swaparg h hl hit hbad, fun x1 h1 => (st_swaparg' h1 hl hit hbad).mono ?_⟩
      rintro e x2 ⟨rfl, h2⟩
      exact ⟨a, cap, rfl, h2, h2.refd (Below.refl _ _) h2.ref _ rfl⟩
    · obtain ⟨c0, g0⟩ := it
      simp only at hit hbad
      subst hit
      obtain ⟨i', rfl⟩ : ∃ i' : Nat, i = i' := ⟨i.toNat, by omega⟩
      obtain ⟨j', rfl⟩ : ∃ j' : Nat, j = j' := ⟨j.toNat, by omega⟩
      have hi' : i' < c0.length := by omega
      have hj' : j' < c0.length := by omega
      exact ⟨A ++ (swapL c0 i' j', false) :: R, 0, words_set A R (c0, false) (swapL c0 i' j', false) (swapL_len c0 i' j'), st_swap h hl hi' hj', fun x1 h1 => st_swap' h1 hl hi' hj'⟩
  · refine ⟨L, 4, rfl, st_swapno h hp hin, fun x1 h1 => (st_swapno' h1 hl hin).mono ?_⟩
    rintro e x2 ⟨rfl, h2⟩
    exact ⟨a, cap, rfl, h2, h2.refd (Below.refl _ _) h2.ref _ rfl⟩

/-- Packed: both tell the same moves. -/
theorem u_pack (h : St w x B M Wc rv a cap L L) (hl : words L ≤ 20000) :
    ∃ (D : List Itm) (ms : List (Int × Int)) (n2 : Nat), words D ≤ words L ∧ ms.length ≤ 20000 ∧
      Hid (Calls Try.prog 14 #[.pointer (some ⟨B, 0, none⟩)] x fun e x1 => ∃ v, e = .returned v ∧ Mvs x.heap.size x1 v ms ∧ ∃ rv1, St w x1 B M Wc rv1 a cap L D) ∧
      Hid (∀ x1 rv1, St w x1 B M Wc rv1 a cap L D → Calls Try.prog 24 #[.agg #[.slice a L.length cap]] x1 fun e x2 => ∃ a2 cap2 v, e = .returned (.tuple #[.agg #[.slice a2 n2 cap2], v]) ∧ Mvs x1.heap.size x2 v ms ∧ Below x1.heap.size x1 x2 ∧ St w x2 B M Wc rv1 a cap L D ∧ St w (x2.setCell ⟨Wc, 0, none⟩ (.slice a2 n2 cap2)) B M Wc rv1 a2 cap2 D D) :=
  ⟨keepL L, mvs L, (keepL L).length, keepL_le L, by rw [mvs_len]; have := plF_len_le L 0; have := len_le_words L; omega, st_pack h hl, fun x1 rv1 h1 => st_pack' h1 hl⟩
end

end Go.Proofs.Ytbibbdkijgaoeaa
