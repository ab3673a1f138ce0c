/- A formula's text, however it is parted into lines: the law's own text, walked, where the formula is not too great. -/
import Derived.Test.YtedpngipkaniaaaDoorLawLines
set_option linter.unusedVariables false
set_option linter.unusedSimpArgs false
namespace Go.Proofs.YtedpngipkaniaaaDoor
open Go.RowKit Go.Maps

attribute [local go_sem ↓] Go.wp_at_zero Go.wp_at_succ

theorem nums_len (css : List (List Int)) : (nums css).length = total css + css.length := by
  induction css with
  | nil => rfl
  | cons c css ih =>
    rw [nums_cons]
    simp [total] at *
    omega

theorem nums_take {css : List (List Int)} {i : Nat} (h : i < css.length) : nums (css.take (i + 1)) = nums (css.take i) ++ (css[i] ++ [0]) := by
  rw [List.take_succ_eq_append_getElem h, nums_snoc]

theorem nums_split {css : List (List Int)} {i : Nat} (h : i < css.length) : nums css = nums (css.take i) ++ ((css[i] ++ [0]) ++ nums (css.drop (i + 1))) := by
  have : css = css.take i ++ (css[i] :: css.drop (i + 1)) := by rw [← List.drop_eq_getElem_cons h, List.take_append_drop]
  have e : nums (css.take i ++ (css[i] :: css.drop (i + 1))) = nums (css.take i) ++ ((css[i] ++ [0]) ++ nums (css.drop (i + 1))) := by
    rw [nums, List.flatMap_append, List.flatMap_cons]; rfl
  rw [← this] at e
  exact e

theorem digI_zero : digI 0 = [48] := by
  unfold digI
  rw [if_neg (by decide)]
  show digN 0 = _
  rw [digN_small (by decide)]
  rfl

theorem bytes_below (w : World) (s : List UInt8) : Below w.heap.size w (Lib.bytesWorld w 5 (str s)) := by
  refine ⟨?_, ?_, ?_, ?_, fun k hk => Lib.bytesWorld_at_old w 5 (str s) k hk⟩
  · rfl
  · rfl
  · rfl
  · rw [Lib.bytesWorld_size]; omega

theorem bytes_txt (w : World) (s : List UInt8) : Txt (w.heap.size + 1) (Lib.bytesWorld w 5 (str s)) (some ⟨w.heap.size, 0, none⟩) s := by
  intro i hi
  refine ⟨w.heap.size, 0, rfl, by omega, ?_⟩
  rw [Nat.zero_add, Lib.bytesWorld_cell w 5 (str s) i (by rw [str_size]; exact hi)]
  simp [str, List.getD_eq_getElem?_getD, List.getElem?_eq_getElem hi]

/-- How much of the text there is, behind some words. -/
structure Part (css : List (List Int)) (xs : List UInt8) (hd : List UInt8) (D : List Int) (s : List UInt8) : Prop where
  text : s = hd ++ bodyI xs 0 D
  pre : D <+: nums css

theorem Part.next {css : List (List Int)} {xs hd : List UInt8} {D : List Int} {s : List UInt8} (h : Part css xs hd D s) {x : Int} (hx : (D ++ [x]) <+: nums css) : Part css xs hd (D ++ [x]) (s ++ digI x ++ gapAt xs D.length) := by
  refine ⟨?_, hx⟩
  rw [bodyI_snoc, h.text]
  simp

theorem Part.len {css : List (List Int)} {xs hd : List UInt8} {D : List Int} {s : List UInt8} (h : Part css xs hd D s) (hn : ∀ x ∈ nums css, (digI x).length ≤ 20) (h1 : (nums css).length ≤ 6300) (h2 : hd.length ≤ 100) : s.length ≤ 170200 ∧ D.length ≤ 6300 := by
  have hl := h.pre.length_le
  have hb := bodyI_len xs D 0 (fun x hx => hn x (h.pre.subset hx))
  rw [h.text]
  simp
  omega

theorem prefix_at {css : List (List Int)} {i j : Nat} (h : i < css.length) (hj : j < (css[i] ++ [0]).length) : (nums (css.take i) ++ (css[i] ++ [0]).take j) ++ [(css[i] ++ [0])[j]] <+: nums css := by
  rw [List.append_assoc, ← List.take_succ_eq_append_getElem hj, nums_split h]
  refine (List.prefix_append_right_inj _).2 ?_
  exact (List.take_prefix _ _).trans (List.prefix_append _ _)

theorem gap_cell (w : World) (i : Nat) (h : i < 6) : (w.alloc (.cells #[.string ⟨#[32]⟩, .string ⟨#[10]⟩, .string ⟨#[32, 9, 32]⟩, .string ⟨#[13, 10]⟩, .string ⟨#[10, 99, 32, 49, 32, 48, 10]⟩, .string ⟨#[10, 10]⟩] 9)).cell? ⟨w.heap.size, i, none⟩ = some (.string (str (gapOf i))) := by
  have e := heap_alloc_new w (.cells #[.string ⟨#[32]⟩, .string ⟨#[10]⟩, .string ⟨#[32, 9, 32]⟩, .string ⟨#[13, 10]⟩, .string ⟨#[10, 99, 32, 49, 32, 48, 10]⟩, .string ⟨#[10, 10]⟩] 9)
  rw [(arr_cell e i).1]
  have : i = 0 ∨ i = 1 ∨ i = 2 ∨ i = 3 ∨ i = 4 ∨ i = 5 := by omega
  rcases this with rfl | rfl | rfl | rfl | rfl | rfl <;> rfl

theorem cnf_lits {n : Int} {css : List (List Int)} (h : cnfB n css = true) : 0 ≤ n ∧ n ≤ 1048576 ∧ css.length ≤ 262144 ∧ ∀ c ∈ css, c.length ≤ 4096 ∧ ∀ l ∈ c, LitOk n l := by
  unfold cnfB at h
  rw [Bool.and_eq_true, decide_eq_true_iff] at h
  obtain ⟨⟨h1, h2, h3⟩, h4⟩ := h
  refine ⟨h1, h2, h3, fun c hc => ?_⟩
  have hm := List.all_eq_true.1 h4 c hc
  refine ⟨?_, fun l hl => litB_true.1 (mayB_lit hm l hl)⟩
  unfold mayB at hm
  simp at hm
  omega

theorem nums_digits {n : Int} {css : List (List Int)} (h : cnfB n css = true) : ∀ x ∈ nums css, (digI x).length ≤ 20 ∧ -1048576 ≤ x ∧ x ≤ 1048576 := by
  obtain ⟨h1, h2, h3, h4⟩ := cnf_lits h
  intro x hx
  unfold nums at hx
  rw [List.mem_flatMap] at hx
  obtain ⟨c, hc, hx⟩ := hx
  simp only [List.mem_append, List.mem_singleton] at hx
  have hb : -1048576 ≤ x ∧ x ≤ 1048576 := by
    rcases hx with hx | rfl
    · obtain ⟨_, a, b⟩ := (h4 c hc).2 x hx
      omega
    · omega
  exact ⟨digI_len (by omega) (by omega), hb⟩

end Go.Proofs.YtedpngipkaniaaaDoor
