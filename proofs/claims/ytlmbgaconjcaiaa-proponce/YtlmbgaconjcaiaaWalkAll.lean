/- Joined: Contracts of the small functions: literals, variables, whether a list is a clause, whether two lists are alike. Slices of numbers that a call makes. Contracts over formulas: whether one is not too great, whether one is a formula, which are alike. Rows of rows that a call makes: kept while the call goes on. Contracts of small functions of layer 1 and of the document: carried from stage 1. -/
import Derived.Test.YtlmbgaconjcaiaaRows
import Derived.Test.YtlmbgaconjcaiaaPlainAll
import Derived.WalkKit
import Derived.WalkSpells
import Derived.BigQuiet
import Derived.WalkSmall
import Derived.WalkMore
import Derived.Deep.RegionWith
import Derived.OneCell
import Derived.Deep.AppendLies
import Derived.Deep.RegionHeld3
import Derived.Deep.DrawnRows
import Derived.Deep.RegionLaw
set_option linter.unusedVariables false
set_option linter.unusedSimpArgs false
namespace Go.Proofs.Ytlmbgaconjcaiaa
open Go.RowKit

/-- A slice's numbers as they lie in memory. -/
def Row (w : World) (a : Option Addr) (xs : List Int) : Prop :=
  ∀ i (h : i < xs.length), ∃ b off, a = some ⟨b, off, none⟩ ∧ b < w.heap.size ∧ w.cell? ⟨b, off + i, none⟩ = some (.int .i64 xs[i])

theorem hide {p : Prop} (h : p) : Hid p := h

theorem unhide {p : Prop} (h : Hid p) : p := h

theorem ret_bool {a b : Bool} (h : a = b) : Ending.returned (.bool a) = .returned (.bool b) := by rw [h]

theorem ret_int {k : IntKind} {a b : Int} (h : a = b) : Ending.returned (.int k a) = .returned (.int k b) := by rw [h]

set_option maxHeartbeats 400000 in
theorem lit_any (l : Int) (w : World) :
    Calls Try.prog 53 #[.int .i64 l] w fun e w' => e = .returned (.bool (litB l 1048576)) ∧ w' = w := by
  go_enter Try.func53, Try.ntmps53
  go_wp2
  all_goals
    go_ret
    exact ⟨ret_bool (by simp [litB, *]; try omega), rfl⟩

set_option maxHeartbeats 400000 in
theorem var_any (l : Int) (w : World) (h0 : -1048576 ≤ l) (h1 : l ≤ 1048576) :
    Calls Try.prog 30 #[.int .i64 l] w fun e w' => e = .returned (.int .i64 (varI l)) ∧ w' = w := by
  go_enter Try.func30, Try.ntmps30
  go_wp2
  all_goals
    go_ret
    exact ⟨ret_int (by unfold varI; first | rw [if_pos ‹_›] | rw [if_neg (by omega)]), rfl⟩

set_option maxHeartbeats 400000 in
theorem may_any (a : Option Addr) (cap : Nat) (xs : List Int) (w : World) (hr : Row w a xs) (hl : xs.length ≤ maxLen) :
    Calls Try.prog 29 #[.slice a xs.length cap] w fun e w' => e = .returned (.bool (mayB xs 1048576)) ∧ w' = w := by
  unfold maxLen at hl
  go_enter Try.func29, Try.ntmps29
  go_wp2
  go_loop [3] (fun i => ∃ k : Nat, k ≤ xs.length ∧ i = .int .i64 k ∧ (xs.take k).all (fun x => litB x 1048576) = true) (fun i => xs.length - (intOf i).toNat)
  case atStart => exact ⟨0, Nat.zero_le _, rfl, rfl⟩
  case round =>
    obtain ⟨k, hk, rfl, hno⟩ := hrel
    have HN : Hid ((xs.take k).all (fun x => litB x 1048576) = true) := hno
    clear hno
    by_cases hlt : k < xs.length
    · obtain ⟨b, off, rfl, hb, hc⟩ := hr k hlt
      clear hr
      by_cases he : litB xs[k] 1048576 = true
      · go_wp2_with (go_at_call 53; refine (lit_any _ _).mono ?_; rintro e w' ⟨rfl, rfl⟩)
        go_round
        case rel => exact ⟨k + 1, by omega, by go_num, all_take_snoc _ xs k hlt HN.out he⟩
        case measure => simp [intOf]; omega
      · have he' : litB xs[k] 1048576 = false := by simpa using he
        go_wp2_with (go_at_call 53; refine (lit_any _ _).mono ?_; rintro e w' ⟨rfl, rfl⟩)
        go_ret
        exact ⟨ret_bool (mayB_no k hlt he').symm, rfl⟩
    · have hz : xs.length ≤ k := by omega
      clear hr
      go_wp2
      go_ret
      refine ⟨ret_bool ?_, rfl⟩
      have h := all_of_take hz HN.out
      unfold mayB; rw [h]; simp; omega

/-- An error's number: 1 (no clause), or 0. -/
def errI (b : Bool) : Int := if b then 0 else 1

def intsB (xs ys : List Int) : Bool := decide (xs = ys)

theorem Row.drewN {w : World} {a : Option Addr} {xs : List Int} (h : Row w a xs) (n : Nat) : Row (w.drewN n) a xs := h

set_option maxHeartbeats 400000 in
theorem ints_any (a b : Option Addr) (ca cb : Nat) (xs ys : List Int) (w : World) (hr : Row w a xs) (hs : Row w b ys) (hl : xs.length ≤ maxLen) (hm : ys.length ≤ maxLen) :
    Calls Try.prog 16 #[.slice a xs.length ca, .slice b ys.length cb] w fun e w' => e = .returned (.bool (intsB xs ys)) ∧ ∃ n, w' = w.drewN n := by
  unfold maxLen at hl hm
  by_cases hne : (xs.length : Int) = ys.length
  case neg =>
    have hb : ((xs.length : Int) != ys.length) = true := by rw [bne_iff_ne]; exact hne
    clear hr hs
    go_enter Try.func16, Try.ntmps16
    go_wp2
    go_ret
    exact ⟨ret_bool (by simp only [intsB]; symm; rw [decide_eq_false_iff_not]; intro h; apply hne; rw [h]), 0, rfl⟩
  have hb : ((xs.length : Int) != ys.length) = false := by simp [hne]
  have hyl : xs.length ≤ ys.length := by omega
  have HE : Hid (xs.length = ys.length) := by show xs.length = ys.length; omega
  clear hne
  go_enter Try.func16, Try.ntmps16
  go_wp2
  go_loopw [5] (fun i wr => ∃ k n : Nat, k ≤ xs.length ∧ i = .int .i64 k ∧ xs.take k = ys.take k ∧ wr = w.drewN n) (fun i _ => xs.length - (intOf i).toNat)
  case atStart => exact ⟨0, 0, Nat.zero_le _, rfl, rfl, rfl⟩
  case round =>
    obtain ⟨k, n, hk, rfl, hno, rfl⟩ := hrel
    have HN : Hid (xs.take k = ys.take k) := hno
    clear hno
    by_cases hlt : k < xs.length
    · obtain ⟨b1, off1, rfl, hb1, hc1⟩ := hr k hlt
      obtain ⟨b2, off2, rfl, hb2, hc2⟩ := hs k (by omega)
      clear hr hs hb
      by_cases he : xs[k] = ys[k]
      · have he' : (xs[k] != ys[k]) = false := by simp [he]
        have HX := hide he
        clear he
        go_wp2
        go_quiet (fail)
        go_wp2
        go_roundw
        case rel => exact ⟨k + 1, _, by omega, by go_num, take_eq_snoc hlt (by omega) HN.out HX.out, rfl⟩
        case measure => simp [intOf]; omega
      · have he' : (xs[k] != ys[k]) = true := by simp [he]
        go_wp2
        go_quiet (fail)
        go_wp2
        go_ret
        exact ⟨ret_bool (by simp only [intsB]; symm; rw [decide_eq_false_iff_not]; intro h; apply he; simp only [h]), _, World.drewN_drewN _ _ _⟩
    · have hz : xs.length ≤ k := by omega
      clear hr hs
      go_wp2
      go_ret
      refine ⟨ret_bool ?_, _, rfl⟩
      have h := HN.out
      rw [List.take_of_length_le hz, List.take_of_length_le (by have := HE.out; omega)] at h
      simp [intsB, h]

theorem varI_pos {l : Int} (h : l ≠ 0) : 1 ≤ varI l := by unfold varI; split <;> omega

/-- A slice's number at a place that is reckoned. -/
theorem Row.at {w : World} {a : Option Addr} {xs : List Int} (h : Row w a xs) (v : Int) (h1 : 1 ≤ v) (h2 : v ≤ xs.length) :
    ∃ b off, a = some ⟨b, off, none⟩ ∧ b < w.heap.size ∧ w.cell? ⟨b, off + (v.toNat - 1), none⟩ = some (.int .i64 (xs.getD (v.toNat - 1) 0)) := by
  obtain ⟨b, off, ha, hb, hc⟩ := h (v.toNat - 1) (by omega)
  refine ⟨b, off, ha, hb, ?_⟩
  rw [hc, List.getD_eq_getElem?_getD, List.getElem?_eq_getElem (by omega)]; rfl

end Go.Proofs.Ytlmbgaconjcaiaa

namespace Go.Proofs.Ytlmbgaconjcaiaa
open Go.RowKit

theorem Try.info3 : (Try.prog.info? 3).map (fun i => (i.zero, i.size, i.bytes)) = some (some (.int .i64 0), 1, 8) := by kernel_rfl

/-- A slice of the call's own that holds these numbers. -/
def Own (base : Nat) (w : World) (v : Value) (xs : List Int) : Prop := w.ownsRow base 3 1 v xs.length (xs.map (Value.int .i64))

theorem Own.row {base : Nat} {w : World} {v : Value} {xs : List Int} (h : Own base w v xs) : ∃ a cap, v = .slice a xs.length cap ∧ Row w a xs ∧ xs.length ≤ maxLen ∧ xs.length ≤ cap := by
  have h' := h
  unfold Own at h
  rcases h.2 with ⟨rfl, h0⟩ | ⟨g, cap, cur, rfl, hb, hg, hn, hm, hs, ht⟩
  · refine ⟨none, 0, by rw [h0], ?_, by rw [h0]; exact Nat.zero_le _, by omega⟩
    intro i hi; omega
  · refine ⟨_, cap, rfl, ?_, Nat.le_trans hn hm, hn⟩
    intro i hi
    refine ⟨g, 0, rfl, (Array.getElem?_eq_some_iff.1 hg).1, ?_⟩
    have := h.cellAt i (by omega)
    rw [Nat.zero_add, this, List.getElem?_map, List.getElem?_eq_getElem hi]; rfl

theorem Own.alloc {base : Nat} {w : World} {v : Value} {xs : List Int} (h : Own base w v xs) (o : Obj) : Own base (w.alloc o) v xs := World.ownsRow.alloc h o

theorem own_snoc {base : Nat} {w : World} {v : Value} {xs ys : List Int} {x : Int} (h : w.ownsRow base 3 1 v (xs.length + 1) (xs.map (Value.int .i64) ++ [.int .i64 x])) (e : ys = xs ++ [x]) : Own base w v ys := by
  subst e; unfold Own; simpa using h

theorem Row.below {w w' : World} {a : Option Addr} {xs : List Int} (h : Row w a xs) (hb : Below w.heap.size w w') : Row w' a xs := by
  intro i hi
  obtain ⟨b, off, e, hlt, hc⟩ := h i hi
  exact ⟨b, off, e, Nat.lt_of_lt_of_le hlt hb.size, (hb.cell (p := ⟨b, off + i, none⟩) hlt).trans hc⟩

theorem Own.src {base : Nat} {w : World} {v : Value} {xs : List Int} (h : Own base w v xs) (hv : v ≠ .slice none 0 0) :
    ∃ g cap, v = .slice (some ⟨g, 0, none⟩) xs.length cap ∧ base ≤ g ∧ g < w.heap.size ∧ ∀ j u, (xs.map (Value.int .i64))[j]? = some u → w.cell? ((⟨g, 0, none⟩ : Addr).add j) = some u := by
  have h' := h
  unfold Own at h
  rcases h.2 with ⟨e, _⟩ | ⟨g, cap, cur, rfl, hb, hg, hn, hm, hs, ht⟩
  · exact absurd e hv
  · exact ⟨g, cap, rfl, hb, (Array.getElem?_eq_some_iff.1 hg).1, World.ownsRow.cells h rfl⟩

theorem own_join {base : Nat} {w : World} {v : Value} {xs ys : List Int} (h : w.ownsRow base 3 1 v (xs.length + ys.length) (xs.map (Value.int .i64) ++ ys.map (Value.int .i64))) : Own base w v (xs ++ ys) := by
  unfold Own; rw [List.length_append, List.map_append]; exact h

theorem Own.below {base : Nat} {w w' : World} {v : Value} {xs : List Int} (h : Own base w v xs) (hb : Below w.heap.size w w') : Own base w' v xs := by
  unfold Own at *
  refine World.ownsRow.kept h (row := none) ⟨hb.os, hb.tape, hb.output, hb.size, fun k hk _ => hb.block k hk⟩ ?_
  cases v.ownBlock <;> simp

/-- A row of the call's own, as it was made. -/
theorem lit_row (w : World) (xs : List Int) : Row (w.alloc (.cells (xs.map (Value.int .i64)).toArray 3)) (some ⟨w.heap.size, 0, none⟩) xs := by
  intro i hi
  refine ⟨w.heap.size, 0, rfl, by simp, ?_⟩
  rw [World.cell?_alloc_at _ _ _ _ rfl]
  simp [hi]

theorem below_alloc (w : World) (o : Obj) : Below w.heap.size w (w.alloc o) := (Below.refl _ _).alloc (Nat.le_refl _) o

theorem size_alloc (w : World) (o : Obj) : (w.alloc o).heap.size = w.heap.size + 1 := by simp

theorem own_row {base : Nat} {w : World} {g cap : Nat} {xs : List Int} (h : Own base w (.slice (some ⟨g, 0, none⟩) xs.length cap) xs) : Row w (some ⟨g, 0, none⟩) xs := by
  obtain ⟨a, c, e, hr, _⟩ := h.row
  cases e
  exact hr

theorem quiet_shift {P : Program} {f : FuncId} {args : Array Value} {w : World} {n k : Nat} {v : Value}
    (h : Calls P f args (w.drewN (n + k)) fun e w' => e = .returned v ∧ w' = w.drewN (n + k)) : Calls P f args (w.drewN (n + k)) fun e w'' => e = .returned v ∧ ∃ m, w'' = w.drewN (n + m) :=
  h.mono fun _ _ ⟨he, hm⟩ => ⟨he, k, hm⟩

theorem Own.mono {base base' : Nat} {w : World} {v : Value} {xs : List Int} (h : Own base w v xs) (hb : base' ≤ base) : Own base' w v xs := by
  unfold Own at *
  refine ⟨h.1, ?_⟩
  rcases h.2 with hn | ⟨g, cap, cur, e, h1, r⟩
  · exact .inl hn
  · exact .inr ⟨g, cap, cur, e, Nat.le_trans hb h1, r⟩

end Go.Proofs.Ytlmbgaconjcaiaa

namespace Go.Proofs.Ytlmbgaconjcaiaa
open Go.RowKit

/-- A slice of slices of numbers, as it lies in memory. -/
def Grid (w : World) (a : Option Addr) (css : List (List Int)) : Prop :=
  ∀ i (h : i < css.length), ∃ b off ai ci, a = some ⟨b, off, none⟩ ∧ b < w.heap.size ∧ w.cell? ⟨b, off + i, none⟩ = some (.slice ai css[i].length ci) ∧ Row w ai css[i] ∧ css[i].length ≤ maxLen

theorem Grid.below {w w' : World} {a : Option Addr} {css : List (List Int)} (h : Grid w a css) (hb : Below w.heap.size w w') : Grid w' a css := by
  intro i hi
  obtain ⟨b, off, ai, ci, e, hlt, hc, hr, hl⟩ := h i hi
  exact ⟨b, off, ai, ci, e, Nat.lt_of_lt_of_le hlt hb.size, (hb.cell (p := ⟨b, off + i, none⟩) hlt).trans hc, hr.below hb, hl⟩

theorem Grid.drewN {w : World} {a : Option Addr} {css : List (List Int)} (h : Grid w a css) (n : Nat) : Grid (w.drewN n) a css := h

/-- How many literals a formula's clauses have. -/
def total (css : List (List Int)) : Nat := (css.map List.length).sum

def lightB (css : List (List Int)) : Bool := decide (css.length ≤ 300) && (css.all (fun c => decide (c.length ≤ 5000)) && decide (total css ≤ 6000))

theorem total_take {css : List (List Int)} {k : Nat} (h : k < css.length) : total (css.take (k + 1)) = total (css.take k) + css[k].length := by
  unfold total; rw [List.take_succ_eq_append_getElem h, List.map_append, List.sum_append]; simp

theorem total_le {css : List (List Int)} (h : css.all (fun c => decide (c.length ≤ 5000)) = true) : total css ≤ 5000 * css.length := by
  induction css with
  | nil => simp [total]
  | cons c css ih =>
    simp at h
    have := ih (by simpa using h.2)
    simp [total] at *
    omega

theorem allL_take_snoc (p : List Int → Bool) (xs : List (List Int)) (k : Nat) (h : k < xs.length) (hk : (xs.take k).all p = true) (hp : p xs[k] = true) : (xs.take (k + 1)).all p = true := by
  rw [List.take_succ_eq_append_getElem h, List.all_append, hk]; simp [hp]

theorem allL_false_at (p : List Int → Bool) (xs : List (List Int)) (k : Nat) (h : k < xs.length) (hp : p xs[k] = false) : xs.all p = false := by
  rw [List.all_eq_false]; exact ⟨xs[k], List.getElem_mem h, by simp [hp]⟩

theorem allL_of_take {p : List Int → Bool} {xs : List (List Int)} {k : Nat} (hk : xs.length ≤ k) (h : (xs.take k).all p = true) : xs.all p = true := by
  rwa [List.take_of_length_le hk] at h

set_option maxHeartbeats 1000000 in
theorem light_any (a : Option Addr) (cap : Nat) (n : Int) (css : List (List Int)) (w : World) (hg : Grid w a css) (hl : css.length ≤ maxLen) :
    Calls Try.prog 6 #[.agg #[.int .i64 n, .slice a css.length cap]] w fun e w' => e = .returned (.bool (lightB css)) ∧ Below w.heap.size w w' := by
  have hbW := below_alloc w (.cells #[.int .i64 n, .slice a css.length cap] 24)
  have hg' := hg.below hbW
  clear hg
  have HB := hide hbW
  clear hbW
  unfold maxLen at hl
  go_enter Try.func6, Try.ntmps6
  go_wp2
  go_loop [3, 4] (fun t i => ∃ k : Nat, k ≤ css.length ∧ k ≤ 301 ∧ i = .int .i64 k ∧ t = .int .i64 (total (css.take k)) ∧ (css.take k).all (fun c => decide (c.length ≤ 5000)) = true) (fun _ i => css.length - (intOf i).toNat)
  case atStart => exact ⟨0, Nat.zero_le _, by omega, rfl, rfl, rfl⟩
  case round =>
    obtain ⟨k, hk, hk3, rfl, rfl, hno⟩ := hrel
    have htl := total_le hno
    have hkl : (css.take k).length ≤ k := List.length_take_le _ _
    have HN := hide hno
    clear hno
    by_cases hlt : k < css.length
    · by_cases h3 : k ≤ 300
      · obtain ⟨b, off, ai, ci, rfl, hb, hc, hr, hm⟩ := hg' k hlt
        clear hg' hr
        unfold maxLen at hm
        have HT := hide (total_take hlt)
        by_cases h5 : (css[k].length : Int) ≤ 5000
        · have HF := hide (allL_take_snoc (fun c => decide (c.length ≤ 5000)) css k hlt HN.out (by simpa using (show css[k].length ≤ 5000 by omega)))
          go_wp2
          go_round
          case rel => exact ⟨k + 1, by omega, by omega, by go_num, by rw [HT.out]; go_num, HF.out⟩
          case measure => simp [intOf]; omega
        · have HF := hide (allL_false_at (fun c => decide (c.length ≤ 5000)) css k hlt (by simpa using (show ¬ css[k].length ≤ 5000 by omega)))
          go_wp2
          go_ret
          exact ⟨ret_bool (by unfold lightB; rw [HF.out]; simp), HB.out⟩
      · have h4 : ¬ (k : Int) ≤ 300 := by omega
        clear hg'
        go_wp2
        go_ret
        exact ⟨ret_bool (by unfold lightB; simp; omega), HB.out⟩
    · clear hg'
      have HF := hide (allL_of_take (p := fun c => decide (c.length ≤ 5000)) (xs := css) (k := k) (by omega) HN.out)
      have HE : Hid (total (css.take k) = total css) := by show _ = _; rw [List.take_of_length_le (by omega)]
      generalize total (css.take k) = T at *
      go_wp2
      all_goals
        go_ret
        exact ⟨ret_bool (by unfold lightB; rw [HF.out]; have h := HE.out; rw [Bool.eq_iff_iff]; simp; omega), HB.out⟩

/-- Is it a formula? -/
def cnfB (n : Int) (css : List (List Int)) : Bool := decide (0 ≤ n ∧ n ≤ 1048576 ∧ css.length ≤ 262144) && css.all (fun c => mayB c n)

theorem cnfB_size {n : Int} {css : List (List Int)} (h : ¬ (0 ≤ n ∧ n ≤ 1048576 ∧ css.length ≤ 262144)) : cnfB n css = false := by
  unfold cnfB; rw [decide_eq_false h]; rfl

theorem cnfB_at {n : Int} {css : List (List Int)} {k : Nat} (h : k < css.length) (hp : mayB css[k] n = false) : cnfB n css = false := by
  unfold cnfB; rw [allL_false_at _ css k h hp]; simp

theorem cnfB_yes {n : Int} {css : List (List Int)} (h : 0 ≤ n ∧ n ≤ 1048576 ∧ css.length ≤ 262144) (g : css.all (fun c => mayB c n) = true) : cnfB n css = true := by
  unfold cnfB; rw [g, decide_eq_true h]; rfl

def listsB (xs ys : List (List Int)) : Bool := decide (xs = ys)

theorem takeL_eq_snoc {xs ys : List (List Int)} {k : Nat} (h1 : k < xs.length) (h2 : k < ys.length) (h : xs.take k = ys.take k) (he : xs[k] = ys[k]) : xs.take (k + 1) = ys.take (k + 1) := by
  rw [List.take_succ_eq_append_getElem h1, List.take_succ_eq_append_getElem h2, h, he]

theorem quiet_shift2 {P : Program} {f : FuncId} {args : Array Value} {w : World} {n k : Nat} {v : Value}
    (h : Calls P f args (w.drewN (n + k)) fun e w' => e = .returned v ∧ ∃ j, w' = (w.drewN (n + k)).drewN j) : Calls P f args (w.drewN (n + k)) fun e w'' => e = .returned v ∧ ∃ m, w'' = w.drewN (n + m) :=
  h.mono fun _ _ ⟨he, j, hm⟩ => ⟨he, k + j, by rw [hm, World.drewN_drewN, Nat.add_assoc]⟩

theorem varI_eq (l : Int) : (l < 0 ∧ varI l = -l) ∨ (0 ≤ l ∧ varI l = l) := by unfold varI; split <;> omega

def sameB (n1 : Int) (xs : List (List Int)) (n2 : Int) (ys : List (List Int)) : Bool := decide (n1 = n2) && listsB xs ys

theorem below_two (w : World) (o1 o2 : Obj) : Below w.heap.size w ((w.alloc o1).alloc o2) := (below_alloc w o1).alloc (by simp) o2

/-- A literal up to the greatest one, and up to a formula's. -/
theorem mayB_vars {c : List Int} {n : Int} (h2 : n ≤ 1048576) : mayB c n = (mayB c 1048576 && c.all (fun x => decide (varI x ≤ n))) := by
  have e : ∀ x, litB x n = (litB x 1048576 && decide (varI x ≤ n)) := by
    intro x
    rw [Bool.eq_iff_iff, Bool.and_eq_true, litB_true, litB_true, decide_eq_true_eq]
    have := varI_eq x
    omega
  unfold mayB
  rw [Bool.and_assoc]
  congr 1
  induction c with
  | nil => rfl
  | cons x c ih => rw [List.all_cons, List.all_cons, List.all_cons, e x, ih]; cases litB x 1048576 <;> cases decide (varI x ≤ n) <;> simp

set_option maxHeartbeats 2000000 in
theorem refCnf_any (a : Option Addr) (cap : Nat) (n : Int) (css : List (List Int)) (w : World) (hg : Grid w a css) (hl : css.length ≤ maxLen) :
    Calls Try.prog 9 #[.agg #[.int .i64 n, .slice a css.length cap]] w fun e w' => e = .returned (.bool (cnfB n css)) ∧ Below w.heap.size w w' := by
  have hbW := below_alloc w (.cells #[.int .i64 n, .slice a css.length cap] 24)
  have hg' := hg.below hbW
  clear hg
  have HB := hide hbW
  clear hbW
  unfold maxLen at hl
  by_cases h : 0 ≤ n ∧ n ≤ 1048576 ∧ css.length ≤ 262144
  case neg =>
    have HF := hide (cnfB_size h)
    clear hg'
    by_cases h1 : n < 0
    · clear h
      go_enter Try.func9, Try.ntmps9
      go_wp2
      go_ret
      exact ⟨ret_bool HF.out.symm, HB.out⟩
    by_cases h2 : 1048576 < n
    · clear h
      go_enter Try.func9, Try.ntmps9
      go_wp2
      go_ret
      exact ⟨ret_bool HF.out.symm, HB.out⟩
    · have h3 : 262144 < (css.length : Int) := by omega
      clear h
      go_enter Try.func9, Try.ntmps9
      go_wp2
      go_ret
      exact ⟨ret_bool HF.out.symm, HB.out⟩
  have HS := hide h
  obtain ⟨h1, h2, h3⟩ := h
  have h4 : (css.length : Int) ≤ 262144 := by omega
  go_enter Try.func9, Try.ntmps9
  go_wp2
  go_loopw [3] (fun i wr => ∃ k q : Nat, k ≤ css.length ∧ i = .int .i64 k ∧ (css.take k).all (fun c => mayB c n) = true ∧ wr = (w.alloc (.cells #[.int .i64 n, .slice a css.length cap] 24)).drewN q) (fun i _ => css.length - (intOf i).toNat)
  case atStart => exact ⟨0, 0, Nat.zero_le _, rfl, rfl, rfl⟩
  case round =>
    obtain ⟨k, q, hk, rfl, hno, rfl⟩ := hrel
    have HN := hide hno
    clear hno
    by_cases hlt : k < css.length
    · obtain ⟨b, off, ai, ci, rfl, hb, hc, hr, hm⟩ := hg' k hlt
      have C1 := may_any ai ci css[k] _ (hr.drewN q) hm
      have HMV := hide (mayB_vars (c := css[k]) h2)
      have HCA := hide (@cnfB_at n css k hlt)
      have HAT := hide (allL_take_snoc (fun c => mayB c n) css k hlt HN.out)
      generalize hck : css[k] = c at *
      clear hg' hck
      unfold maxLen at hm
      have hki : (k : Int) < css.length := by omega
      by_cases h5 : mayB c 1048576 = true
      case neg =>
        have h5' : mayB c 1048576 = false := by simpa using h5
        rw [h5'] at C1
        replace C1 := hide C1
        have HF : Hid (cnfB n css = false) := HCA.out (by rw [HMV.out, h5']; rfl)
        clear h5 h5' hr
        go_wp2_with fail
        refine (unhide C1).mono ?_
        rintro e w0 ⟨rfl, hw0⟩
        subst w0
        go_wp2
        go_ret
        exact ⟨ret_bool HF.out.symm, below_drewN HB.out _⟩
      have hlc := lits_of h5
      have HM5 := hide h5
      rw [h5] at C1
      replace C1 := hide C1
      clear h5
      go_wp2_with fail
      refine (unhide C1).mono ?_
      rintro e w0 ⟨rfl, hw0⟩
      subst w0
      clear C1
      go_wp2
      go_loopw [4] (fun j wi => ∃ p r : Nat, p ≤ c.length ∧ j = .int .i64 p ∧ (c.take p).all (fun x => decide (varI x ≤ n)) = true ∧ wi = (w.alloc (.cells #[.int .i64 n, .slice (some ⟨b, off, none⟩) css.length cap] 24)).drewN r) (fun j _ => c.length - (intOf j).toNat)
      case atStart => exact ⟨0, q, Nat.zero_le _, rfl, rfl, rfl⟩
      case round =>
        obtain ⟨p, r, hp, rfl, hno2, rfl⟩ := hrel
        have HN2 := hide hno2
        clear hno2
        by_cases hplt : p < c.length
        · obtain ⟨b2, off2, rfl, hb2, hc2⟩ := hr p hplt
          have hx := hlc c[p] (List.getElem_mem hplt)
          have CV := hide (fun w => var_any c[p] w hx.1 hx.2)
          have HAS := hide (all_take_snoc (fun x => decide (varI x ≤ n)) c p hplt HN2.out)
          have HAF := hide (all_false_at (fun x => decide (varI x ≤ n)) c p hplt)
          have hpi : (p : Int) < c.length := by omega
          clear hr hx hlc
          generalize varI c[p] = v at *
          by_cases h6 : v ≤ n
          · have h6' : ¬ n < v := by omega
            have HF := hide (HAS.out (by simpa using h6))
            clear HAS HAF
            go_wp2
            go_quiet ((go_at_call 30; exact quiet_shift (unhide CV _)))
            go_wp2
            go_roundw
            case rel => exact ⟨p + 1, _, by omega, by go_num, HF.out, rfl⟩
            case measure => simp [intOf]; omega
          · have h6' : n < v := by omega
            have HF : Hid (cnfB n css = false) := HCA.out (by rw [HMV.out, HAF.out (by simpa using h6)]; simp)
            clear HAS HAF h6
            go_wp2
            go_quiet ((go_at_call 30; exact quiet_shift (unhide CV _)))
            go_wp2
            go_ret
            exact ⟨ret_bool HF.out.symm, below_drewN (below_drewN HB.out _) _⟩
        · have HF := hide (HAT.out (by show mayB c n = true; rw [HMV.out, HM5.out, all_of_take (p := fun x => decide (varI x ≤ n)) (xs := c) (k := p) (by omega) HN2.out]; rfl))
          clear hr HN2 HAT
          go_wp2
          go_roundw
          case rel => exact ⟨k + 1, _, by omega, by go_num, HF.out, rfl⟩
          case measure => simp [intOf]; omega
    · clear hg'
      have HF := hide (cnfB_yes HS.out (allL_of_take (p := fun c => mayB c n) (xs := css) (k := k) (by omega) HN.out))
      go_wp2
      go_ret
      exact ⟨ret_bool HF.out.symm, below_drewN HB.out _⟩

end Go.Proofs.Ytlmbgaconjcaiaa

namespace Go.Proofs.Ytlmbgaconjcaiaa
open Go.RowKit

theorem Try.info34 : (Try.prog.info? 34).map (fun i => (i.zero, i.size, i.bytes)) = some (some (.slice none 0 0), 1, 24) := by kernel_rfl

/-- A slice of slices, all of the call's own. -/
def OG (base : Nat) (w : World) (v : Value) (css : List (List Int)) : Prop :=
  ∃ vs : List Value, w.ownsRow base 34 1 v css.length vs ∧ ∀ i (h : i < css.length), ∃ u, vs[i]? = some u ∧ Own base w u css[i]

theorem OG.none (base : Nat) (w : World) : OG base w (.slice none 0 0) [] := ⟨[], World.ownsRow_nil _ _ _ _, fun i h => by simp at h⟩

theorem own_block {base : Nat} {w : World} {e : TypeId} {v : Value} {n : Nat} {vs : List Value} (h : w.ownsRow base e 1 v n vs) {g : Nat} (hg : v.ownBlock = some g) : ∃ cur, w.heap[g]? = some (.cells cur e (0, 0)) := by
  rcases h.2 with ⟨rfl, _⟩ | ⟨g', cap, cur, rfl, _, hh, _⟩
  · simp [Value.ownBlock] at hg
  · simp [Value.ownBlock] at hg; subst hg; exact ⟨cur, hh⟩

/-- A row of numbers and a row of slices do not lie in one place. -/
theorem own_apart {base base' : Nat} {w : World} {u v : Value} {c : List Int} {n : Nat} {vs : List Value} (h : Own base w u c) (g : w.ownsRow base' 34 1 v n vs) : u.ownBlock = Option.none ∨ u.ownBlock ≠ v.ownBlock := by
  cases hu : u.ownBlock with
  | none => exact .inl rfl
  | some k =>
    right
    intro e
    obtain ⟨c1, e1⟩ := own_block h hu
    obtain ⟨c2, e2⟩ := own_block g e.symm
    rw [e1] at e2
    simp at e2

theorem OG.below {base : Nat} {w w' : World} {v : Value} {css : List (List Int)} (h : OG base w v css) (hb : Below w.heap.size w w') : OG base w' v css := by
  obtain ⟨vs, h1, h2⟩ := h
  refine ⟨vs, World.ownsRow.kept h1 (row := Option.none) ⟨hb.os, hb.tape, hb.output, hb.size, fun k hk _ => hb.block k hk⟩ (by cases v.ownBlock <;> simp), fun i hi => ?_⟩
  obtain ⟨u, e, ho⟩ := h2 i hi
  exact ⟨u, e, ho.below hb⟩

/-- One clause more. -/
theorem OG.snoc {base : Nat} {w w' : World} {v v' u : Value} {css : List (List Int)} {c : List Int} {vs : List Value}
    (h1 : w.ownsRow base 34 1 v css.length vs) (h2 : ∀ i (h : i < css.length), ∃ u, vs[i]? = some u ∧ Own base w u css[i]) (hu : Own base w u c)
    (h3 : w'.ownsRow base 34 1 v' (css.length + 1) (vs ++ [u])) (hg : w.grownBy w' v.ownBlock) : OG base w' v' (css ++ [c]) := by
  have hl : vs.length = css.length := by simpa using h1.1
  refine ⟨vs ++ [u], by simpa using h3, fun i hi => ?_⟩
  rcases Nat.lt_or_ge i css.length with h | h
  · obtain ⟨x, e, ho⟩ := h2 i h
    refine ⟨x, by rw [List.getElem?_append_left (by omega)]; exact e, ?_⟩
    rw [List.getElem_append_left h]
    exact World.ownsRow.kept ho hg (own_apart ho h1)
  · have e : i = css.length := by simp at hi; omega
    subst e
    refine ⟨u, by rw [List.getElem?_append_right (by omega), hl]; simp, ?_⟩
    rw [List.getElem_append_right (Nat.le_refl _)]
    simp only [Nat.sub_self, List.getElem_cons_zero]
    exact World.ownsRow.kept hu hg (own_apart hu h1)

theorem OG.setCell {base : Nat} {w : World} {v : Value} {css : List (List Int)} (h : OG base w v css) {G j : Nat} {cs : Array Value} {x : Value} (hG : w.heap[G]? = some (.cells cs 24 (0, 0))) : OG base (w.setCell ⟨G, j, Option.none⟩ x) v css := by
  have key : ∀ {e : TypeId} {u : Value} {n : Nat} {ys : List Value}, e ≠ 24 → w.ownsRow base e 1 u n ys → u.ownBlock ≠ some G := by
    intro e u n ys he hu hk
    obtain ⟨cur, hc⟩ := own_block hu hk
    rw [hG] at hc
    simp at hc
    exact he hc.2.symm
  obtain ⟨vs, h1, h2⟩ := h
  refine ⟨vs, ownsRow_setCell_other h1 (key (by decide) h1) x, fun i hi => ?_⟩
  obtain ⟨u, e, ho⟩ := h2 i hi
  exact ⟨u, e, ownsRow_setCell_other ho (key (by decide) ho) x⟩

theorem OG.grid {base : Nat} {w : World} {v : Value} {css : List (List Int)} (h : OG base w v css) : ∃ a cap, v = .slice a css.length cap ∧ Grid w a css ∧ css.length ≤ maxLen := by
  obtain ⟨vs, h1, h2⟩ := h
  have hl : vs.length = css.length := by simpa using h1.1
  rcases h1.2 with ⟨rfl, h0⟩ | ⟨g, cap, cur, rfl, hb, hg, hn, hm, hs, ht⟩
  · refine ⟨Option.none, 0, by rw [h0], fun i hi => by omega, by rw [h0]; exact Nat.zero_le _⟩
  · refine ⟨_, cap, rfl, fun i hi => ?_, Nat.le_trans hn hm⟩
    obtain ⟨u, e, ho⟩ := h2 i hi
    obtain ⟨ai, ci, rfl, hr, hlen, _⟩ := ho.row
    refine ⟨g, 0, ai, ci, rfl, (Array.getElem?_eq_some_iff.1 hg).1, ?_, hr, hlen⟩
    have := h1.cellAt i (by omega)
    rw [Nat.zero_add, this, e]

theorem OG.mono {base base' : Nat} {w : World} {v : Value} {css : List (List Int)} (h : OG base w v css) (hb : base' ≤ base) : OG base' w v css := by
  obtain ⟨vs, h1, h2⟩ := h
  refine ⟨vs, ⟨h1.1, ?_⟩, fun i hi => ?_⟩
  · rcases h1.2 with hn | ⟨g, cap, cur, e, g1, r⟩
    · exact .inl hn
    · exact .inr ⟨g, cap, cur, e, Nat.le_trans hb g1, r⟩
  · obtain ⟨u, e, ho⟩ := h2 i hi
    exact ⟨u, e, ho.mono hb⟩

end Go.Proofs.Ytlmbgaconjcaiaa

namespace Go.Proofs.Ytlmbgaconjcaiaa
open Go.RowKit

set_option maxHeartbeats 400000 in
theorem isLiteral_any (l t : Int) (w : World) (h0 : 0 ≤ t) (h1 : t ≤ 1048576) :
    Calls Try.prog 75 #[.int .i64 l, .int .i64 t] w fun e w' => e = .returned (.bool (litB l t)) ∧ w' = w := by
  go_enter Try.func75, Try.ntmps75
  go_wp2
  all_goals
    go_ret
    exact ⟨ret_bool (by simp [litB, *]; try omega), rfl⟩

set_option maxHeartbeats 400000 in
theorem has_any (a : Option Addr) (cap : Nat) (xs : List Int) (n : Int) (w : World) (hr : Row w a xs) (hl : xs.length ≤ maxLen) :
    Calls Try.prog 40 #[.slice a xs.length cap, .int .i64 n] w fun e w' => e = .returned (.bool (hasB xs n)) ∧ w' = w := by
  unfold maxLen at hl
  go_enter Try.func40, Try.ntmps40
  go_wp2
  go_loop [5] (fun i => ∃ k : Nat, k ≤ xs.length ∧ i = .int .i64 k ∧ (xs.take k).any (fun x => x == n) = false) (fun i => xs.length - (intOf i).toNat)
  case atStart => exact ⟨0, Nat.zero_le _, rfl, rfl⟩
  case round =>
    obtain ⟨k, hk, rfl, hno⟩ := hrel
    have HN : Hid ((xs.take k).any (fun x => x == n) = false) := hno
    clear hno
    by_cases hlt : k < xs.length
    · obtain ⟨b, off, rfl, hb, hc⟩ := hr k hlt
      clear hr
      by_cases he : (xs[k] == n) = true
      · go_wp2
        go_ret
        exact ⟨ret_bool (any_true_at _ xs k hlt he).symm, rfl⟩
      · have he' : (xs[k] == n) = false := by simpa using he
        go_wp2
        go_round
        case rel => exact ⟨k + 1, by omega, by go_num, any_take_snoc _ xs k hlt HN.out he'⟩
        case measure => simp [intOf]; omega
    · have hz : k = xs.length := by omega
      clear hr
      go_wp2
      go_ret
      exact ⟨ret_bool (by have h := HN.out; rw [hz, List.take_length] at h; exact h.symm), rfl⟩

set_option maxHeartbeats 400000 in
theorem isClause_any (a : Option Addr) (cap : Nat) (xs : List Int) (t : Int) (w : World) (hr : Row w a xs) (hl : xs.length ≤ maxLen) (h0 : 0 ≤ t) (h1 : t ≤ 1048576) :
    Calls Try.prog 58 #[.slice a xs.length cap, .int .i64 t] w fun e w' => e = .returned (.bool (mayB xs t)) ∧ w' = w := by
  unfold maxLen at hl
  by_cases hw : 4096 < (xs.length : Int)
  · go_enter Try.func58, Try.ntmps58
    go_wp2
    go_ret
    exact ⟨ret_bool (mayB_long (by omega)).symm, rfl⟩
  go_enter Try.func58, Try.ntmps58
  go_wp2
  go_loop [12] (fun i => ∃ k : Nat, k ≤ xs.length ∧ i = .int .i64 k ∧ (xs.take k).all (fun x => litB x t) = true) (fun i => xs.length - (intOf i).toNat)
  case atStart => exact ⟨0, Nat.zero_le _, rfl, rfl⟩
  case round =>
    obtain ⟨k, hk, rfl, hno⟩ := hrel
    have HN : Hid ((xs.take k).all (fun x => litB x t) = true) := hno
    clear hno
    by_cases hlt : k < xs.length
    · obtain ⟨b, off, rfl, hb, hc⟩ := hr k hlt
      clear hr
      by_cases he : litB xs[k] t = true
      · go_wp2_with (go_at_call 75; refine (isLiteral_any _ _ _ h0 h1).mono ?_; rintro e w' ⟨rfl, rfl⟩)
        go_round
        case rel => exact ⟨k + 1, by omega, by go_num, all_take_snoc _ xs k hlt HN.out he⟩
        case measure => simp [intOf]; omega
      · have he' : litB xs[k] t = false := by simpa using he
        go_wp2_with (go_at_call 75; refine (isLiteral_any _ _ _ h0 h1).mono ?_; rintro e w' ⟨rfl, rfl⟩)
        go_ret
        exact ⟨ret_bool (mayB_no k hlt he').symm, rfl⟩
    · have hz : xs.length ≤ k := by omega
      clear hr
      go_wp2
      go_ret
      exact ⟨ret_bool (mayB_of (by omega) (all_of_take hz HN.out)).symm, rfl⟩

set_option maxHeartbeats 400000 in
theorem refValue_any (a : Option Addr) (cap : Nat) (m : List Int) (l : Int) (w : World) (hr : Row w a m) (hl : m.length ≤ maxLen) :
    Calls Try.prog 23 #[.slice a m.length cap, .int .i64 l] w fun e w' => e = .returned (.int .i64 (valI m l)) ∧ w' = w := by
  unfold maxLen at hl
  by_cases h0 : litB l 1048576 = true
  case neg =>
    have h0' : litB l 1048576 = false := by simpa using h0
    clear h0
    have HV := hide (valI_none (m := m) h0')
    clear hr
    go_enter Try.func23, Try.ntmps23
    go_wp2_with (go_at_call 53; refine (lit_any _ _).mono ?_; rintro e w' ⟨rfl, rfl⟩)
    go_ret
    exact ⟨ret_int HV.out.symm, rfl⟩
  have hb := litB_true.1 h0
  obtain ⟨hb0, hb1, hb2⟩ := hb
  have hv1 := varI_pos hb0
  have hv2 := (varI_bd hb1 hb2).2
  by_cases h1 : varI l ≤ m.length
  case neg =>
    have HV := hide (valI_beyond (m := m) (l := l) (by omega))
    have h1' : (m.length : Int) < varI l := by omega
    clear hr h1 hb0
    go_enter Try.func23, Try.ntmps23
    go_wp2_with (first | (go_at_call 53; refine (lit_any _ _).mono ?_; rintro e w' ⟨rfl, rfl⟩) | (go_at_call 30; refine (var_any _ _ hb1 hb2).mono ?_; rintro e w' ⟨rfl, rfl⟩))
    go_ret
    exact ⟨ret_int HV.out.symm, rfl⟩
  have HV := hide (valI_at h0 h1)
  obtain ⟨b, off, rfl, hb, hc⟩ := hr.at (varI l) hv1 h1
  clear hr
  generalize hxx : m.getD ((varI l).toNat - 1) 0 = x at *
  clear hxx
  have HL := hide hb0
  clear hb0
  by_cases hx : x = 0
  · have hx0 : (x == 0) = true := by simp [hx]
    have HS : Hid (sgn x = 0) := by rw [hx]; rfl
    clear hx
    go_enter Try.func23, Try.ntmps23
    go_wp2_with (first | (go_at_call 53; refine (lit_any _ _).mono ?_; rintro e w' ⟨rfl, rfl⟩) | (go_at_call 30; refine (var_any _ _ hb1 hb2).mono ?_; rintro e w' ⟨rfl, rfl⟩))
    go_ret
    exact ⟨ret_int (by rw [HV.out, HS.out]; simp), rfl⟩
  · have hx0 : (x == 0) = false := by simpa using hx
    clear hx
    go_enter Try.func23, Try.ntmps23
    go_wp2_with (first | (go_at_call 53; refine (lit_any _ _).mono ?_; rintro e w' ⟨rfl, rfl⟩) | (go_at_call 30; refine (var_any _ _ hb1 hb2).mono ?_; rintro e w' ⟨rfl, rfl⟩))
    · go_ret
      exact ⟨ret_int (by rw [HV.out]; exact sgn_same ‹_› hx0 HL.out), rfl⟩
    · go_ret
      exact ⟨ret_int (by rw [HV.out]; exact sgn_other ‹_› hx0 HL.out), rfl⟩

set_option maxHeartbeats 400000 in
theorem refClause_any (a b : Option Addr) (ca cb : Nat) (m c : List Int) (w : World) (hr : Row w a m) (hs : Row w b c) (hl : m.length ≤ maxLen) (hm : c.length ≤ maxLen) :
    Calls Try.prog 25 #[.slice a m.length ca, .slice b c.length cb] w fun e w' => e = .returned (.int .i64 (clauseI m c)) ∧ w' = w := by
  have hval := hide (fun l => refValue_any a ca m l w hr hl)
  clear hr
  unfold maxLen at hl hm
  go_enter Try.func25, Try.ntmps25
  go_wp2
  go_loop [5, 6] (fun v i => ∃ k : Nat, k ≤ c.length ∧ i = .int .i64 k ∧ v = .bool ((c.take k).any (fun l => valI m l == 0)) ∧ (c.take k).any (fun l => valI m l == 1) = false) (fun _ i => c.length - (intOf i).toNat)
  case atStart => exact ⟨0, Nat.zero_le _, rfl, rfl, rfl⟩
  case round =>
    obtain ⟨k, hk, rfl, rfl, hno⟩ := hrel
    have HN := hide hno
    clear hno
    by_cases hlt : k < c.length
    · obtain ⟨b1, off1, rfl, hb1, hc1⟩ := hs k hlt
      clear hs
      have HO := hide (any_take_or (fun l => valI m l == 0) c k hlt)
      generalize hv : valI m c[k] = v at *
      have HV := hide hv
      have HVV : Hid ((fun l => valI m l == 0) c[k] = (v == 0)) := by show (valI m c[k] == 0) = _; rw [hv]
      have hval' : Calls Try.prog 23 #[.slice a m.length ca, .int .i64 c[k]] w fun e w' => e = .returned (.int .i64 v) ∧ w' = w := by rw [← hv]; exact unhide hval _
      have hcl := hide hval'
      clear hval hval' hv
      by_cases h1 : v = 1
      · have h1' : (v == 1) = true := by simp [h1]
        have HF : Hid (clauseI m c = 1) := clauseI_one (any_true_at _ c k hlt (by have := HV.out; show (valI m c[k] == 1) = true; rw [this]; exact h1'))
        clear h1
        go_wp2_with (go_at_call 23; refine (unhide hcl).mono ?_; rintro e w' ⟨rfl, rfl⟩)
        go_ret
        exact ⟨ret_int HF.out.symm, rfl⟩
      · have h1' : (v == 1) = false := by simp [h1]
        have HF : Hid ((c.take (k + 1)).any (fun l => valI m l == 1) = false) := any_take_snoc _ c k hlt HN.out (by have := HV.out; show (valI m c[k] == 1) = false; rw [this]; exact h1')
        clear h1
        generalize hop : (c.take k).any (fun l => valI m l == 0) = op at *
        have HOP := hide hop
        clear hop
        cases op
        all_goals
          go_wp2_with (go_at_call 23; refine (unhide hcl).mono ?_; rintro e w' ⟨rfl, rfl⟩)
          go_round
          case rel => exact ⟨k + 1, by omega, by go_num, by rw [HO.out]; first | rfl | simp, HF.out⟩
          case measure => simp [intOf]; omega
    · clear hs
      have hz : c.length ≤ k := by omega
      have HN' := hide (any_of_take hz HN.out)
      have HO : Hid ((c.take k).any (fun l => valI m l == 0) = c.any (fun l => valI m l == 0)) := by show _ = _; rw [List.take_of_length_le hz]
      generalize hop : (c.take k).any (fun l => valI m l == 0) = op at *
      clear hop
      cases op
      · go_wp2
        go_ret
        exact ⟨ret_int (clauseI_low HN'.out HO.out.symm).symm, rfl⟩
      · go_wp2
        go_ret
        exact ⟨ret_int (clauseI_zero HN'.out HO.out.symm).symm, rfl⟩

set_option maxHeartbeats 800000 in
theorem refWithout_any (a : Option Addr) (cap : Nat) (xs : List Int) (n : Int) (w : World) (hr : Row w a xs) (hl : xs.length ≤ 5000) :
    Calls Try.prog 42 #[.slice a xs.length cap, .int .i64 n] w fun e w' => ∃ v, e = .returned v ∧ Own w.heap.size w' v (wo xs n) ∧ v ≠ .slice none 0 0 ∧ Below w.heap.size w w' := by
  obtain ⟨i0, hi, hz0, hz1, hz2⟩ := info_parts Try.info3
  go_enter Try.func42, Try.ntmps42
  go_wp2
  go_loopw [5, 6] (fun v i wr => ∃ k : Nat, k ≤ xs.length ∧ i = .int .i64 k ∧ Own w.heap.size wr v (wo (xs.take k) n) ∧ v ≠ .slice none 0 0 ∧ Below w.heap.size w wr) (fun _ i _ => xs.length - (intOf i).toNat)
  case atStart => exact ⟨0, Nat.zero_le _, rfl, World.ownsRow_lit (e := 3) (size := 1) w #[] 0 (Nat.le_refl _) (Nat.zero_le _) rfl, (by simp), (Below.refl _ _).alloc (Nat.le_refl _) _⟩
  case round =>
    obtain ⟨k, hk, rfl, hown, hnn, hbel⟩ := hrel
    by_cases hlt : k < xs.length
    · obtain ⟨b, off, rfl, hb, hc⟩ := hr k hlt
      clear hr
      have hc' := (hbel.cell (p := ⟨b, off + k, none⟩) hb).trans hc
      have hwl := wo_len_take xs n k
      by_cases he : (xs[k] != n) = true
      · have HE := hide (wo_take_hit hlt he)
        clear hc hb
        go_wp2_with (at_builtin; refine wpList_append_own _ rfl _ _ 34 rfl w.heap.size 3 i0 (.int .i64 0) 1 8 Try.underlying34 hi hz0 hz1 hz2 rfl (by decide) _ _ _ rfl (hown.alloc _) ⟨wr.heap.size, 0, none⟩ 1 1 [.int .i64 xs[k]] rfl rfl (cell_one_new _ _ _) (fun x hx => by simp at hx; subst hx; rfl) (by unfold maxLen; omega) (by omega) (by have := hbel.size; simp; omega) ?_; intro v' w2 hown2 hgrow2 hnil)
        have hnn2 : v' ≠ .slice none 0 0 := fun h => absurd (hnil.1 h).2 (by decide)
        have hown3 := own_snoc hown2 HE.out
        have hbel3 := ((hbel.alloc hbel.size (.cells #[.int .i64 xs[k]] 3)).grown hgrow2 (by have := hbel.size; simp; omega) (fun g hg => (hown.lt g hg).1))
        clear hown2 hgrow2 hnil
        go_wp2
        go_roundw
        case rel => exact ⟨k + 1, by omega, by go_num, hown3, hnn2, hbel3⟩
        case measure => simp [intOf]; omega
      · have he' : (xs[k] != n) = false := by simpa using he
        have HE := hide (wo_take_miss hlt he')
        clear hc hb he
        go_wp2
        go_roundw
        case rel => exact ⟨k + 1, by omega, by go_num, by rw [HE.out]; exact hown, hnn, hbel⟩
        case measure => simp [intOf]; omega
    · clear hr
      go_wp2
      go_ret
      exact ⟨_, rfl, by rw [List.take_of_length_le (by omega)] at hown; exact hown, hnn, hbel⟩

set_option maxHeartbeats 1000000 in
theorem checkCnf_any (a : Option Addr) (cap : Nat) (n : Int) (css : List (List Int)) (w : World) (hg : Grid w a css) (hl : css.length ≤ maxLen) :
    Calls Try.prog 31 #[.agg #[.int .i64 n, .slice a css.length cap]] w fun e w' => e = .returned (.int .i64 (errI (cnfB n css))) ∧ Below w.heap.size w w' := by
  have hbW := below_alloc w (.cells #[.int .i64 n, .slice a css.length cap] 24)
  have hg' := hg.below hbW
  clear hg
  have HB := hide hbW
  clear hbW
  unfold maxLen at hl
  by_cases h : 0 ≤ n ∧ n ≤ 1048576 ∧ css.length ≤ 262144
  case neg =>
    have HF := hide (cnfB_size h)
    clear hg'
    by_cases h1 : n < 0
    · clear h
      go_enter Try.func31, Try.ntmps31
      go_wp2
      go_ret
      exact ⟨ret_int (by rw [HF.out]; rfl), HB.out⟩
    by_cases h2 : 1048576 < n
    · clear h
      go_enter Try.func31, Try.ntmps31
      go_wp2
      go_ret
      exact ⟨ret_int (by rw [HF.out]; rfl), HB.out⟩
    · have h3 : 262144 < (css.length : Int) := by omega
      clear h
      go_enter Try.func31, Try.ntmps31
      go_wp2
      go_ret
      exact ⟨ret_int (by rw [HF.out]; rfl), HB.out⟩
  have HS := hide h
  obtain ⟨h1, h2, h3⟩ := h
  have h4 : (css.length : Int) ≤ 262144 := by omega
  go_enter Try.func31, Try.ntmps31
  go_wp2
  go_loop [22] (fun i => ∃ k : Nat, k ≤ css.length ∧ i = .int .i64 k ∧ (css.take k).all (fun c => mayB c n) = true) (fun i => css.length - (intOf i).toNat)
  case atStart => exact ⟨0, Nat.zero_le _, rfl, rfl⟩
  case round =>
    obtain ⟨k, hk, rfl, hno⟩ := hrel
    have HN := hide hno
    clear hno
    by_cases hlt : k < css.length
    · obtain ⟨b, off, ai, ci, rfl, hb, hc, hr, hm⟩ := hg' k hlt
      have C1 := isClause_any ai ci css[k] n _ hr hm h1 h2
      clear hg' hr
      unfold maxLen at hm
      by_cases h5 : mayB css[k] n = true
      · have HF := hide (allL_take_snoc (fun c => mayB c n) css k hlt HN.out h5)
        rw [h5] at C1
        replace C1 := hide C1
        clear h5
        go_wp2_with (go_at_call 58; refine (unhide C1).mono ?_; rintro e w' ⟨rfl, rfl⟩)
        go_round
        case rel => exact ⟨k + 1, by omega, by go_num, HF.out⟩
        case measure => simp [intOf]; omega
      · have h5' : mayB css[k] n = false := by simpa using h5
        have HF := hide (cnfB_at hlt h5')
        rw [h5'] at C1
        replace C1 := hide C1
        clear h5 h5'
        go_wp2_with (go_at_call 58; refine (unhide C1).mono ?_; rintro e w' ⟨rfl, rfl⟩)
        go_ret
        exact ⟨ret_int (by rw [HF.out]; rfl), HB.out⟩
    · clear hg'
      have HF := hide (cnfB_yes HS.out (allL_of_take (p := fun c => mayB c n) (xs := css) (k := k) (by omega) HN.out))
      go_wp2
      go_ret
      exact ⟨ret_int (by rw [HF.out]; rfl), HB.out⟩

def holdsB (m : List Int) (css : List (List Int)) : Bool := css.all (fun c => clauseI m c == 1)

set_option maxHeartbeats 1000000 in
theorem refHolds_any (a am : Option Addr) (cap cm : Nat) (n : Int) (css : List (List Int)) (m : List Int) (w : World) (hg : Grid w a css) (hl : css.length ≤ maxLen) (hq : Row w am m) (hml : m.length ≤ maxLen) :
    Calls Try.prog 24 #[.agg #[.int .i64 n, .slice a css.length cap], .slice am m.length cm] w fun e w' => e = .returned (.bool (holdsB m css)) ∧ Below w.heap.size w w' := by
  have hbW := below_alloc w (.cells #[.int .i64 n, .slice a css.length cap] 24)
  have hg' := hg.below hbW
  have hq' := hq.below hbW
  clear hg hq
  have HB := hide hbW
  have HQ := hide hq'
  have HML := hide hml
  clear hbW hq' hml
  unfold maxLen at hl
  go_enter Try.func24, Try.ntmps24
  go_wp2
  go_loop [5] (fun i => ∃ k : Nat, k ≤ css.length ∧ i = .int .i64 k ∧ (css.take k).all (fun c => clauseI m c == 1) = true) (fun i => css.length - (intOf i).toNat)
  case atStart => exact ⟨0, Nat.zero_le _, rfl, rfl⟩
  case round =>
    obtain ⟨k, hk, rfl, hno⟩ := hrel
    have HN := hide hno
    clear hno
    by_cases hlt : k < css.length
    · obtain ⟨b, off, ai, ci, rfl, hb, hc, hr, hm⟩ := hg' k hlt
      have C1 := hide (refClause_any am ai cm ci m css[k] _ HQ.out hr HML.out hm)
      clear hg' hr
      unfold maxLen at hm
      by_cases h5 : clauseI m css[k] = 1
      · have h5' : (clauseI m css[k] != 1) = false := by simp [h5]
        have HF := hide (allL_take_snoc (fun c => clauseI m c == 1) css k hlt HN.out (by simp [h5]))
        clear h5
        generalize clauseI m css[k] = q at *
        go_wp2_with (go_at_call 25; refine (unhide C1).mono ?_; rintro e w' ⟨rfl, rfl⟩)
        go_round
        case rel => exact ⟨k + 1, by omega, by go_num, HF.out⟩
        case measure => simp [intOf]; omega
      · have h5' : (clauseI m css[k] != 1) = true := by simp [h5]
        have HF := hide (allL_false_at (fun c => clauseI m c == 1) css k hlt (by simp [h5]))
        clear h5
        generalize clauseI m css[k] = q at *
        go_wp2_with (go_at_call 25; refine (unhide C1).mono ?_; rintro e w' ⟨rfl, rfl⟩)
        go_ret
        exact ⟨ret_bool HF.out.symm, HB.out⟩
    · clear hg'
      have HF := hide (allL_of_take (p := fun c => clauseI m c == 1) (xs := css) (k := k) (by omega) HN.out)
      go_wp2
      go_ret
      exact ⟨ret_bool HF.out.symm, HB.out⟩

end Go.Proofs.Ytlmbgaconjcaiaa
