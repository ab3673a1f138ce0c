/- Contracts: whether each number of a list is in another one. -/
import Derived.Test.YtiddcpemckifmaaWalkI
import Derived.Test.YtiddcpemckifmaaShelf3
set_option linter.unusedVariables false
set_option linter.unusedSimpArgs false
namespace Go.Proofs.Ytiddcpemckifmaa
open Go.RowKit Go.Sort Go.Shelf

theorem sortI_any (base : Nat) (v : Value) (xs : List Int) (w : World) (h : Own base w v xs) (hl : xs.length ≤ 20000) (hb : base ≤ w.heap.size) :
    Calls Try.prog 37 #[v] w fun e w' => e = .returned (.tuple #[]) ∧ ∃ ys : List Int, (∀ x, x ∈ ys ↔ x ∈ xs) ∧ ys.length = xs.length ∧ ys.Pairwise (· ≤ ·) ∧ Own base w' v ys ∧ Below base w w' := by
  by_cases hv : v = .slice none 0 0
  · have h0 : xs.length = 0 := by
      rcases h.2 with ⟨_, h0⟩ | ⟨g, cap, cur, e, _⟩
      · exact h0
      · rw [hv] at e; cases e
    have hx : xs = [] := List.length_eq_zero_iff.1 h0
    subst hv; subst hx
    refine (Any.slices_Sort_int_none Try.lays189 none 0 w).mono ?_
    rintro e w' ⟨rfl, rfl⟩
    exact ⟨rfl, [], by simp, rfl, List.Pairwise.nil, World.ownsRow_nil _ _ _ _, Below.refl _ _⟩
  obtain ⟨g, cap, rfl, hbg, hgl, hcap, hcm, _, hH⟩ := Lib.holds_of_ownsRow h hv
  refine (Any.slices_Sort_int Try.lays189 g 0 cap xs w hH hgl (by omega)).mono ?_
  rintro e w' ⟨rfl, n, os, rfl⟩
  have hlen : (xs.mergeSort fun x y => decide (x ≤ y)).length = xs.length := List.length_mergeSort xs
  have hpw : (xs.mergeSort fun x y => decide (x ≤ y)).Pairwise (· ≤ ·) := by
    have := List.pairwise_mergeSort (le := fun x y : Int => decide (x ≤ y)) (by intro a b c; simp; omega) (by intro a b; simp; omega) xs
    exact this.imp (by intro a b h; simpa using h)
  refine ⟨rfl, _, fun x => (List.mergeSort_perm xs _).mem_iff, hlen, hpw, ?_, ?_⟩
  · have hc := Lib.ownsRow_putRow (q := n) (k := xs.length) (ys := xs.mergeSort fun x y => decide (x ≤ y)) h hlen (Nat.le_refl _)
    rw [List.take_of_length_le (by omega)] at hc
    unfold Own
    rw [hlen]
    exact World.ownsRow.kept hc (grown_grow _ os) (by right; simp [Value.ownBlock])
  · exact (Lib.below_putRow (Below.refl _ _) hbg).grown (grown_grow _ os) (by simp [putRow, mapBlock, Sort.ahead]; omega) (by intro k hk; cases hk)

theorem search_any (a : Option Addr) (cap : Nat) (ys : List Int) (x : Int) (w : World) (hr : Row w a ys) (hl : ys.length ≤ 20000) (hs : ys.Pairwise (· ≤ ·)) :
    Calls Try.prog 38 #[.slice a ys.length cap, .int .i64 x] w fun e w' => ∃ i : Int, e = .returned (.tuple #[.int .i64 i, .bool (hasB ys x)]) ∧ ∃ q, w' = w.drewN q := by
  rcases hr.cells with rfl | ⟨b, off, rfl, hb, hc⟩
  · refine (Any.slices_BinarySearch_int_empty Try.laysNm225 a cap x w).mono ?_
    rintro e w' ⟨rfl, rfl⟩
    exact ⟨0, rfl, 0, rfl⟩
  · refine (Any.slices_BinarySearch_int Try.laysNm225 b off ys.length cap ys x w (Nat.le_refl _) (by omega) hc (by rw [List.take_length]; exact hs)).mono ?_
    rintro e w' ⟨rfl, q, rfl⟩
    refine ⟨(((ys.take ys.length).countP (· < x) : Nat) : Int), ?_, q, rfl⟩
    have : (ys.take ys.length).contains x = hasB ys x := by
      rw [List.take_length, List.contains_eq_any_beq]
      unfold hasB
      congr 1
      funext x
      exact Bool.beq_comm
    rw [this]

/-- Is each number of a list in another one? -/
def withinB (xs ys : List Int) : Bool := xs.all (fun x => hasB ys x)

theorem hasB_same {xs ys : List Int} (h : ∀ x, x ∈ xs ↔ x ∈ ys) (n : Int) : hasB xs n = hasB ys n := by
  rw [Bool.eq_iff_iff, hasB_iff, hasB_iff]; exact h n

set_option maxHeartbeats 800000 in
theorem within_any (a b : Option Addr) (ca cb : Nat) (xs ys : List Int) (w : World) (hr : Row w a xs) (hs : Row w b ys) (hl : xs.length ≤ 5000) (hm : ys.length ≤ 5000) :
    Calls Try.prog 15 #[.slice a xs.length ca, .slice b ys.length cb] w fun e w' => e = .returned (.bool (withinB xs ys)) ∧ Below w.heap.size w w' := by
  have C1 := hide (clone_any b cb ys w hs hm)
  clear hs
  go_enter Try.func15, Try.ntmps15
  go_wp2_with fail
  refine (unhide C1).mono ?_
  rintro e w1 ⟨v1, rfl, hown1, hbel1⟩
  have C2 := hide (sortI_any w.heap.size v1 ys w1 hown1 (by omega) hbel1.size)
  clear hown1 C1
  go_wp2_with fail
  refine (unhide C2).mono ?_
  rintro e w2 ⟨rfl, zs, hmem, hzl, hpw, hown2, hbel2⟩
  obtain ⟨a2, cap2, rfl, hrow2, hml2, hcap2⟩ := hown2.row
  have hbel := hbel1.trans hbel2
  have HR := hide (hr.below hbel)
  have C3 := hide (fun (x : Int) (n : Nat) => search_any a2 cap2 zs x (w2.drewN n) (hrow2.drewN n) (by omega) hpw)
  have HE := hide (fun n => hasB_same hmem n)
  clear hown2 hrow2 C2 hr hbel1 hbel2 hpw hmem hcap2 hzl
  unfold maxLen at hml2
  go_wp2
  go_loopw [16] (fun i wr => ∃ k n : Nat, k ≤ xs.length ∧ i = .int .i64 k ∧ (xs.take k).all (fun x => hasB ys x) = true ∧ wr = w2.drewN n) (fun i _ => xs.length - (intOf i).toNat)
  case atStart => exact ⟨0, 0, Nat.zero_le _, rfl, rfl, rfl⟩
  case round =>
    obtain ⟨k, n, hk, rfl, hno, rfl⟩ := hrel
    have HN := hide hno
    clear hno
    by_cases hlt : k < xs.length
    · obtain ⟨b1, off1, rfl, hb1, hc1⟩ := HR.out k hlt
      clear HR
      have C4 := unhide C3 xs[k] n
      rw [HE.out xs[k]] at C4
      have C4 := hide C4
      by_cases he : hasB ys xs[k] = true
      · rw [he] at C4
        have HF := hide (all_take_snoc (fun x => hasB ys x) xs k hlt HN.out he)
        clear he C3
        go_wp2_with fail
        refine (unhide C4).mono ?_
        rintro e w3 ⟨i, rfl, q, rfl⟩
        go_wp2
        go_roundw
        case rel => exact ⟨k + 1, _, by omega, by go_num, HF.out, rfl⟩
        case measure => simp [intOf]; omega
      · have he' : hasB ys xs[k] = false := by simpa using he
        rw [he'] at C4
        have HF := hide (all_false_at (fun x => hasB ys x) xs k hlt he')
        clear he he' C3
        go_wp2_with fail
        refine (unhide C4).mono ?_
        rintro e w3 ⟨i, rfl, q, rfl⟩
        go_wp2
        go_ret
        exact ⟨ret_bool HF.out.symm, below_drewN hbel _⟩
    · have HF := hide (all_of_take (p := fun x => hasB ys x) (xs := xs) (k := k) (by omega) HN.out)
      clear HR HN
      go_wp2
      go_ret
      exact ⟨ret_bool HF.out.symm, below_drewN hbel _⟩

end Go.Proofs.Ytiddcpemckifmaa
