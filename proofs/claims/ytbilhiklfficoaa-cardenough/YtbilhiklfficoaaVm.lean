/- Contracts: Const, In, Neg, Div, Number. -/
import Derived.Test.YtbilhiklfficoaaVl
import Derived.Test.YtbilhiklfficoaaEvB
set_option linter.unusedVariables false
set_option linter.unusedSimpArgs false
namespace Go.Proofs.Ytbilhiklfficoaa
open Go.RowKit Go.Maps

/-- A constant's literals. -/
def constL (x : Int) (n : Nat) : List Int := (List.range n).map fun (i : Nat) => x / 2 ^ i % 2
theorem constL_len (x : Int) (n : Nat) : (constL x n).length = n := by simp [constL]
theorem constL_at (x : Int) (n i : Nat) (h : i < n) : (constL x n)[i]'(by rw [constL_len]; exact h) = x / 2 ^ i % 2 := by simp [constL]

theorem div_i64 {x : Int} (h1 : -9223372036854775808 ≤ x) (h2 : x ≤ 9223372036854775807) (k : Nat) : inI64 (x / 2 ^ k) := by
  have hP : (1 : Int) ≤ 2 ^ k := by
    have : (0 : Int) < 2 ^ k := Int.pow_pos (by omega)
    omega
  generalize (2 : Int) ^ k = P at *
  unfold inI64
  by_cases h0 : 0 ≤ x
  · have a := Int.ediv_nonneg h0 (by omega : 0 ≤ P)
    have b := Int.ediv_le_self P h0
    omega
  · have a : x / P < 0 := Int.ediv_neg_of_neg_of_pos (by omega) (by omega)
    have b : x ≤ x / P := by
      rw [Int.le_ediv_iff_mul_le (by omega)]
      have : x * P ≤ x * 1 := Int.mul_le_mul_of_nonpos_left (by omega) hP
      omega
    omega
theorem constL_snoc (x : Int) (k : Nat) : constL x (k + 1) = constL x k ++ [x / 2 ^ k % 2] := by
  unfold constL
  rw [List.range_succ, List.map_append]; rfl

section
variable (w : World)

set_option maxHeartbeats 1000000 in
set_option maxRecDepth 10000 in
theorem const_any (x : Int) (hx : inI64 x) (n : Nat) (h1 : 1 ≤ n) (h16 : n ≤ 16) :
    Calls Try.prog 39 #[.int .i64 x, .int .i64 (n : Int)] w fun e w' => ∃ q, e = .returned (.slice (some ⟨q, 0, none⟩) n n) ∧ Rw w' q (constL x n) ∧ w.heap.size ≤ q ∧ Below w.heap.size w w' := by
  have mk := mk_any n (by omega)
  have IW := isWidth_any w (n : Int)
  rw [show (decide ((1 : Int) ≤ n) && decide ((n : Int) ≤ 16)) = true by simp; omega] at IW
  replace IW := hide IW
  have HB := hide (below_alloc w (.cells (madeCells #[.int .i64 0] n) 3))
  have HR : Hid (Rw (w.alloc (.cells (madeCells #[.int .i64 0] n) 3)) w.heap.size (List.replicate n 0)) := rw_made (heap_alloc_new _ _)
  obtain ⟨hx1, hx2⟩ := hx
  go_enter Try.func39, Try.ntmps39
  go_upto_region 4 with (first | (go_at_call 48; refine (unhide IW).mono ?_; rintro e w0 ⟨rfl, hw0⟩; subst w0))
  refine forget (P := fun W => Code.wp Try.prog _ _ _ W) (fun W => Hid (Rw W w.heap.size (List.replicate n 0)) ∧ Hid (Below w.heap.size w W)) ⟨HR, HB⟩ ?_
  clear HR HB mk IW
  rintro W0 ⟨HR, HB⟩
  obtain ⟨q, hq⟩ : ∃ q, w.heap.size = q := ⟨_, rfl⟩
  rw [hq] at HR ⊢
  have HQ := hide hq
  clear hq
  go_wp2
  go_loopw [14] (fun i W => ∃ k : Nat, k ≤ n ∧ i = .int .i64 (k : Int) ∧ ∃ l, Hid (Rw W q l) ∧ Hid (l.length = n) ∧ Hid (l.take k = constL x k) ∧ Hid (Below w.heap.size w W)) (fun i _ => n - (intOf i).toNat)
  case atStart => exact ⟨0, Nat.zero_le _, rfl, _, HR, by unfold Hid; simp, rfl, HB⟩
  case round =>
    clear HR HB
    obtain ⟨k, hk, rfl, l, HR, HL, HT, HB⟩ := hrel
    by_cases hlt : k < n
    · have z1 := HR.out.cell (i := k) (by rw [HL.out]; exact hlt)
      have f1 := HR.out.fz k
      generalize l[k]'_ = y0 at z1
      have hkn : (k : Int) < n := by omega
      have hand := and_one (div_i64 hx1 hx2 k)
      have HN1 : Hid ((l.set k (x / 2 ^ k % 2)).take (k + 1) = constL x (k + 1)) := by
        unfold Hid
        rw [take_set _ _ _ (by rw [HL.out]; exact hlt), HT.out, constL_snoc]
      have HB1 : Hid (∀ u, Below w.heap.size w (wr.setCell ⟨q, k, none⟩ u)) := fun u => HB.out.setCell (by rw [HQ.out]; exact Nat.le_refl _) _
      have HR1 := hide (HR.out.set k (x / 2 ^ k % 2))
      have HL1 : Hid ((l.set k (x / 2 ^ k % 2)).length = n) := by unfold Hid; rw [List.length_set]; exact HL.out
      generalize x / 2 ^ k % 2 = y at *
      go_wp2
      go_roundw
      case rel => exact ⟨k + 1, by omega, by go_num, _, HR1, HL1, HN1, HB1.out _⟩
      case measure => simp [intOf]; omega
    · have hke : k = n := by omega
      subst hke
      have hl : l = constL x k := by
        have := HT.out
        rwa [List.take_of_length_le (by rw [HL.out]; exact Nat.le_refl _)] at this
      have HR1 := HR.out
      rw [hl] at HR1
      replace HR1 := hide HR1
      clear hl HT HL HR
      go_wp2
      go_ret
      exact ⟨q, rfl, HR1.out, by rw [HQ.out]; exact Nat.le_refl _, HB.out⟩

set_option maxHeartbeats 400000 in
theorem const_no (x n : Int) (h : ¬ (1 ≤ n ∧ n ≤ 16)) :
    Calls Try.prog 39 #[.int .i64 x, .int .i64 n] w fun e w' => e = .returned (.slice none 0 0) ∧ w' = w := by
  have IW := isWidth_any w n
  rw [show (decide (1 ≤ n) && decide (n ≤ 16)) = false by rw [Bool.eq_false_iff]; intro h2; simp at h2; exact h h2] at IW
  replace IW := hide IW
  clear h
  go_enter Try.func39, Try.ntmps39
  go_wp2_with (first | (go_at_call 48; refine (unhide IW).mono ?_; rintro e w0 ⟨rfl, hw0⟩; subst w0))
  go_ret
  exact ⟨rfl, rfl⟩

/-- A number by its bits that are told one by one. -/
theorem or_pow (N k : Nat) (h : N < 2 ^ k) (hk : k ≤ 20) : bits .or .i64 (N : Int) ((2 ^ k : Nat) : Int) = ((N + 2 ^ k : Nat) : Int) := by
  have hp : 2 ^ k ≤ 2 ^ 20 := Nat.pow_le_pow_right (by omega) hk
  have e1 : (BitVec.ofInt 64 (N : Int)).toNat = N := by rw [BitVec.toNat_ofInt]; omega
  have e2 : (BitVec.ofInt 64 ((2 ^ k : Nat) : Int)).toNat = 2 ^ k := by
    generalize 2 ^ k = T at *
    rw [BitVec.toNat_ofInt]; omega
  have e3 : N ||| 2 ^ k = N + 2 ^ k := by
    have := Nat.two_pow_add_eq_or_of_lt h 1
    rw [Nat.mul_one] at this
    rw [Nat.or_comm, ← this, Nat.add_comm]
  show IntKind.i64.wrap ((BitVec.ofInt 64 (N : Int) ||| BitVec.ofInt 64 ((2 ^ k : Nat) : Int)).toNat : Int) = _
  rw [BitVec.toNat_or, e1, e2, e3, IntKind.wrap_i64]
  generalize 2 ^ k = T at *
  omega

set_option maxHeartbeats 2000000 in
theorem number_any (av : Option Addr) (cv : Nat) (V : List Bool) (ax : Option Addr) (ca : Nat) (a : List Int) (n : Nat) (hV : Vs w av V) (hl : V.length ≤ 1000000) (hr : Row w ax a) (hn : a.length = n) (h16 : n ≤ 16) :
    Calls Try.prog 14 #[.slice av V.length cv, .slice ax n ca] w fun e w' => e = .returned (.int .i64 (numB (a.map (valF V)) : Int)) ∧ ∃ m, w' = w.drewN m := by
  have VL : Hid (∀ m l, Calls Try.prog 19 #[.slice av V.length cv, .int .i64 l] (w.drewN m) fun e w' => e = .returned (.bool (valF V l)) ∧ ∃ j, w' = (w.drewN m).drewN j) := fun m l => value_any _ av cv V l (hV.below (below_drewN (Below.refl _ _) m)) hl
  have HR := hide hr
  have HN := hide hn
  clear hV hr hn
  go_enter Try.func14, Try.ntmps14
  go_wp2
  go_loopw [5, 13] (fun y i W => ∃ k : Nat, k ≤ n ∧ i = .int .i64 (k : Int) ∧ ∃ N : Nat, y = .int .i64 (N : Int) ∧ Hid (N = numB ((a.take k).map (valF V))) ∧ ∃ m, W = w.drewN m) (fun _ i _ => n - (intOf i).toNat)
  case atStart => exact ⟨0, Nat.zero_le _, rfl, 0, rfl, rfl, 0, rfl⟩
  case round =>
    obtain ⟨k, hk, rfl, N, rfl, HNN, m, rfl⟩ := hrel
    by_cases hlt : k < n
    · have hka : k < a.length := by rw [HN.out]; exact hlt
      obtain ⟨b, off, rfl, hb, hcell0⟩ := HR.out k hka
      have hcell : (w.drewN m).cell? ⟨b, off + k, none⟩ = some (.int .i64 a[k]) := hcell0
      obtain ⟨T, hT⟩ : ∃ T : Nat, 2 ^ k = T := ⟨_, rfl⟩
      have hTI : (2 : Int) ^ k = (T : Int) := by rw [← hT]; norm_cast
      have hT16 : T ≤ 32768 := by rw [← hT]; exact Nat.le_trans (Nat.pow_le_pow_right (by omega) (by omega : k ≤ 15)) (by decide)
      have hNT : N < T := by
        have h1 := numB_lt ((a.take k).map (valF V))
        rw [List.length_map, List.length_take, show min k a.length = k by omega, hT] at h1
        have := HNN.out
        omega
      have hor := or_pow N k (by omega) (by omega)
      rw [hT] at hor
      have hsn : numB ((a.take (k + 1)).map (valF V)) = N + T * b2n (valF V a[k]) := by
        rw [List.take_succ_eq_append_getElem hka, List.map_append, List.map_singleton, numB_snoc, ← HNN.out, List.length_map, List.length_take, show min k a.length = k by omega, hT]
      have HSN := hide hsn
      have hsh : IntKind.i64.wrap (1 * 2 ^ k) = (T : Int) := by rw [Int.one_mul, hTI, IntKind.wrap_i64]; omega
      have hwT : IntKind.i64.wrap (T : Int) = (T : Int) := by rw [IntKind.wrap_i64]; omega
      clear hsn hcell0 hT
      generalize a[k] = x at *
      clear hka
      have V1 := hide (unhide VL m x)
      cases hv : valF V x
      all_goals
        rw [hv] at V1 HSN
        go_wp2_with (first
          | (go_at_call 19; refine (unhide V1).mono ?_; rintro e w1 ⟨rfl, j, hw1⟩; subst w1))
        go_roundw
        case rel =>
          first
            | exact ⟨k + 1, by omega, by go_num, N, rfl, by have := HSN.out; rw [b2n_f, Nat.mul_zero] at this; exact this.symm, m + j, by first | rfl | exact World.drewN_drewN _ _ _⟩
            | exact ⟨k + 1, by omega, by go_num, N + T, by go_num, by have := HSN.out; rw [b2n_t, Nat.mul_one] at this; exact this.symm, m + j, by first | rfl | exact World.drewN_drewN _ _ _⟩
        case measure => simp [intOf]; omega
    · have hke : k = n := by omega
      subst hke
      have hf : N = numB (a.map (valF V)) := by
        have := HNN.out
        rwa [List.take_of_length_le (by rw [HN.out]; exact Nat.le_refl _)] at this
      go_wp2
      go_ret
      exact ⟨ret_int (by rw [hf]), m, rfl⟩
end

section
variable (w : World) (B M : Nat) (v : Value) (g : List Gt)

theorem const_zero (n : Nat) : constL 0 n = List.replicate n 0 := by
  apply List.ext_getElem
  · simp [constL]
  · intro i h1 h2; simp [constL]

end
end Go.Proofs.Ytbilhiklfficoaa
