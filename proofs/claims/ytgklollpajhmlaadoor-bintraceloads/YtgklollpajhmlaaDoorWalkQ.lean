/- Contracts: a number's digits are put behind a slice of bytes. -/
import Derived.Test.YtgklollpajhmlaaDoorWalkP
import Derived.Test.YtgklollpajhmlaaDoorPlainV
import Derived.Test.YtgklollpajhmlaaDoorShelf1
import Derived.Lib.AppendIntMem
import Derived.Lib.ItoaMem
import Derived.Maps.AppendAt
set_option linter.unusedVariables false
set_option linter.unusedSimpArgs false
namespace Go.Proofs.YtgklollpajhmlaaDoor
open Go.RowKit Go.Sort Go.Maps

theorem decDigits_digN (u : Nat) : Lib.decDigits u = digN u := by
  induction u using Nat.strongRecOn with
  | ind u ih =>
    by_cases h : u < 10
    · rw [Lib.decDigits, dif_pos h, digN_small h]; rfl
    · rw [Lib.decDigits, dif_neg h, digN_great h, ih (u / 10) (by omega)]; rfl

theorem itoa_digI (n : Int) : Lib.itoa n = digI n := by
  unfold Lib.itoa digI
  split
  · rw [decDigits_digN]
  · rw [decDigits_digN]
    congr 1
    omega

theorem digN_nDigits (u : Nat) : (digN u).length = Lib.nDigits u := by rw [← decDigits_digN, Lib.decDigits_length]

/-- The table of powers of ten, whatever is done from a block on. -/
abbrev Tab (B : Nat) (w : World) : Prop := Lib.TabBelow Tryd.prog B w "internal/strconv.uint64pow10" .u64 Lib.pow10Tab

theorem small_any (u : Nat) (h : u < 100) (w : World) : Calls Tryd.prog 48 #[.int .i64 u] w fun e w' => e = .returned (.string (str (digN u))) ∧ w' = w := by
  rw [← decDigits_digN]
  exact Any.internal_strconv_small Tryd.lays283 u h w

theorem numDigits_any (u : Nat) (h1 : 1 ≤ u) (h2 : u < 18446744073709551616) (w : World) (ht : Lib.TabIs Tryd.prog w "internal/strconv.uint64pow10" .u64 Lib.pow10Tab) : Calls Tryd.prog 49 #[.int .u64 u] w fun e w' => e = .returned (.int .i64 ((digN u).length : Int)) ∧ w' = w := by
  rw [digN_nDigits]
  exact Any.internal_strconv_numDigits Tryd.laysM284 u h1 h2 w ht

theorem digN_20 {u : Nat} (h2 : u < 18446744073709551616) : (digN u).length ≤ 20 := digN_len u 20 (by omega) (by omega)

/-- Digits are laid into a new array of 24 bytes. -/
theorem format_any (w : World) (u : Nat) (h2 : u < 18446744073709551616) :
    Calls Tryd.prog 50 #[.slice (some ⟨w.heap.size, 0, none⟩) (digN u).length 24, .int .u64 u] (w.alloc (.cells Lib.zeros24 69)) fun e w' =>
      e = .returned (.tuple #[]) ∧ Hid (Below w.heap.size w w') ∧ Hid (∀ j x, (byteL (digN u))[j]? = some x → w'.cell? ((⟨w.heap.size, 0, none⟩ : Addr).add j) = some x) := by
  have h20 := digN_20 h2
  rw [digN_nDigits] at h20
  have hH := Lib.holds_zero0 w 69 (Lib.nDigits u) (by omega)
  have hF := Any.internal_strconv_formatBase10 Tryd.lays285 w.heap.size 0 24 u (Array.replicate (Lib.nDigits u) 0) (w.alloc (.cells Lib.zeros24 69)) hH (by rw [Array.size_replicate]; exact Lib.lt_pow_nDigits u) h2 (by rw [Array.size_replicate]; omega)
  rw [Array.size_replicate] at hF
  rw [digN_nDigits]
  refine hF.mono ?_
  rintro e w' ⟨he, k, v', dk, rfl, hI⟩
  obtain ⟨os, eo⟩ := Lib.fin_at w (.cells Lib.zeros24 69) dk k 0
  refine ⟨he, ?_, ?_⟩
  · show Below _ _ _
    rw [eo]; exact Lib.below_grow w.heap.size w (Nat.le_refl _) k os
  · intro j x hx
    rw [← decDigits_digN] at hx
    have hj : j < (Lib.decDigits u).length := by
      have := (List.getElem?_eq_some_iff.1 hx).1
      simpa [byteL] using this
    have hx' : x = .int .u8 ((Lib.decDigits u)[j].toNat : Int) := by
      simp [byteL, hj] at hx
      exact hx.symm
    rw [hx', Lib.row_is_numeral hI j hj, Lib.add_plain, World.cell?_drewN]
    exact cell?_putRow (fun (b : UInt8) => Value.int .u8 (b.toNat : Int)) _ w.heap.size 0 _ dk hH (by rw [hI.size, Array.size_replicate]) j (by rw [hI.size]; rw [Lib.decDigits_length] at hj; exact hj)

set_option maxHeartbeats 4000000 in
set_option maxRecDepth 100000 in
theorem appendUint_any (B : Nat) (w : World) (v : Value) (xs : List UInt8) (u : Nat) (h2 : u < 18446744073709551616) (h : Br B w v xs) (hB : B ≤ w.heap.size) (hl : xs.length ≤ 100000000) (ht : Tab B w) :
    Calls Tryd.prog 45 #[v, .int .u64 u, .int .i64 10] w fun e w' => ∃ v', e = .returned v' ∧ Br B w' v' (xs ++ digN u) ∧ Below B w w' := by
  obtain ⟨i0, hi, hz0, hz1, hz2⟩ := info_parts Tryd.info5
  have h20 := digN_20 h2
  obtain ⟨g, cap, rfl, hg1, hg2, -⟩ := h.shape
  have hgb := h.lt
  by_cases hs : u < 100
  · have CS := hide (small_any u hs w)
    have hsi : (u : Int) < 100 := by omega
    go_enter Tryd.func45, Tryd.ntmps45
    go_wp2_with (first
      | (go_at_call 48; refine (unhide CS).mono ?_; rintro e w0 ⟨rfl, hw0⟩; subst w0)
      | (at_builtin; refine wpList_br_string rfl _ _ 22 9 rfl B Tryd.underlying22 Tryd.underlying9 i0 hi hz0 hz1 hz2 _ xs (digN u) rfl h (by omega) hB rfl ?_; intro v' w2 hbr2 hgr2))
    go_ret
    exact ⟨_, rfl, hbr2, (Below.refl B w).grown hgr2 hB (fun k hk => (hgb k hk).1)⟩
  · have hsi : ¬ (u : Int) < 100 := by omega
    have CN := numDigits_any u (by omega) h2 (w.alloc (.cells Lib.zeros24 69)) (ht _ ((Below.refl _ _).alloc hB _))
    have CF := format_any w u h2
    unfold Lib.zeros24 at CN CF
    replace CN := hide CN
    replace CF := hide CF
    have hal : Tryd.prog.arrayLen 69 = 24 := by kernel_rfl
    have h20i : ((digN u).length : Int) ≤ 24 := by omega
    have HSRC : Hid (u = u) := rfl
    generalize hdd : digN u = d at *
    clear hdd
    go_enter Tryd.func45, Tryd.ntmps45
    go_wp2_with fail
    refine (unhide CN).mono ?_
    rintro e w0 ⟨rfl, hw0⟩
    subst w0
    go_wp2_with fail
    refine (unhide CF).mono ?_
    rintro e w1 ⟨rfl, HB1, HC1⟩
    have hbr1 := h.kept HB1.out
    have hsz1 := HB1.out.size
    go_wp2_with (at_builtin; refine wpList_br_slice rfl _ _ 22 rfl B Tryd.underlying22 i0 hi hz0 hz1 hz2 _ xs d rfl hbr1 (by omega) (by omega) ⟨w.heap.size, 0, none⟩ d.length 24 rfl rfl HC1.out ?_; intro v' w2 hbr2 hgr2)
    go_ret
    exact ⟨_, rfl, hbr2, (HB1.out.mono hB).grown hgr2 (by omega) (fun k hk => (hbr1.lt k hk).1)⟩

theorem neg_twice (u : Nat) (h : u ≤ 1048576) : ∃ W : Int, IntKind.u64.wrap (-(u : Int)) = W ∧ IntKind.u64.wrap (-W) = u := by
  refine ⟨_, rfl, ?_⟩
  have e : ∀ x : Int, IntKind.u64.wrap x = x % 18446744073709551616 := fun x => by
    simp [IntKind.wrap, IntKind.signed, IntKind.bits]
  rw [e, e]
  omega

set_option maxHeartbeats 4000000 in
theorem appendInt_in (B : Nat) (w : World) (v : Value) (xs : List UInt8) (n : Int) (h0 : -1048576 ≤ n) (h1 : n ≤ 1048576) (h : Br B w v xs) (hB : B ≤ w.heap.size) (hl : xs.length ≤ 90000000) (ht : Tab B w) :
    Calls Tryd.prog 39 #[v, .int .i64 n, .int .i64 10] w fun e w' => ∃ v', e = .returned v' ∧ Br B w' v' (xs ++ digI n) ∧ Below B w w' := by
  obtain ⟨i0, hi, hz0, hz1, hz2⟩ := info_parts Tryd.info5
  obtain ⟨g, cap, rfl, hg1, hg2, -⟩ := h.shape
  by_cases hn : n < 0
  · have hd : digI n = [45] ++ digN n.natAbs := by unfold digI; rw [if_pos hn]; rfl
    have HD := hide hd
    obtain ⟨u, hu⟩ : ∃ u : Nat, n = -(u : Int) := ⟨n.natAbs, by omega⟩
    have hun : n.natAbs = u := by omega
    rw [hun] at HD
    subst hu
    have hbA := h.kept (below_alloc w (.cells #[.int .u8 45] 5))
    have CU : ∀ v1 w1, Br B w1 v1 (xs ++ [45]) → Below B w w1 → Calls Tryd.prog 45 #[v1, .int .u64 u, .int .i64 10] w1 fun e w' => ∃ v', e = .returned v' ∧ Hid (Br B w' v' (xs ++ [45] ++ digN u) ∧ Below B w w') := by
      intro v1 w1 hbr hb
      refine (appendUint_any B w1 v1 (xs ++ [45]) u (by omega) hbr (by have := hb.size; omega) (by simp; omega) (ht.on hb)).mono ?_
      rintro e x ⟨v', he, hx, hbx⟩
      exact ⟨v', he, hx, hb.trans hbx⟩
    replace CU := hide CU
    clear hd hun
    go_enter Tryd.func39, Tryd.ntmps39
    obtain ⟨W, hW1, hW2⟩ := neg_twice u (by omega)
    go_wp2_with (at_builtin; refine wpList_br_slice rfl _ _ 22 rfl B Tryd.underlying22 i0 hi hz0 hz1 hz2 _ xs [45] rfl hbA (by simp; omega) (by simp; omega) ⟨w.heap.size, 0, none⟩ 1 1 rfl rfl (cell_one_new _ _ _) ?_; intro v1 w1 hbr1 hgr1)
    have hb1 : Below B w w1 := ((Below.refl B w).alloc hB _).grown hgr1 (by simp; omega) (fun k hk => (hbA.lt k hk).1)
    refine (unhide CU _ _ hbr1 hb1).mono ?_
    rintro e w2 ⟨v2, rfl, HX⟩
    go_wp2
    go_ret
    exact ⟨_, rfl, by rw [HD.out, ← List.append_assoc]; exact HX.out.1, HX.out.2⟩
  · obtain ⟨u, hu⟩ : ∃ u : Nat, n = (u : Int) := ⟨n.natAbs, by omega⟩
    subst hu
    have hd : digI (u : Int) = digN u := by unfold digI; rw [if_neg hn]; rfl
    rw [hd]
    have CU := hide (appendUint_any B w _ xs u (by omega) h hB (by omega) ht)
    clear hd
    go_enter Tryd.func39, Tryd.ntmps39
    go_wp2_with (go_at_call 45; refine (unhide CU).mono ?_; rintro e w2 ⟨v2, rfl, hX, hbX⟩)
    go_ret
    exact ⟨_, rfl, hX, hbX⟩

set_option maxHeartbeats 1000000 in
theorem appendInt_any (B : Nat) (w : World) (v : Value) (xs : List UInt8) (n : Int) (h0 : -1048576 ≤ n) (h1 : n ≤ 1048576) (h : Br B w v xs) (hB : B ≤ w.heap.size) (hl : xs.length ≤ 90000000) (ht : Tab B w) :
    Calls Tryd.prog 31 #[v, .int .i64 n, .int .i64 10] w fun e w' => ∃ v', e = .returned v' ∧ Br B w' v' (xs ++ digI n) ∧ Below B w w' := by
  have C := hide (appendInt_in B w v xs n h0 h1 h hB hl ht)
  obtain ⟨g, cap, rfl, -⟩ := h.shape
  clear h
  go_enter Tryd.func31, Tryd.ntmps31
  go_wp2_with (go_at_call 39; refine (unhide C).mono ?_; rintro e w2 ⟨v2, rfl, hX, hbX⟩)
  go_ret
  exact ⟨_, rfl, hX, hbX⟩

theorem litsT_len (c : List Int) (h : ∀ l ∈ c, -1048576 ≤ l ∧ l ≤ 1048576) : (litsT c).length ≤ 21 * c.length := by
  induction c with
  | nil => simp [litsT]
  | cons l c ih =>
    have h1 := h l (by simp)
    have h2 := ih (fun x hx => h x (by simp [hx]))
    have h3 := digI_len (n := l) (by omega) (by omega)
    simp only [litsT, List.flatMap_cons, List.length_append, List.length_cons] at *
    simp only [List.length_nil]
    omega

end Go.Proofs.YtgklollpajhmlaaDoor
