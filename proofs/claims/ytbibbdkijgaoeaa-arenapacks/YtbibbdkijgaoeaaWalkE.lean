/- Contracts: the places of an arena's clauses. -/
import Derived.Test.YtbibbdkijgaoeaaWalkD
set_option linter.unusedVariables false
set_option linter.unusedSimpArgs false
namespace Go.Proofs.Ytbibbdkijgaoeaa
open Go.RowKit Go.Maps

theorem kindI_zero {g : Bool} : kindI g = 0 ↔ g = false := by cases g <;> simp [kindI]

set_option maxHeartbeats 1600000 in
theorem places_any (base : Nat) (w : World) (B M : Nat) (rv : Value) (L : List Itm) (hA : Arn base w B M rv L) (hl : words L ≤ 20000) :
    Calls Try.prog 26 #[.pointer (some ⟨B, 0, none⟩)] w fun e w' => ∃ v, e = .returned v ∧ Own w.heap.size w' v (plF 0 L) ∧ Below w.heap.size w w' := by
  obtain ⟨i0, hi, hz0, hz1, hz2⟩ := info_parts Try.info3
  have c2 := hA.c2
  have G := hide (given_any base w B M rv L hA)
  have hpl := plF_len_le L 0
  have hlw := len_le_words L
  obtain ⟨D, hown, hhas, hsize⟩ := hA.pls
  have HS := hide hsize
  clear hhas hsize
  have HA := hide hA
  clear hA
  go_enter Try.func26, Try.ntmps26
  go_wp2_with (first
    | (go_at_call 32; refine (unhide G).mono ?_; rintro e w0 ⟨rfl, hw0⟩; subst w0)
    | (at_len; refine wpList_len_own _ rfl _ 66 rfl 3 70 Try.underlying66 _ M _ D rfl hown ?_)
    | (at_make; refine wpList_make_own _ rfl _ _ 32 rfl w.heap.size 3 i0 (.int .i64 0) 1 Try.underlying32 hi hz0 hz1 .i64 .i64 _ (plF 0 L).length rfl rfl (by rw [HS.out]) (by rw [hz2]; omega) (by unfold maxLen; omega) (Nat.le_refl _) ?_; intro w1 hown1 hgrow1))
  go_loopw [3, 4] (fun v i wr => ∃ k : Nat, k ≤ L.length ∧ i = .int .i64 (words (L.take k)) ∧ Own w.heap.size wr v (plF 0 (L.take k)) ∧ Below w.heap.size w wr) (fun _ i _ => words L - (intOf i).toNat)
  case atStart => exact ⟨0, Nat.zero_le _, by simp [words], hown1, (Below.refl _ _).grown hgrow1 (Nat.le_refl _) (by intro k h; cases h)⟩
  case round =>
    clear hown1 hgrow1 hown c2 G
    obtain ⟨k, hk, rfl, hown, hbel⟩ := hrel
    have hA := HA.out.below hbel
    have c1 := hA.c1
    have hwt := words_take_le L k
    by_cases hlt : k < L.length
    · have HT := hide (words_take_succ hlt)
      have hwt1 := words_take_le L (k + 1)
      have hlt' : words (L.take k) < words L := by have := HT.out; omega
      have hsp := take_split hlt
      have HK := hide (rowOf_kind (L.take k) (L.drop (k + 1)) L[k])
      rw [← hsp] at HK
      have GA : Hid (∀ u, Below w.heap.size w u → Calls Try.prog 33 #[.pointer (some ⟨B, 0, none⟩), .int .i64 (words (L.take k))] u fun e w' => e = .returned (.int .i64 (words (L.take k) + 2 + L[k].1.length)) ∧ w' = u) :=
        fun u hb => end_any base u B M rv (L.take k) (L.drop (k + 1)) L[k] (by rw [← hsp]; exact HA.out.below hb) (by rw [← hsp]; exact hl)
      obtain ⟨a, cap, rfl, hr, hc, hm⟩ := hA.rv
      obtain ⟨b, off, rfl, hb, hcell⟩ := hr.get HK.out
      clear hr HK hsp hA HA
      have hpt : (plF 0 (L.take k)).length ≤ L.length := Nat.le_trans (plF_len_le _ _) (by simp; omega)
      by_cases hg : L[k].2 = false
      · have HE := hide (plF_take_keep hlt hg)
        rw [hg] at hcell
        simp only [kindI, Bool.false_eq_true, if_false] at hcell
        generalize hp : words (L.take k) = p at *
        have HP := hide hp
        clear hp hwt1
        go_wp2_with (first
          | (at_builtin; refine wpList_append_own _ rfl _ _ 32 rfl w.heap.size 3 i0 (.int .i64 0) 1 8 Try.underlying32 hi hz0 hz1 hz2 rfl (by decide) _ _ _ rfl (hown.alloc _) ⟨wr.heap.size, 0, none⟩ 1 1 [.int .i64 p] rfl rfl (cell_one_new _ _ _) (fun x hx => by simp at hx; subst hx; rfl) (by unfold maxLen; omega) (by omega) (by have := hbel.size; simp; omega) ?_; intro v' w2 hown2 hgrow2 hnil)
          | (go_at_call 33; refine ((unhide GA) _ ((hbel.alloc hbel.size (.cells #[.int .i64 p] 3)).grown hgrow2 (by have := hbel.size; simp; omega) (fun g hg => (hown.lt g hg).1))).mono ?_; rintro e w0 ⟨rfl, hw0⟩; subst w0))
        have hown3 := own_snoc hown2 HE.out
        have hbel3 := ((hbel.alloc hbel.size (.cells #[.int .i64 p] 3)).grown hgrow2 (by have := hbel.size; simp; omega) (fun g hg => (hown.lt g hg).1))
        clear hown2 hgrow2 hnil
        go_roundw
        case rel => exact ⟨k + 1, by omega, by rw [HT.out]; simp, hown3, hbel3⟩
        case measure => simp [intOf]; omega
      · have hg' : L[k].2 = true := by simpa using hg
        have HE := hide (plF_take_gone hlt hg')
        rw [hg'] at hcell
        simp only [kindI, if_true] at hcell
        generalize hp : words (L.take k) = p at *
        have HP := hide hp
        clear hp hwt1
        go_wp2_with (first
          | (go_at_call 33; refine ((unhide GA) _ hbel).mono ?_; rintro e w0 ⟨rfl, hw0⟩; subst w0))
        go_roundw
        case rel => exact ⟨k + 1, by omega, by rw [HT.out]; simp, by rw [HE.out]; exact hown, hbel⟩
        case measure => simp [intOf]; omega
    · have hke : L.take k = L := List.take_of_length_le (by omega)
      rw [hke] at hown ⊢
      obtain ⟨a, cap, rfl, hr, hc, hm⟩ := hA.rv
      clear hr hA HA hke
      go_wp2
      go_ret
      exact ⟨_, rfl, hown, hbel⟩

end Go.Proofs.Ytbibbdkijgaoeaa
