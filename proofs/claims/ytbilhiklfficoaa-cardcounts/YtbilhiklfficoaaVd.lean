/- Contracts: carried, sum, difference. -/
import Derived.Test.YtbilhiklfficoaaVb
set_option linter.unusedVariables false
set_option linter.unusedSimpArgs false
namespace Go.Proofs.Ytbilhiklfficoaa
open Go.RowKit Go.Maps

theorem St.cell {w W : World} {B M k b o : Nat} {v v' : Value} {g g' : List Gt} {x : Value} (h : St w W B M v v' g g' k) (hb : b < w.heap.size) (hf : ¬ Sv B M v b) (hc : w.cell? ⟨b, o, none⟩ = some x) : W.cell? ⟨b, o, none⟩ = some x :=
  (World.cell?_of_block (h.kp.block b hb hf)).trans hc

section
variable (w : World) (B M : Nat) (v : Value) (g : List Gt)

set_option maxHeartbeats 2000000 in
theorem carried_any (ax bx : Option Addr) (ca cb : Nat) (a b : List Int) (c : Int) (n : Nat) (A Y : List Bool → List Bool) (C : List Bool → Bool)
    (hA : Gr w B M v g) (hl : g.length ≤ 990000) (hn : a.length = n) (hm : b.length = n) (h16 : n ≤ 16) (hr : Fr w B M v ax a) (hs : Fr w B M v bx b) (ha : Wt g a A) (hb : Wt g b Y) (hc : Lt g c C) :
    Calls Try.prog 51 #[.pointer (some ⟨B, 0, none⟩), .slice ax n ca, .slice bx n cb, .int .i64 c] w (AP w B M v g (4 * n) (fun ins => carB (A ins) (Y ins) (C ins))) := by
  have HS := hide (St.refl hA)
  have AN : Hid (∀ W v' g' x y z X Y Z, Gr W B M v' g' → g'.length ≤ 999980 → Lt g' x X → Lt g' y Y → Lt g' z Z → Calls Try.prog 60 #[.pointer (some ⟨B, 0, none⟩), .int .i64 x, .int .i64 y, .int .i64 z] W (AP W B M v' g' 4 (fun ins => (X ins && Y ins) || (Z ins && (X ins || Y ins))))) := fun W v' g' x y z X Y Z h h1 h2 h3 h4 => carry_any W B M v' g' x y z X Y Z h h1 h2 h3 h4
  have HR := hide hr
  have HT := hide hs
  have HWA := hide ha
  have HWB := hide hb
  have HC := hide hc
  have HN := hide hn
  have HNB := hide hm
  clear hA hr hs ha hb hc hn hm
  go_enter Try.func51, Try.ntmps51
  go_wp2
  go_loopw [3, 12] (fun y i W => ∃ k : Nat, k ≤ n ∧ i = .int .i64 (k : Int) ∧ ∃ v' g' z, y = .int .i64 z ∧ Hid (St w W B M v v' g g' (4 * k)) ∧ Hid (Lt g' z (fun ins => carB ((A ins).take k) ((Y ins).take k) (C ins)))) (fun _ i _ => n - (intOf i).toNat)
  case atStart => exact ⟨0, Nat.zero_le _, rfl, v, g, c, rfl, HS, HC.out.congr fun ins => by simp [carB]⟩
  case round =>
    clear HS
    obtain ⟨k, hk, rfl, v', g', z, rfl, HK, HW⟩ := hrel
    by_cases hlt : k < n
    · have hka : k < a.length := by rw [HN.out]; exact hlt
      have hkb : k < b.length := by rw [HNB.out]; exact hlt
      have hfa := HK.out.fr HR.out
      have hfb := HK.out.fr HT.out
      obtain ⟨p, off, rfl, hp, hcp⟩ := hfa.row k hka
      obtain ⟨p2, off2, rfl, hp2, hcp2⟩ := hfb.row k hkb
      have hx := (HWA.out.grow HK.out.grow).at hka
      have hy := (HWB.out.grow HK.out.grow).at hkb
      have A1 := hide (fun W (h : Gr W B M v' g') => unhide AN W v' g' a[k] b[k] z _ _ _ h (by have := HK.out.len; omega) hx hy HW.out)
      have hAl : ∀ ins, k < (A ins).length := fun ins => by rw [HWA.out.len ins]; exact hka
      have hBl : ∀ ins, k < (Y ins).length := fun ins => by rw [HWB.out.len ins]; exact hkb
      have HAL := hide hAl
      have HBL := hide hBl
      have FA := hide (hfa.far p off rfl).2
      have FB := hide (hfb.far p2 off2 rfl).2
      clear hx hy hAl hBl hfa hfb
      generalize a[k] = x at *
      generalize b[k] = y at *
      clear hka hkb
      go_wp2
      go_region_held3 (fun z => z.cell? ⟨p, off + k, none⟩ = some (.int .i64 x) ∧ z.cell? ⟨p2, off2 + k, none⟩ = some (.int .i64 y)) (go_keep)
        (first | (go_at_call 60; refine (unhide A1 _ (HK.out.gr.drewN 1)).mono ?_; rintro e w1 ⟨l1, v1, g1, rfl, s1, b1⟩; have y0 := s1.cell hp FA.out hcp; have y1 := s1.cell hp2 FB.out hcp2))
      all_goals
        have S1 := hide ((HK.out.below (below_drewN (Below.refl _ _) 1)).trans s1)
        clear s1 y0 y1
        go_wp2
        go_roundw
        case rel =>
          refine ⟨k + 1, by omega, by go_num, v1, g1, l1, rfl, S1.out.mono (by omega), b1.congr fun ins => ?_⟩
          rw [take_getD (HAL.out ins), take_getD (HBL.out ins), carB_snoc _ _ _ _ _ (by have := HAL.out ins; have := HBL.out ins; simp; omega)]
        case measure => simp [intOf]; omega
    · have hke : k = n := by omega
      subst hke
      have hfin : Hid (AP w B M v g (4 * k) (fun ins => carB (A ins) (Y ins) (C ins)) (.returned (.int .i64 z)) wr) := ⟨z, v', g', rfl, HK.out, HW.out.congr fun ins => by rw [List.take_of_length_le (by rw [HWA.out.len ins, HN.out]; exact Nat.le_refl _), List.take_of_length_le (by rw [HWB.out.len ins, HNB.out]; exact Nat.le_refl _)]⟩
      go_wp2
      go_ret
      exact hfin.out

end
end Go.Proofs.Ytbilhiklfficoaa
