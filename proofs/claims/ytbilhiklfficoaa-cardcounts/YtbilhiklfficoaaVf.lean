/- Contracts: bits of each method; choice, both. -/
import Derived.Test.YtbilhiklfficoaaVe
set_option linter.unusedVariables false
set_option linter.unusedSimpArgs false
namespace Go.Proofs.Ytbilhiklfficoaa
open Go.RowKit Go.Maps

theorem zip_snoc (f : Bool → Bool → Bool) (a b : List Bool) (x y : Bool) (h : a.length = b.length) : List.zipWith f (a ++ [x]) (b ++ [y]) = List.zipWith f a b ++ [f x y] := by
  rw [List.zipWith_append h]; rfl

section
variable (w : World) (B M : Nat) (v : Value) (g : List Gt)

set_option maxHeartbeats 4000000 in
theorem bits_and (op : List Bool → Bool → Bool → Bool) (ax bx : Option Addr) (ca cb : Nat) (a b : List Int) (n : Nat) (A Y : List Bool → List Bool)
    (hA : Gr w B M v g) (hl : g.length ≤ 990000) (hn : a.length = n) (hm : b.length = n) (h16 : n ≤ 16) (hr : Fr w B M v ax a) (hs : Fr w B M v bx b) (ha : Wt g a A) (hb : Wt g b Y)
    (F : ∀ W v' g' j x y X Y, St w W B M v v' g g' j → j ≤ 48 → Lt g' x X → Lt g' y Y → Calls Try.prog 61 #[.pointer (some ⟨B, 0, none⟩), .int .i64 x, .int .i64 y] W (AP W B M v' g' 3 (fun ins => op ins (X ins) (Y ins)))) :
    Calls Try.prog 54 #[.func (.func 61) #[.pointer (some ⟨B, 0, none⟩)] #[], .slice ax n ca, .slice bx n cb] w (WP w B M v g n (3 * n) (fun ins => List.zipWith (op ins) (A ins) (Y ins))) := by
  have mk := mk_any n (by omega)
  have HS := hide (Ml.start hA n)
  have FN := hide F
  have HR := hide hr
  have HT := hide hs
  have HWA := hide ha
  have HWB := hide hb
  have HN := hide hn
  have HNB := hide hm
  clear hA hr hs ha hb hn hm F
  go_enter Try.func54, Try.ntmps54
  go_upto_region 2 with fail
  refine forget (P := fun W => Code.wp Try.prog _ _ _ W) (fun W => Hid (Ml w W B M v v g g 0 n w.heap.size (List.replicate n 0))) HS ?_
  clear HS mk
  intro W0 HS
  generalize w.heap.size = q at *
  go_wp2
  go_loopw [14] (fun i W => ∃ k : Nat, k ≤ n ∧ i = .int .i64 (k : Int) ∧ ∃ v' g' l, Hid (Ml w W B M v v' g g' (3 * k) n q l) ∧ Hid (Wt g' (l.take k) (fun ins => List.zipWith (op ins) ((A ins).take k) ((Y ins).take k)))) (fun i _ => n - (intOf i).toNat)
  case atStart => exact ⟨0, Nat.zero_le _, rfl, v, g, _, HS, Wt.nil⟩
  case round =>
    clear HS
    obtain ⟨k, hk, rfl, v', g', l, HK, HW⟩ := hrel
    by_cases hlt : k < n
    · have hka : k < a.length := by rw [HN.out]; exact hlt
      have hkb : k < b.length := by rw [HNB.out]; exact hlt
      have hfa := HK.out.st.fr HR.out
      have hfb := HK.out.st.fr HT.out
      obtain ⟨p, off, rfl, hp, hcp⟩ := hfa.row k hka
      obtain ⟨p2, off2, rfl, hp2, hcp2⟩ := hfb.row k hkb
      have hx := (HWA.out.grow HK.out.st.grow).at hka
      have hy := (HWB.out.grow HK.out.st.grow).at hkb
      have A1 := hide (unhide FN (wr.drewN 1) v' g' (3 * k) a[k] b[k] _ _ (HK.out.st.below (below_drewN (Below.refl _ _) 1)) (by omega) hx hy)
      have hAl : ∀ ins, k < (A ins).length := fun ins => by rw [HWA.out.len ins]; exact hka
      have hBl : ∀ ins, k < (Y ins).length := fun ins => by rw [HWB.out.len ins]; exact hkb
      have HAL := hide hAl
      have HBL := hide hBl
      have FA := hide (hfa.far p off rfl).2
      have FB := hide (hfb.far p2 off2 rfl).2
      have n1 : p ≠ q := by
        rintro rfl
        have := (HR.out.far p off rfl).1
        have h2 := HK.out.new
        omega
      have n2 : p2 ≠ q := by
        rintro rfl
        have := (HT.out.far p2 off2 rfl).1
        have h2 := HK.out.new
        omega
      have n1' := n1.symm
      have n2' := n2.symm
      clear hx hy hAl hBl hfa hfb
      generalize a[k] = x at *
      generalize b[k] = y at *
      clear hka hkb
      go_wp2
      go_region_held3 (fun z => z.cell? ⟨p, off + k, none⟩ = some (.int .i64 x) ∧ z.cell? ⟨p2, off2 + k, none⟩ = some (.int .i64 y)) (go_keep)
        (first
          | (go_at_call 61; refine (unhide A1).mono ?_; rintro e w2 ⟨l2, v2, g2, rfl, s2, b2⟩; have y2 := s2.cell hp FA.out hcp; have y3 := s2.cell hp2 FB.out hcp2; have z1 := ((HK.out.below (below_drewN (Below.refl _ _) 1)).act s2).cell hlt; have f1 := ((HK.out.below (below_drewN (Below.refl _ _) 1)).act s2).fz k))
      all_goals
        have S1 := hide (((HK.out.below (below_drewN (Below.refl _ _) 1)).act s2).set k l2)
        have HT1 : Hid (Wt g2 ((l.set k l2).take (k + 1)) (fun ins => List.zipWith (op ins) ((A ins).take (k + 1)) ((Y ins).take (k + 1)))) := by
          have hlen := HK.out.len
          unfold Hid
          rw [take_set _ _ _ (by omega)]
          refine ((HW.out.grow s2.grow).snoc b2).congr fun ins => ?_
          rw [take_getD (HAL.out ins), take_getD (HBL.out ins), zip_snoc _ _ _ _ _ (by have := HAL.out ins; have := HBL.out ins; simp; omega)]
        clear s2 b2 y2 y3 z1 f1
        go_wp2
        go_roundw
        case rel => exact ⟨k + 1, by omega, by go_num, v2, g2, _, S1.out.mono (by omega), HT1.out⟩
        case measure => simp [intOf]; omega
    · have hke : k = n := by omega
      subst hke
      have hfin := HK.out.wp (f := fun ins => List.zipWith (op ins) (A ins) (Y ins)) (by
        have h1 := HW.out
        rw [List.take_of_length_le (by rw [HK.out.len]; exact Nat.le_refl _)] at h1
        exact h1.congr fun ins => by rw [List.take_of_length_le (by rw [HWA.out.len ins, HN.out]; exact Nat.le_refl _), List.take_of_length_le (by rw [HWB.out.len ins, HNB.out]; exact Nat.le_refl _)])
      have HF := hide hfin
      clear hfin
      go_wp2
      go_ret
      exact HF.out

set_option maxHeartbeats 4000000 in
theorem bits_or (op : List Bool → Bool → Bool → Bool) (ax bx : Option Addr) (ca cb : Nat) (a b : List Int) (n : Nat) (A Y : List Bool → List Bool)
    (hA : Gr w B M v g) (hl : g.length ≤ 990000) (hn : a.length = n) (hm : b.length = n) (h16 : n ≤ 16) (hr : Fr w B M v ax a) (hs : Fr w B M v bx b) (ha : Wt g a A) (hb : Wt g b Y)
    (F : ∀ W v' g' j x y X Y, St w W B M v v' g g' j → j ≤ 48 → Lt g' x X → Lt g' y Y → Calls Try.prog 59 #[.pointer (some ⟨B, 0, none⟩), .int .i64 x, .int .i64 y] W (AP W B M v' g' 3 (fun ins => op ins (X ins) (Y ins)))) :
    Calls Try.prog 54 #[.func (.func 59) #[.pointer (some ⟨B, 0, none⟩)] #[], .slice ax n ca, .slice bx n cb] w (WP w B M v g n (3 * n) (fun ins => List.zipWith (op ins) (A ins) (Y ins))) := by
  have mk := mk_any n (by omega)
  have HS := hide (Ml.start hA n)
  have FN := hide F
  have HR := hide hr
  have HT := hide hs
  have HWA := hide ha
  have HWB := hide hb
  have HN := hide hn
  have HNB := hide hm
  clear hA hr hs ha hb hn hm F
  go_enter Try.func54, Try.ntmps54
  go_upto_region 2 with fail
  refine forget (P := fun W => Code.wp Try.prog _ _ _ W) (fun W => Hid (Ml w W B M v v g g 0 n w.heap.size (List.replicate n 0))) HS ?_
  clear HS mk
  intro W0 HS
  generalize w.heap.size = q at *
  go_wp2
  go_loopw [14] (fun i W => ∃ k : Nat, k ≤ n ∧ i = .int .i64 (k : Int) ∧ ∃ v' g' l, Hid (Ml w W B M v v' g g' (3 * k) n q l) ∧ Hid (Wt g' (l.take k) (fun ins => List.zipWith (op ins) ((A ins).take k) ((Y ins).take k)))) (fun i _ => n - (intOf i).toNat)
  case atStart => exact ⟨0, Nat.zero_le _, rfl, v, g, _, HS, Wt.nil⟩
  case round =>
    clear HS
    obtain ⟨k, hk, rfl, v', g', l, HK, HW⟩ := hrel
    by_cases hlt : k < n
    · have hka : k < a.length := by rw [HN.out]; exact hlt
      have hkb : k < b.length := by rw [HNB.out]; exact hlt
      have hfa := HK.out.st.fr HR.out
      have hfb := HK.out.st.fr HT.out
      obtain ⟨p, off, rfl, hp, hcp⟩ := hfa.row k hka
      obtain ⟨p2, off2, rfl, hp2, hcp2⟩ := hfb.row k hkb
      have hx := (HWA.out.grow HK.out.st.grow).at hka
      have hy := (HWB.out.grow HK.out.st.grow).at hkb
      have A1 := hide (unhide FN (wr.drewN 1) v' g' (3 * k) a[k] b[k] _ _ (HK.out.st.below (below_drewN (Below.refl _ _) 1)) (by omega) hx hy)
      have hAl : ∀ ins, k < (A ins).length := fun ins => by rw [HWA.out.len ins]; exact hka
      have hBl : ∀ ins, k < (Y ins).length := fun ins => by rw [HWB.out.len ins]; exact hkb
      have HAL := hide hAl
      have HBL := hide hBl
      have FA := hide (hfa.far p off rfl).2
      have FB := hide (hfb.far p2 off2 rfl).2
      have n1 : p ≠ q := by
        rintro rfl
        have := (HR.out.far p off rfl).1
        have h2 := HK.out.new
        omega
      have n2 : p2 ≠ q := by
        rintro rfl
        have := (HT.out.far p2 off2 rfl).1
        have h2 := HK.out.new
        omega
      have n1' := n1.symm
      have n2' := n2.symm
      clear hx hy hAl hBl hfa hfb
      generalize a[k] = x at *
      generalize b[k] = y at *
      clear hka hkb
      go_wp2
      go_region_held3 (fun z => z.cell? ⟨p, off + k, none⟩ = some (.int .i64 x) ∧ z.cell? ⟨p2, off2 + k, none⟩ = some (.int .i64 y)) (go_keep)
        (first
          | (go_at_call 59; refine (unhide A1).mono ?_; rintro e w2 ⟨l2, v2, g2, rfl, s2, b2⟩; have y2 := s2.cell hp FA.out hcp; have y3 := s2.cell hp2 FB.out hcp2; have z1 := ((HK.out.below (below_drewN (Below.refl _ _) 1)).act s2).cell hlt; have f1 := ((HK.out.below (below_drewN (Below.refl _ _) 1)).act s2).fz k))
      all_goals
        have S1 := hide (((HK.out.below (below_drewN (Below.refl _ _) 1)).act s2).set k l2)
        have HT1 : Hid (Wt g2 ((l.set k l2).take (k + 1)) (fun ins => List.zipWith (op ins) ((A ins).take (k + 1)) ((Y ins).take (k + 1)))) := by
          have hlen := HK.out.len
          unfold Hid
          rw [take_set _ _ _ (by omega)]
          refine ((HW.out.grow s2.grow).snoc b2).congr fun ins => ?_
          rw [take_getD (HAL.out ins), take_getD (HBL.out ins), zip_snoc _ _ _ _ _ (by have := HAL.out ins; have := HBL.out ins; simp; omega)]
        clear s2 b2 y2 y3 z1 f1
        go_wp2
        go_roundw
        case rel => exact ⟨k + 1, by omega, by go_num, v2, g2, _, S1.out.mono (by omega), HT1.out⟩
        case measure => simp [intOf]; omega
    · have hke : k = n := by omega
      subst hke
      have hfin := HK.out.wp (f := fun ins => List.zipWith (op ins) (A ins) (Y ins)) (by
        have h1 := HW.out
        rw [List.take_of_length_le (by rw [HK.out.len]; exact Nat.le_refl _)] at h1
        exact h1.congr fun ins => by rw [List.take_of_length_le (by rw [HWA.out.len ins, HN.out]; exact Nat.le_refl _), List.take_of_length_le (by rw [HWB.out.len ins, HNB.out]; exact Nat.le_refl _)])
      have HF := hide hfin
      clear hfin
      go_wp2
      go_ret
      exact HF.out

set_option maxHeartbeats 4000000 in
theorem bits_xor (op : List Bool → Bool → Bool → Bool) (ax bx : Option Addr) (ca cb : Nat) (a b : List Int) (n : Nat) (A Y : List Bool → List Bool)
    (hA : Gr w B M v g) (hl : g.length ≤ 990000) (hn : a.length = n) (hm : b.length = n) (h16 : n ≤ 16) (hr : Fr w B M v ax a) (hs : Fr w B M v bx b) (ha : Wt g a A) (hb : Wt g b Y)
    (F : ∀ W v' g' j x y X Y, St w W B M v v' g g' j → j ≤ 48 → Lt g' x X → Lt g' y Y → Calls Try.prog 55 #[.pointer (some ⟨B, 0, none⟩), .int .i64 x, .int .i64 y] W (AP W B M v' g' 3 (fun ins => op ins (X ins) (Y ins)))) :
    Calls Try.prog 54 #[.func (.func 55) #[.pointer (some ⟨B, 0, none⟩)] #[], .slice ax n ca, .slice bx n cb] w (WP w B M v g n (3 * n) (fun ins => List.zipWith (op ins) (A ins) (Y ins))) := by
  have mk := mk_any n (by omega)
  have HS := hide (Ml.start hA n)
  have FN := hide F
  have HR := hide hr
  have HT := hide hs
  have HWA := hide ha
  have HWB := hide hb
  have HN := hide hn
  have HNB := hide hm
  clear hA hr hs ha hb hn hm F
  go_enter Try.func54, Try.ntmps54
  go_upto_region 2 with fail
  refine forget (P := fun W => Code.wp Try.prog _ _ _ W) (fun W => Hid (Ml w W B M v v g g 0 n w.heap.size (List.replicate n 0))) HS ?_
  clear HS mk
  intro W0 HS
  generalize w.heap.size = q at *
  go_wp2
  go_loopw [14] (fun i W => ∃ k : Nat, k ≤ n ∧ i = .int .i64 (k : Int) ∧ ∃ v' g' l, Hid (Ml w W B M v v' g g' (3 * k) n q l) ∧ Hid (Wt g' (l.take k) (fun ins => List.zipWith (op ins) ((A ins).take k) ((Y ins).take k)))) (fun i _ => n - (intOf i).toNat)
  case atStart => exact ⟨0, Nat.zero_le _, rfl, v, g, _, HS, Wt.nil⟩
  case round =>
    clear HS
    obtain ⟨k, hk, rfl, v', g', l, HK, HW⟩ := hrel
    by_cases hlt : k < n
    · have hka : k < a.length := by rw [HN.out]; exact hlt
      have hkb : k < b.length := by rw [HNB.out]; exact hlt
      have hfa := HK.out.st.fr HR.out
      have hfb := HK.out.st.fr HT.out
      obtain ⟨p, off, rfl, hp, hcp⟩ := hfa.row k hka
      obtain ⟨p2, off2, rfl, hp2, hcp2⟩ := hfb.row k hkb
      have hx := (HWA.out.grow HK.out.st.grow).at hka
      have hy := (HWB.out.grow HK.out.st.grow).at hkb
      have A1 := hide (unhide FN (wr.drewN 1) v' g' (3 * k) a[k] b[k] _ _ (HK.out.st.below (below_drewN (Below.refl _ _) 1)) (by omega) hx hy)
      have hAl : ∀ ins, k < (A ins).length := fun ins => by rw [HWA.out.len ins]; exact hka
      have hBl : ∀ ins, k < (Y ins).length := fun ins => by rw [HWB.out.len ins]; exact hkb
      have HAL := hide hAl
      have HBL := hide hBl
      have FA := hide (hfa.far p off rfl).2
      have FB := hide (hfb.far p2 off2 rfl).2
      have n1 : p ≠ q := by
        rintro rfl
        have := (HR.out.far p off rfl).1
        have h2 := HK.out.new
        omega
      have n2 : p2 ≠ q := by
        rintro rfl
        have := (HT.out.far p2 off2 rfl).1
        have h2 := HK.out.new
        omega
      have n1' := n1.symm
      have n2' := n2.symm
      clear hx hy hAl hBl hfa hfb
      generalize a[k] = x at *
      generalize b[k] = y at *
      clear hka hkb
      go_wp2
      go_region_held3 (fun z => z.cell? ⟨p, off + k, none⟩ = some (.int .i64 x) ∧ z.cell? ⟨p2, off2 + k, none⟩ = some (.int .i64 y)) (go_keep)
        (first
          | (go_at_call 55; refine (unhide A1).mono ?_; rintro e w2 ⟨l2, v2, g2, rfl, s2, b2⟩; have y2 := s2.cell hp FA.out hcp; have y3 := s2.cell hp2 FB.out hcp2; have z1 := ((HK.out.below (below_drewN (Below.refl _ _) 1)).act s2).cell hlt; have f1 := ((HK.out.below (below_drewN (Below.refl _ _) 1)).act s2).fz k))
      all_goals
        have S1 := hide (((HK.out.below (below_drewN (Below.refl _ _) 1)).act s2).set k l2)
        have HT1 : Hid (Wt g2 ((l.set k l2).take (k + 1)) (fun ins => List.zipWith (op ins) ((A ins).take (k + 1)) ((Y ins).take (k + 1)))) := by
          have hlen := HK.out.len
          unfold Hid
          rw [take_set _ _ _ (by omega)]
          refine ((HW.out.grow s2.grow).snoc b2).congr fun ins => ?_
          rw [take_getD (HAL.out ins), take_getD (HBL.out ins), zip_snoc _ _ _ _ _ (by have := HAL.out ins; have := HBL.out ins; simp; omega)]
        clear s2 b2 y2 y3 z1 f1
        go_wp2
        go_roundw
        case rel => exact ⟨k + 1, by omega, by go_num, v2, g2, _, S1.out.mono (by omega), HT1.out⟩
        case measure => simp [intOf]; omega
    · have hke : k = n := by omega
      subst hke
      have hfin := HK.out.wp (f := fun ins => List.zipWith (op ins) (A ins) (Y ins)) (by
        have h1 := HW.out
        rw [List.take_of_length_le (by rw [HK.out.len]; exact Nat.le_refl _)] at h1
        exact h1.congr fun ins => by rw [List.take_of_length_le (by rw [HWA.out.len ins, HN.out]; exact Nat.le_refl _), List.take_of_length_le (by rw [HWB.out.len ins, HNB.out]; exact Nat.le_refl _)])
      have HF := hide hfin
      clear hfin
      go_wp2
      go_ret
      exact HF.out

end
end Go.Proofs.Ytbilhiklfficoaa
