/- Contracts: carried, sum, difference. -/
import Derived.Test.YtdjfciigfledhaaVb
set_option linter.unusedVariables false
set_option linter.unusedSimpArgs false
namespace Go.Proofs.Ytdjfciigfledhaa
open Go.RowKit Go.Maps

theorem St.cell {w W : World} {B M k b o : Nat} {v v' : Value} {g g' : List Gt} {x : Value} (h : St w W B M v v' g g' k) (hb : b < w.heap.size) (hf : ¬ Sv B M v b) (hc : w.cell? ⟨b, o, none⟩ = some x) : W.cell? ⟨b, o, none⟩ = some x :=
  (World.cell?_of_block (h.kp.block b hb hf)).trans hc

section
variable (w : World) (B M : Nat) (v : Value) (g : List Gt)

set_option maxHeartbeats 2000000 in
theorem carried_any (ax bx : Option Addr) (ca cb : Nat) (a b : List Int) (c : Int) (n : Nat) (A Y : List Bool → List Bool) (C : List Bool → Bool)
    (hA : Gr w B M v g) (hl : g.length ≤ 990000) (hn : a.length = n) (hm : b.length = n) (h16 : n ≤ 16) (hr : Fr w B M v ax a) (hs : Fr w B M v bx b) (ha : Wt g a A) (hb : Wt g b Y) (hc : Lt g c C) :
    Calls Try.prog 71 #[.pointer (some ⟨B, 0, none⟩), .slice ax n ca, .slice bx n cb, .int .i64 c] w (AP w B M v g (4 * n) (fun ins => carB (A ins) (Y ins) (C ins))) := by
  have HS := hide (St.refl hA)
  have AN : Hid (∀ W v' g' x y z X Y Z, Gr W B M v' g' → g'.length ≤ 999980 → Lt g' x X → Lt g' y Y → Lt g' z Z → Calls Try.prog 81 #[.pointer (some ⟨B, 0, none⟩), .int .i64 x, .int .i64 y, .int .i64 z] W (AP W B M v' g' 4 (fun ins => (X ins && Y ins) || (Z ins && (X ins || Y ins))))) := fun W v' g' x y z X Y Z h h1 h2 h3 h4 => carry_any W B M v' g' x y z X Y Z h h1 h2 h3 h4
  have HR := hide hr
  have HT := hide hs
  have HWA := hide ha
  have HWB := hide hb
  have HC := hide hc
  have HN := hide hn
  have HNB := hide hm
  clear hA hr hs ha hb hc hn hm
  go_enter Try.func71, Try.ntmps71
  go_wp2
  go_loopw [3, 12] (fun y i W => ∃ k : Nat, k ≤ n ∧ i = .int .i64 (k : Int) ∧ ∃ v' g' z, y = .int .i64 z ∧ Hid (St w W B M v v' g g' (4 * k)) ∧ Hid (Lt g' z (fun ins => carB ((A ins).take k) ((Y ins).take k) (C ins)))) (fun _ i _ => n - (intOf i).toNat)
  case atStart => exact ⟨0, Nat.zero_le _, rfl, v, g, c, rfl, HS, HC.out.congr fun ins => by simp [carB]⟩
  case round =>
    clear HS
    obtain ⟨k, hk, rfl, v', g', z, rfl, HK, HW⟩ := hrel
    by_cases hlt : k < n
    · have hka : k < a.length := by rw [HN.out]; exact hlt
      have hkb : k < b.length := by rw [HNB.out]; exact hlt
      have hfa := HK.out.fr HR.out
      have hfb := HK.out.fr HT.out
      obtain ⟨p, off, rfl, hp, hcp⟩ := hfa.row k hka
      obtain ⟨p2, off2, rfl, hp2, hcp2⟩ := hfb.row k hkb
      have hx := (HWA.out.grow HK.out.grow).at hka
      have hy := (HWB.out.grow HK.out.grow).at hkb
      have A1 := hide (fun W (h : Gr W B M v' g') => unhide AN W v' g' a[k] b[k] z _ _ _ h (by have := HK.out.len; omega) hx hy HW.out)
      have hAl : ∀ ins, k < (A ins).length := fun ins => by rw [HWA.out.len ins]; exact hka
      have hBl : ∀ ins, k < (Y ins).length := fun ins => by rw [HWB.out.len ins]; exact hkb
      have HAL := hide hAl
      have HBL := hide hBl
      have FA := hide (hfa.far p off rfl).2
      have FB := hide (hfb.far p2 off2 rfl).2
      clear hx hy hAl hBl hfa hfb
      generalize a[k] = x at *
      generalize b[k] = y at *
      clear hka hkb
      go_wp2
      go_region_held3 (fun z => z.cell? ⟨p, off + k, none⟩ = some (.int .i64 x) ∧ z.cell? ⟨p2, off2 + k, none⟩ = some (.int .i64 y)) (go_keep)
        (first | (go_at_call 81; refine (unhide A1 _ (HK.out.gr.drewN 1)).mono ?_; rintro e w1 ⟨l1, v1, g1, rfl, s1, b1⟩; have y0 := s1.cell hp FA.out hcp; have y1 := s1.cell hp2 FB.out hcp2))
      all_goals
        have S1 := hide ((HK.out.below (below_drewN (Below.refl _ _) 1)).trans s1)
        clear s1 y0 y1
        go_wp2
        go_roundw
        case rel =>
          refine ⟨k + 1, by omega, by go_num, v1, g1, l1, rfl, S1.out.mono (by omega), b1.congr fun ins => ?_⟩
          rw [take_getD (HAL.out ins), take_getD (HBL.out ins), carB_snoc _ _ _ _ _ (by have := HAL.out ins; have := HBL.out ins; simp; omega)]
        case measure => simp [intOf]; omega
    · have hke : k = n := by omega
      subst hke
      have hfin : Hid (AP w B M v g (4 * k) (fun ins => carB (A ins) (Y ins) (C ins)) (.returned (.int .i64 z)) wr) := ⟨z, v', g', rfl, HK.out, HW.out.congr fun ins => by rw [List.take_of_length_le (by rw [HWA.out.len ins, HN.out]; exact Nat.le_refl _), List.take_of_length_le (by rw [HWB.out.len ins, HNB.out]; exact Nat.le_refl _)]⟩
      go_wp2
      go_ret
      exact hfin.out

set_option maxHeartbeats 4000000 in
theorem sum_any (ax bx : Option Addr) (ca cb : Nat) (a b : List Int) (c : Int) (n : Nat) (A Y : List Bool → List Bool) (C : List Bool → Bool)
    (hA : Gr w B M v g) (hl : g.length ≤ 990000) (hn : a.length = n) (hm : b.length = n) (h16 : n ≤ 16) (hr : Fr w B M v ax a) (hs : Fr w B M v bx b) (ha : Wt g a A) (hb : Wt g b Y) (hc : Lt g c C) :
    Calls Try.prog 51 #[.pointer (some ⟨B, 0, none⟩), .slice ax n ca, .slice bx n cb, .int .i64 c] w (WP w B M v g n (10 * n) (fun ins => addB (A ins) (Y ins) (C ins))) := by
  have mk := mk_any n (by omega)
  have HS := hide (Ml.start hA n)
  have AN : Hid (∀ W v' g' x y z X Y Z, Gr W B M v' g' → g'.length ≤ 999980 → Lt g' x X → Lt g' y Y → Lt g' z Z → Calls Try.prog 81 #[.pointer (some ⟨B, 0, none⟩), .int .i64 x, .int .i64 y, .int .i64 z] W (AP W B M v' g' 4 (fun ins => (X ins && Y ins) || (Z ins && (X ins || Y ins))))) := fun W v' g' x y z X Y Z h h1 h2 h3 h4 => carry_any W B M v' g' x y z X Y Z h h1 h2 h3 h4
  have XN : Hid (∀ W v' g' y x Y X, Gr W B M v' g' → g'.length ≤ 999990 → Lt g' y Y → Lt g' x X → Calls Try.prog 59 #[.pointer (some ⟨B, 0, none⟩), .int .i64 y, .int .i64 x] W (AP W B M v' g' 3 (fun ins => Y ins != X ins))) := fun W v' g' y x Y X h h1 h2 h3 => xorM h h1 h2 h3
  have HR := hide hr
  have HT := hide hs
  have HWA := hide ha
  have HWB := hide hb
  have HC := hide hc
  have HN := hide hn
  have HNB := hide hm
  have HNP : Hid (Gr w B M v g) := hA
  clear hA hr hs ha hb hc hn hm
  go_enter Try.func51, Try.ntmps51
  go_upto_region 2 with fail
  refine forget (P := fun W => Code.wp Try.prog _ _ _ W) (fun W => Hid (Ml w W B M v v g g 0 n w.heap.size (List.replicate n 0))) HS ?_
  clear HS mk HNP
  intro W0 HS
  generalize w.heap.size = q at *
  go_wp2
  go_loopw [3, 16] (fun y i W => ∃ k : Nat, k ≤ n ∧ i = .int .i64 (k : Int) ∧ ∃ v' g' z l, y = .int .i64 z ∧ Hid (Ml w W B M v v' g g' (10 * k) n q l) ∧ Hid (Wt g' (l.take k) (fun ins => addB ((A ins).take k) ((Y ins).take k) (C ins))) ∧ Hid (k < n → Lt g' z (fun ins => carB ((A ins).take k) ((Y ins).take k) (C ins)))) (fun _ i _ => n - (intOf i).toNat)
  case atStart => exact ⟨0, Nat.zero_le _, rfl, v, g, c, _, rfl, HS, ⟨fun k hk => by simp at hk, fun ins => by simp [addB, bitsW]⟩, fun _ => HC.out.congr fun ins => by simp [carB]⟩
  case round =>
    clear HS
    obtain ⟨k, hk, rfl, v', g', z, l, rfl, HK, HW, HZ⟩ := hrel
    by_cases hlt : k < n
    · have hka : k < a.length := by rw [HN.out]; exact hlt
      have hkb : k < b.length := by rw [HNB.out]; exact hlt
      have hfa := HK.out.st.fr HR.out
      have hfb := HK.out.st.fr HT.out
      obtain ⟨p, off, rfl, hp, hcp⟩ := hfa.row k hka
      obtain ⟨p2, off2, rfl, hp2, hcp2⟩ := hfb.row k hkb
      have hx := (HWA.out.grow HK.out.st.grow).at hka
      have hy := (HWB.out.grow HK.out.st.grow).at hkb
      have HX := hide hx
      have HY := hide hy
      have HZ1 := hide (HZ.out hlt)
      have HLEN := hide HK.out.st.len
      have A1 := hide (fun W (h : Gr W B M v' g') => unhide XN W v' g' a[k] b[k] _ _ h (by have := HLEN.out; omega) hx hy)
      have hAl : ∀ ins, k < (A ins).length := fun ins => by rw [HWA.out.len ins]; exact hka
      have hBl : ∀ ins, k < (Y ins).length := fun ins => by rw [HWB.out.len ins]; exact hkb
      have HAL := hide hAl
      have HBL := hide hBl
      have FA := hide (hfa.far p off rfl).2
      have FB := hide (hfb.far p2 off2 rfl).2
      have n1 : p ≠ q := by
        rintro rfl
        have := (HR.out.far p off rfl).1
        have h2 := HK.out.new
        omega
      have n2 : p2 ≠ q := by
        rintro rfl
        have := (HT.out.far p2 off2 rfl).1
        have h2 := HK.out.new
        omega
      have n1' := n1.symm
      have n2' := n2.symm
      clear hx hy hAl hBl hfa hfb HZ
      generalize a[k] = x at *
      generalize b[k] = y at *
      clear hka hkb
      go_wp2
      go_region_held3 (fun z => z.cell? ⟨p, off + k, none⟩ = some (.int .i64 x) ∧ z.cell? ⟨p2, off2 + k, none⟩ = some (.int .i64 y)) (go_keep)
        (first
          | (go_at_call 59; refine (unhide XN _ _ _ _ _ _ _ s1.gr (by have := s1.len; have := HLEN.out; omega) b1 (HZ1.out.grow s1.grow)).mono ?_; rintro e w2 ⟨l2, v2, g2, rfl, s2, b2⟩; have y2 := (s1.trans s2).cell hp FA.out hcp; have y3 := (s1.trans s2).cell hp2 FB.out hcp2; have z1 := ((HK.out.below (below_drewN (Below.refl _ _) 1)).act (s1.trans s2)).cell hlt; have f1 := ((HK.out.below (below_drewN (Below.refl _ _) 1)).act (s1.trans s2)).fz k)
          | (go_at_call 59; refine (unhide A1 _ (HK.out.st.gr.drewN 1)).mono ?_; rintro e w1 ⟨l1, v1, g1, rfl, s1, b1⟩; have y0 := s1.cell hp FA.out hcp; have y1 := s1.cell hp2 FB.out hcp2))
      all_goals
        have S1 := hide (((HK.out.below (below_drewN (Below.refl _ _) 1)).act (s1.trans s2)).set k l2)
        have T1 := hide (HW.out.grow (s1.trans s2).grow)
        have B2 := hide b2
        have HZ2 := hide (HZ1.out.grow (s1.trans s2).grow)
        have HX2 := hide (HX.out.grow (s1.trans s2).grow)
        have HY2 := hide (HY.out.grow (s1.trans s2).grow)
        go_upto_region 6 with fail
        refine forget (P := fun W => Code.wp Try.prog _ _ _ W) (fun W => Hid (Ml w W B M v v2 g g2 (10 * k + (3 + 3)) n q (l.set k l2)) ∧ W.cell? ⟨p, off + k, none⟩ = some (.int .i64 x) ∧ W.cell? ⟨p2, off2 + k, none⟩ = some (.int .i64 y)) ⟨S1, (World.cell?_of_block (hd_far n1)).trans y2, (World.cell?_of_block (hd_far n2)).trans y3⟩ ?_
        clear S1 s1 s2 b1 b2 y0 y1 y2 y3 z1 f1 HX HY HZ1 A1
        rintro W2 ⟨S1, q0, q1⟩
        have HT1 : Hid (Wt g2 ((l.set k l2).take (k + 1)) (fun ins => addB ((A ins).take (k + 1)) ((Y ins).take (k + 1)) (C ins))) := by
          have hlen := HK.out.len
          unfold Hid
          rw [take_set _ _ _ (by omega)]
          refine (T1.out.snoc B2.out).congr fun ins => ?_
          rw [take_getD (HAL.out ins), take_getD (HBL.out ins), addB_snoc _ _ _ _ _ (by have := HAL.out ins; have := HBL.out ins; simp; omega)]
        clear T1 B2 HK HW
        by_cases hlast : k + 1 < n
        · have hl2 : (k : Int) + 1 < n := by omega
          have FA2 : Hid (p < W2.heap.size ∧ ¬ Sv B M v2 p) := (S1.out.st.fr HR.out).far p off rfl
          have FB2 : Hid (p2 < W2.heap.size ∧ ¬ Sv B M v2 p2) := (S1.out.st.fr HT.out).far p2 off2 rfl
          have A2 := hide (unhide AN (W2.drewN 1) v2 g2 x y z _ _ _ (S1.out.st.gr.drewN 1) (by have := HLEN.out; have := S1.out.st.len; omega) HX2.out HY2.out HZ2.out)
          go_wp2
          go_region_held3 (fun z => z.cell? ⟨p, off + k, none⟩ = some (.int .i64 x) ∧ z.cell? ⟨p2, off2 + k, none⟩ = some (.int .i64 y)) (go_keep)
            (first | (go_at_call 81; refine (unhide A2).mono ?_; rintro e w3 ⟨l3, v3, g3, rfl, s3, b3⟩; have y0 := s3.cell FA2.out.1 FA2.out.2 q0; have y1 := s3.cell FB2.out.1 FB2.out.2 q1))
          all_goals
            have S2 := hide ((S1.out.below (below_drewN (Below.refl _ _) 1)).act s3)
            have HT2 := hide (HT1.out.grow s3.grow)
            clear s3 y0 y1
            go_wp2
            go_roundw
            case rel =>
              refine ⟨k + 1, by omega, by go_num, v3, g3, l3, _, rfl, S2.out.mono (by omega), HT2.out, fun _ => b3.congr fun ins => ?_⟩
              rw [take_getD (HAL.out ins), take_getD (HBL.out ins), carB_snoc _ _ _ _ _ (by have := HAL.out ins; have := HBL.out ins; simp; omega)]
            case measure => simp [intOf]; omega
        · have hl2 : ¬ (k : Int) + 1 < n := by omega
          go_wp2
          go_roundw
          case rel => exact ⟨k + 1, by omega, by go_num, v2, g2, z, _, rfl, S1.out.mono (by omega), HT1.out, fun h => absurd h hlast⟩
          case measure => simp [intOf]; omega
    · have hke : k = n := by omega
      subst hke
      have hfin := HK.out.wp (f := fun ins => addB (A ins) (Y ins) (C ins)) (by
        have h1 := HW.out
        rw [List.take_of_length_le (by rw [HK.out.len]; exact Nat.le_refl _)] at h1
        exact h1.congr fun ins => by rw [List.take_of_length_le (by rw [HWA.out.len ins, HN.out]; exact Nat.le_refl _), List.take_of_length_le (by rw [HWB.out.len ins, HNB.out]; exact Nat.le_refl _)])
      have HF := hide hfin
      clear hfin
      go_wp2
      go_ret
      exact HF.out
end
end Go.Proofs.Ytdjfciigfledhaa
