/- Contracts: not, masked, some, carry, carried, sum, difference. -/
import Derived.Test.YtdjfciigfledhaaVa
import Derived.Deep.RegionHeld3
import Derived.Deep.RegionLaw
set_option linter.unusedVariables false
set_option linter.unusedSimpArgs false
namespace Go.Proofs.Ytdjfciigfledhaa
open Go.RowKit Go.Maps

theorem mk_any (n : Nat) (h : n ≤ 100000) (W : World) : (Instr.makeSlice 27 (.int .i64 (n : Int)) (.int .i64 (n : Int))).run Try.prog W = .ok (.slice (some ⟨W.heap.size, 0, none⟩) n n) (W.alloc (.cells (madeCells #[.int .i64 0] n) 3)) :=
  run_make_row' 27 3 (.int .i64 0) 8 Try.underlying27 Try.info3 rfl .i64 .i64 n (by omega) (by omega) W

section
variable (w : World) (B M : Nat) (v : Value) (g : List Gt)

set_option maxHeartbeats 2000000 in
theorem masked_any (c : Int) (C : List Bool → Bool) (ax : Option Addr) (ca : Nat) (a : List Int) (n : Nat) (A : List Bool → List Bool)
    (hA : Gr w B M v g) (hl : g.length ≤ 990000) (hn : a.length = n) (h16 : n ≤ 16) (hr : Fr w B M v ax a) (ha : Wt g a A) (hc : Lt g c C) :
    Calls Try.prog 53 #[.pointer (some ⟨B, 0, none⟩), .int .i64 c, .slice ax n ca] w (WP w B M v g n n (fun ins => (A ins).map (C ins && ·))) := by
  have mk := mk_any n (by omega)
  have HS := hide (Ml.start hA n)
  have AN : Hid (∀ W v' g' x X, Gr W B M v' g' → g'.length ≤ 999990 → Lt g' c C → Lt g' x X → Calls Try.prog 57 #[.pointer (some ⟨B, 0, none⟩), .int .i64 c, .int .i64 x] W (AP W B M v' g' 1 (fun ins => C ins && X ins))) := fun W v' g' x X h h1 h2 h3 => andM h h1 h2 h3
  have HR := hide hr
  have HWA := hide ha
  have HC := hide hc
  have HN := hide hn
  clear hA hr ha hc hn
  go_enter Try.func53, Try.ntmps53
  go_upto_region 2 with fail
  refine forget (P := fun W => Code.wp Try.prog _ _ _ W) (fun W => Hid (Ml w W B M v v g g 0 n w.heap.size (List.replicate n 0))) HS ?_
  clear HS mk
  intro W0 HS
  generalize w.heap.size = q at *
  go_wp2
  go_loopw [15] (fun i W => ∃ k : Nat, k ≤ n ∧ i = .int .i64 (k : Int) ∧ ∃ v' g' l, Hid (Ml w W B M v v' g g' k n q l) ∧ Hid (Wt g' (l.take k) (fun ins => ((A ins).take k).map (C ins && ·)))) (fun i _ => n - (intOf i).toNat)
  case atStart => exact ⟨0, Nat.zero_le _, rfl, v, g, _, HS, Wt.nil⟩
  case round =>
    clear HS
    obtain ⟨k, hk, rfl, v', g', l, HK, HW⟩ := hrel
    by_cases hlt : k < n
    · have hka : k < a.length := by rw [HN.out]; exact hlt
      obtain ⟨b, off, rfl, hb, hcell⟩ := (HK.out.st.fr HR.out).row k hka
      have hx := (HWA.out.grow HK.out.st.grow).at hka
      have HX := hide (hx.i64 HK.out.st.gr.le).1
      have A1 := hide (unhide AN wr v' g' a[k] _ HK.out.st.gr (by have := HK.out.st.len; omega) (HC.out.grow HK.out.st.grow) hx)
      have hAl : ∀ ins, k < (A ins).length := fun ins => by rw [HWA.out.len ins]; exact hka
      have HAL := hide hAl
      clear hx hAl
      generalize a[k] = x at *
      clear hka
      go_wp2_with (first
        | (go_at_call 57; refine (unhide A1).mono ?_; rintro e w1 ⟨l1, v1, g1, rfl, s1, b1⟩; have z1 := (HK.out.act s1).cell hlt; have f1 := (HK.out.act s1).fz k))
      go_roundw
      case rel =>
        refine ⟨k + 1, by omega, by go_num, v1, g1, _, (HK.out.act s1).set k l1, ?_⟩
        have hlen := HK.out.len
        unfold Hid
        rw [take_set _ _ _ (by omega)]
        refine ((HW.out.grow s1.grow).snoc b1).congr fun ins => ?_
        rw [take_getD (HAL.out ins)]
        simp
      case measure => simp [intOf]; omega
    · have hke : k = n := by omega
      subst hke
      have hfin := HK.out.wp (f := fun ins => (A ins).map (C ins && ·)) (by
        have h1 := HW.out
        rw [List.take_of_length_le (by rw [HK.out.len]; exact Nat.le_refl _)] at h1
        exact h1.congr fun ins => by rw [List.take_of_length_le (by rw [HWA.out.len ins, HN.out]; exact Nat.le_refl _)])
      have HF := hide hfin
      clear hfin
      go_wp2
      go_ret
      exact HF.out

set_option maxHeartbeats 2000000 in
theorem not_word (ax : Option Addr) (ca : Nat) (a : List Int) (n : Nat) (A : List Bool → List Bool)
    (hA : Gr w B M v g) (hn : a.length = n) (h16 : n ≤ 16) (hr : Fr w B M v ax a) (ha : Wt g a A) :
    Calls Try.prog 60 #[.slice ax n ca] w (WP w B M v g n 0 (fun ins => (A ins).map (!·))) := by
  have mk := mk_any n (by omega)
  have HS := hide (Ml.start hA n)
  have HR := hide hr
  have HWA := hide ha
  have HN := hide hn
  have HM := hide hA.le
  clear hA hr ha hn
  go_enter Try.func60, Try.ntmps60
  go_upto_region 2 with fail
  refine forget (P := fun W => Code.wp Try.prog _ _ _ W) (fun W => Hid (Ml w W B M v v g g 0 n w.heap.size (List.replicate n 0))) HS ?_
  clear HS mk
  intro W0 HS
  generalize w.heap.size = q at *
  go_wp2
  go_loopw [11] (fun i W => ∃ k : Nat, k ≤ n ∧ i = .int .i64 (k : Int) ∧ ∃ l, Hid (Ml w W B M v v g g 0 n q l) ∧ Hid (Wt g (l.take k) (fun ins => ((A ins).take k).map (!·)))) (fun i _ => n - (intOf i).toNat)
  case atStart => exact ⟨0, Nat.zero_le _, rfl, _, HS, Wt.nil⟩
  case round =>
    clear HS
    obtain ⟨k, hk, rfl, l, HK, HW⟩ := hrel
    by_cases hlt : k < n
    · have hka : k < a.length := by rw [HN.out]; exact hlt
      obtain ⟨b, off, rfl, hb, hcell⟩ := (HK.out.st.fr HR.out).row k hka
      have hx := HWA.out.at hka
      have HX := hide hx.not
      have hxo := xor_one (hx.i64 HM.out).1
      have hAl : ∀ ins, k < (A ins).length := fun ins => by rw [HWA.out.len ins]; exact hka
      have HAL := hide hAl
      have z1 := HK.out.cell hlt
      have f1 := HK.out.fz k
      clear hx hAl
      generalize a[k] = x at *
      clear hka
      generalize notI x = nx at *
      go_wp2
      go_roundw
      case rel =>
        refine ⟨k + 1, by omega, by go_num, _, HK.out.set k nx, ?_⟩
        have hlen := HK.out.len
        unfold Hid
        rw [take_set _ _ _ (by omega)]
        refine (HW.out.snoc HX.out).congr fun ins => ?_
        rw [take_getD (HAL.out ins)]
        simp
      case measure => simp [intOf]; omega
    · have hke : k = n := by omega
      subst hke
      have hfin := HK.out.wp (f := fun ins => (A ins).map (!·)) (by
        have h1 := HW.out
        rw [List.take_of_length_le (by rw [HK.out.len]; exact Nat.le_refl _)] at h1
        exact h1.congr fun ins => by rw [List.take_of_length_le (by rw [HWA.out.len ins, HN.out]; exact Nat.le_refl _)])
      have HF := hide hfin
      clear hfin
      go_wp2
      go_ret
      exact HF.out

set_option maxHeartbeats 2000000 in
theorem some_any (ax : Option Addr) (ca : Nat) (a : List Int) (n : Nat) (A : List Bool → List Bool)
    (hA : Gr w B M v g) (hl : g.length ≤ 990000) (hn : a.length = n) (h16 : n ≤ 16) (hr : Fr w B M v ax a) (ha : Wt g a A) :
    Calls Try.prog 72 #[.pointer (some ⟨B, 0, none⟩), .slice ax n ca] w (AP w B M v g n (fun ins => (A ins).any id)) := by
  have HS := hide (St.refl hA)
  have AN : Hid (∀ W v' g' y x Y X, Gr W B M v' g' → g'.length ≤ 999990 → Lt g' y Y → Lt g' x X → Calls Try.prog 58 #[.pointer (some ⟨B, 0, none⟩), .int .i64 y, .int .i64 x] W (AP W B M v' g' 1 (fun ins => Y ins || X ins))) := fun W v' g' y x Y X h h1 h2 h3 => orM h h1 h2 h3
  have HR := hide hr
  have HWA := hide ha
  have HN := hide hn
  clear hA hr ha hn
  go_enter Try.func72, Try.ntmps72
  go_wp2
  go_loopw [5, 10] (fun y i W => ∃ k : Nat, k ≤ n ∧ i = .int .i64 (k : Int) ∧ ∃ v' g' z, y = .int .i64 z ∧ Hid (St w W B M v v' g g' k) ∧ Hid (Lt g' z (fun ins => ((A ins).take k).any id))) (fun _ i _ => n - (intOf i).toNat)
  case atStart => exact ⟨0, Nat.zero_le _, rfl, v, g, 0, rfl, HS, lt_zero g⟩
  case round =>
    clear HS
    obtain ⟨k, hk, rfl, v', g', z, rfl, HK, HW⟩ := hrel
    by_cases hlt : k < n
    · have hka : k < a.length := by rw [HN.out]; exact hlt
      obtain ⟨b, off, rfl, hb, hcell⟩ := (HK.out.fr HR.out).row k hka
      have hx := (HWA.out.grow HK.out.grow).at hka
      have A1 := hide (unhide AN wr v' g' z a[k] _ _ HK.out.gr (by have := HK.out.len; omega) HW.out hx)
      have hAl : ∀ ins, k < (A ins).length := fun ins => by rw [HWA.out.len ins]; exact hka
      have HAL := hide hAl
      clear hx hAl
      generalize a[k] = x at *
      clear hka
      go_wp2_with (first
        | (go_at_call 58; refine (unhide A1).mono ?_; rintro e w1 ⟨l1, v1, g1, rfl, s1, b1⟩))
      go_roundw
      case rel =>
        refine ⟨k + 1, by omega, by go_num, v1, g1, l1, rfl, HK.out.trans s1, b1.congr fun ins => ?_⟩
        rw [take_getD (HAL.out ins)]
        simp
      case measure => simp [intOf]; omega
    · have hke : k = n := by omega
      subst hke
      have hfin : Hid (AP w B M v g k (fun ins => (A ins).any id) (.returned (.int .i64 z)) wr) := ⟨z, v', g', rfl, HK.out, HW.out.congr fun ins => by rw [List.take_of_length_le (by rw [HWA.out.len ins, HN.out]; exact Nat.le_refl _)]⟩
      go_wp2
      go_ret
      exact hfin.out

set_option maxHeartbeats 2000000 in
theorem carry_any (a b c : Int) (X Y Z : List Bool → Bool) (hA : Gr w B M v g) (hl : g.length ≤ 999980) (ha : Lt g a X) (hb : Lt g b Y) (hc : Lt g c Z) :
    Calls Try.prog 81 #[.pointer (some ⟨B, 0, none⟩), .int .i64 a, .int .i64 b, .int .i64 c] w (AP w B M v g 4 (fun ins => (X ins && Y ins) || (Z ins && (X ins || Y ins)))) := by
  have AN : Hid (∀ W v' g' y x Y X, Gr W B M v' g' → g'.length ≤ 999990 → Lt g' y Y → Lt g' x X → Calls Try.prog 57 #[.pointer (some ⟨B, 0, none⟩), .int .i64 y, .int .i64 x] W (AP W B M v' g' 1 (fun ins => Y ins && X ins))) := fun W v' g' y x Y X h h1 h2 h3 => andM h h1 h2 h3
  have ON : Hid (∀ W v' g' y x Y X, Gr W B M v' g' → g'.length ≤ 999990 → Lt g' y Y → Lt g' x X → Calls Try.prog 58 #[.pointer (some ⟨B, 0, none⟩), .int .i64 y, .int .i64 x] W (AP W B M v' g' 1 (fun ins => Y ins || X ins))) := fun W v' g' y x Y X h h1 h2 h3 => orM h h1 h2 h3
  have HA := hide hA
  have HX := hide ha
  have HY := hide hb
  have HZ := hide hc
  clear hA ha hb hc
  go_enter Try.func81, Try.ntmps81
  go_wp2_with (first
    | (go_at_call 58; refine (unhide ON _ _ _ _ _ _ _ s3.gr (by have := s1.len; have := s2.len; have := s3.len; omega) (b1.grow (s2.trans s3).grow) b3).mono ?_; rintro e w4 ⟨l4, v4, g4, rfl, s4, b4⟩)
    | (go_at_call 57; refine (unhide AN _ _ _ _ _ _ _ s2.gr (by have := s1.len; have := s2.len; omega) (HZ.out.grow (s1.trans s2).grow) b2).mono ?_; rintro e w3 ⟨l3, v3, g3, rfl, s3, b3⟩)
    | (go_at_call 58; refine (unhide ON _ _ _ _ _ _ _ s1.gr (by have := s1.len; omega) (HX.out.grow s1.grow) (HY.out.grow s1.grow)).mono ?_; rintro e w2 ⟨l2, v2, g2, rfl, s2, b2⟩)
    | (go_at_call 57; refine (unhide AN _ _ _ _ _ _ _ HA.out (by omega) HX.out HY.out).mono ?_; rintro e w1 ⟨l1, v1, g1, rfl, s1, b1⟩))
  go_ret
  exact ⟨l4, v4, g4, rfl, (((s1.trans s2).trans s3).trans s4), b4⟩
end
end Go.Proofs.Ytdjfciigfledhaa
