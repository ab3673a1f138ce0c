/- Contracts: not, masked, some, carry, carried, sum, difference. -/
import Derived.Test.YtbilhiklfficoaaVa
import Derived.Deep.RegionHeld3
import Derived.Deep.RegionLaw
set_option linter.unusedVariables false
set_option linter.unusedSimpArgs false
namespace Go.Proofs.Ytbilhiklfficoaa
open Go.RowKit Go.Maps

theorem mk_any (n : Nat) (h : n ≤ 100000) (W : World) : (Instr.makeSlice 24 (.int .i64 (n : Int)) (.int .i64 (n : Int))).run Try.prog W = .ok (.slice (some ⟨W.heap.size, 0, none⟩) n n) (W.alloc (.cells (madeCells #[.int .i64 0] n) 3)) :=
  run_make_row' 24 3 (.int .i64 0) 8 Try.underlying24 Try.info3 rfl .i64 .i64 n (by omega) (by omega) W

section
variable (w : World) (B M : Nat) (v : Value) (g : List Gt)

set_option maxHeartbeats 2000000 in
theorem not_word (ax : Option Addr) (ca : Nat) (a : List Int) (n : Nat) (A : List Bool → List Bool)
    (hA : Gr w B M v g) (hn : a.length = n) (h16 : n ≤ 16) (hr : Fr w B M v ax a) (ha : Wt g a A) :
    Calls Try.prog 52 #[.slice ax n ca] w (WP w B M v g n 0 (fun ins => (A ins).map (!·))) := by
  have mk := mk_any n (by omega)
  have HS := hide (Ml.start hA n)
  have HR := hide hr
  have HWA := hide ha
  have HN := hide hn
  have HM := hide hA.le
  clear hA hr ha hn
  go_enter Try.func52, Try.ntmps52
  go_upto_region 2 with fail
  refine forget (P := fun W => Code.wp Try.prog _ _ _ W) (fun W => Hid (Ml w W B M v v g g 0 n w.heap.size (List.replicate n 0))) HS ?_
  clear HS mk
  intro W0 HS
  generalize w.heap.size = q at *
  go_wp2
  go_loopw [11] (fun i W => ∃ k : Nat, k ≤ n ∧ i = .int .i64 (k : Int) ∧ ∃ l, Hid (Ml w W B M v v g g 0 n q l) ∧ Hid (Wt g (l.take k) (fun ins => ((A ins).take k).map (!·)))) (fun i _ => n - (intOf i).toNat)
  case atStart => exact ⟨0, Nat.zero_le _, rfl, _, HS, Wt.nil⟩
  case round =>
    clear HS
    obtain ⟨k, hk, rfl, l, HK, HW⟩ := hrel
    by_cases hlt : k < n
    · have hka : k < a.length := by rw [HN.out]; exact hlt
      obtain ⟨b, off, rfl, hb, hcell⟩ := (HK.out.st.fr HR.out).row k hka
      have hx := HWA.out.at hka
      have HX := hide hx.not
      have hxo := xor_one (hx.i64 HM.out).1
      have hAl : ∀ ins, k < (A ins).length := fun ins => by rw [HWA.out.len ins]; exact hka
      have HAL := hide hAl
      have z1 := HK.out.cell hlt
      have f1 := HK.out.fz k
      clear hx hAl
      generalize a[k] = x at *
      clear hka
      generalize notI x = nx at *
      go_wp2
      go_roundw
      case rel =>
        refine ⟨k + 1, by omega, by go_num, _, HK.out.set k nx, ?_⟩
        have hlen := HK.out.len
        unfold Hid
        rw [take_set _ _ _ (by omega)]
        refine (HW.out.snoc HX.out).congr fun ins => ?_
        rw [take_getD (HAL.out ins)]
        simp
      case measure => simp [intOf]; omega
    · have hke : k = n := by omega
      subst hke
      have hfin := HK.out.wp (f := fun ins => (A ins).map (!·)) (by
        have h1 := HW.out
        rw [List.take_of_length_le (by rw [HK.out.len]; exact Nat.le_refl _)] at h1
        exact h1.congr fun ins => by rw [List.take_of_length_le (by rw [HWA.out.len ins, HN.out]; exact Nat.le_refl _)])
      have HF := hide hfin
      clear hfin
      go_wp2
      go_ret
      exact HF.out

set_option maxHeartbeats 2000000 in
theorem carry_any (a b c : Int) (X Y Z : List Bool → Bool) (hA : Gr w B M v g) (hl : g.length ≤ 999980) (ha : Lt g a X) (hb : Lt g b Y) (hc : Lt g c Z) :
    Calls Try.prog 60 #[.pointer (some ⟨B, 0, none⟩), .int .i64 a, .int .i64 b, .int .i64 c] w (AP w B M v g 4 (fun ins => (X ins && Y ins) || (Z ins && (X ins || Y ins)))) := by
  have AN : Hid (∀ W v' g' y x Y X, Gr W B M v' g' → g'.length ≤ 999990 → Lt g' y Y → Lt g' x X → Calls Try.prog 61 #[.pointer (some ⟨B, 0, none⟩), .int .i64 y, .int .i64 x] W (AP W B M v' g' 1 (fun ins => Y ins && X ins))) := fun W v' g' y x Y X h h1 h2 h3 => andM h h1 h2 h3
  have ON : Hid (∀ W v' g' y x Y X, Gr W B M v' g' → g'.length ≤ 999990 → Lt g' y Y → Lt g' x X → Calls Try.prog 59 #[.pointer (some ⟨B, 0, none⟩), .int .i64 y, .int .i64 x] W (AP W B M v' g' 1 (fun ins => Y ins || X ins))) := fun W v' g' y x Y X h h1 h2 h3 => orM h h1 h2 h3
  have HA := hide hA
  have HX := hide ha
  have HY := hide hb
  have HZ := hide hc
  clear hA ha hb hc
  go_enter Try.func60, Try.ntmps60
  go_wp2_with (first
    | (go_at_call 59; refine (unhide ON _ _ _ _ _ _ _ s3.gr (by have := s1.len; have := s2.len; have := s3.len; omega) (b1.grow (s2.trans s3).grow) b3).mono ?_; rintro e w4 ⟨l4, v4, g4, rfl, s4, b4⟩)
    | (go_at_call 61; refine (unhide AN _ _ _ _ _ _ _ s2.gr (by have := s1.len; have := s2.len; omega) (HZ.out.grow (s1.trans s2).grow) b2).mono ?_; rintro e w3 ⟨l3, v3, g3, rfl, s3, b3⟩)
    | (go_at_call 59; refine (unhide ON _ _ _ _ _ _ _ s1.gr (by have := s1.len; omega) (HX.out.grow s1.grow) (HY.out.grow s1.grow)).mono ?_; rintro e w2 ⟨l2, v2, g2, rfl, s2, b2⟩)
    | (go_at_call 61; refine (unhide AN _ _ _ _ _ _ _ HA.out (by omega) HX.out HY.out).mono ?_; rintro e w1 ⟨l1, v1, g1, rfl, s1, b1⟩))
  go_ret
  exact ⟨l4, v4, g4, rfl, (((s1.trans s2).trans s3).trans s4), b4⟩
end
end Go.Proofs.Ytbilhiklfficoaa
