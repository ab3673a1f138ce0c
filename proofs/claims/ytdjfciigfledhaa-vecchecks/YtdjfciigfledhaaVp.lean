/- Constants: what a sum of them is, exactly; the law's own small sum. -/
import Derived.Test.YtdjfciigfledhaaVo
set_option linter.unusedVariables false
set_option linter.unusedSimpArgs false
namespace Go.Proofs.Ytdjfciigfledhaa
open Go.RowKit Go.Maps

def ci (p : Bool) : Int := if p then 1 else 0
theorem andC (p q : Bool) : andF [] (ci p) (ci q) = ([], ci (p && q)) := by cases p <;> cases q <;> decide
theorem orC (p q : Bool) : orF [] (ci p) (ci q) = ([], ci (p || q)) := by cases p <;> cases q <;> decide
theorem xorC (p q : Bool) : xorF [] (ci p) (ci q) = ([], ci (p != q)) := by cases p <;> cases q <;> decide
theorem ci_i64 (p : Bool) : inI64 (ci p) := by cases p <;> (unfold inI64 ci; simp)
/-- What is told of constants, in a graph without nodes. -/
def CP (w : World) (B M : Nat) (v : Value) (m : Bool) (e : Ending) (w' : World) : Prop := ∃ v', e = .returned (.int .i64 (ci m)) ∧ St w w' B M v v' [] [] 0
theorem cp_of {w : World} {B M : Nat} {v : Value} {R : List Gt × Int} {m : Bool} (hR : R = ([], ci m)) (hm : May []) {e : Ending} {w' : World} (h : ActP w B M v R e w') : CP w B M v m e w' := by
  subst hR
  obtain ⟨rfl, v', h1, h2, h3⟩ := h
  exact ⟨v', rfl, h1, h2, h3, Grow.refl hm _⟩

section
variable (w : World) (B M : Nat) (v : Value)
theorem and_c (p q : Bool) (hA : Gr w B M v []) : Calls Try.prog 57 #[.pointer (some ⟨B, 0, none⟩), .int .i64 (ci p), .int .i64 (ci q)] w (CP w B M v (p && q)) :=
  (and_any w B M v [] (ci p) (ci q) hA (by simp)).mono fun e w' h => cp_of (andC p q) hA.may h
theorem or_c (p q : Bool) (hA : Gr w B M v []) : Calls Try.prog 58 #[.pointer (some ⟨B, 0, none⟩), .int .i64 (ci p), .int .i64 (ci q)] w (CP w B M v (p || q)) :=
  (or_any w B M v [] (ci p) (ci q) hA (by simp) (ci_i64 _) (ci_i64 _)).mono fun e w' h => cp_of (orC p q) hA.may h
theorem xor_c (p q : Bool) (hA : Gr w B M v []) : Calls Try.prog 59 #[.pointer (some ⟨B, 0, none⟩), .int .i64 (ci p), .int .i64 (ci q)] w (CP w B M v (p != q)) :=
  (xor_any w B M v [] (ci p) (ci q) hA (by simp) (ci_i64 _) (ci_i64 _)).mono fun e w' h => cp_of (xorC p q) hA.may h

set_option maxHeartbeats 2000000 in
theorem carry_c (a b c : Bool) (hA : Gr w B M v []) :
    Calls Try.prog 81 #[.pointer (some ⟨B, 0, none⟩), .int .i64 (ci a), .int .i64 (ci b), .int .i64 (ci c)] w (CP w B M v ((a && b) || (c && (a || b)))) := by
  have AN : Hid (∀ W v', Gr W B M v' [] → Calls Try.prog 57 #[.pointer (some ⟨B, 0, none⟩), .int .i64 (ci a), .int .i64 (ci b)] W (CP W B M v' (a && b))) := fun W v' h => and_c W B M v' a b h
  have O1 : Hid (∀ W v', Gr W B M v' [] → Calls Try.prog 58 #[.pointer (some ⟨B, 0, none⟩), .int .i64 (ci a), .int .i64 (ci b)] W (CP W B M v' (a || b))) := fun W v' h => or_c W B M v' a b h
  have A2 : Hid (∀ W v', Gr W B M v' [] → Calls Try.prog 57 #[.pointer (some ⟨B, 0, none⟩), .int .i64 (ci c), .int .i64 (ci (a || b))] W (CP W B M v' (c && (a || b)))) := fun W v' h => and_c W B M v' c (a || b) h
  have O2 : Hid (∀ W v', Gr W B M v' [] → Calls Try.prog 58 #[.pointer (some ⟨B, 0, none⟩), .int .i64 (ci (a && b)), .int .i64 (ci (c && (a || b)))] W (CP W B M v' ((a && b) || (c && (a || b))))) := fun W v' h => or_c W B M v' _ _ h
  have HA := hide hA
  clear hA
  go_enter Try.func81, Try.ntmps81
  go_wp2_with (first
    | (go_at_call 58; refine (unhide O2 _ _ s3.gr).mono ?_; rintro e w4 ⟨v4, rfl, s4⟩)
    | (go_at_call 57; refine (unhide A2 _ _ s2.gr).mono ?_; rintro e w3 ⟨v3, rfl, s3⟩)
    | (go_at_call 58; refine (unhide O1 _ _ s1.gr).mono ?_; rintro e w2 ⟨v2, rfl, s2⟩)
    | (go_at_call 57; refine (unhide AN _ _ HA.out).mono ?_; rintro e w1 ⟨v1, rfl, s1⟩))
  go_ret
  exact ⟨v4, rfl, (((s1.trans s2).trans s3).trans s4).mono (Nat.le_refl 0)⟩

set_option maxHeartbeats 4000000 in
theorem sum_c (ax bx : Option Addr) (ca cb : Nat) (P Q : List Bool) (r : Bool) (n : Nat)
    (hA : Gr w B M v []) (hn : P.length = n) (hm : Q.length = n) (h16 : n ≤ 16) (hr : Fr w B M v ax (P.map ci)) (hs : Fr w B M v bx (Q.map ci)) :
    Calls Try.prog 51 #[.pointer (some ⟨B, 0, none⟩), .slice ax n ca, .slice bx n cb, .int .i64 (ci r)] w (fun e w' => ∃ q v', e = .returned (.slice (some ⟨q, 0, none⟩) n n) ∧ Ml w w' B M v v' [] [] 0 n q ((addB P Q r).map ci)) := by
  have mk := mk_any n (by omega)
  have HS := hide (Ml.start hA n)
  have AN : Hid (∀ W v' x y z, Gr W B M v' [] → Calls Try.prog 81 #[.pointer (some ⟨B, 0, none⟩), .int .i64 (ci x), .int .i64 (ci y), .int .i64 (ci z)] W (CP W B M v' ((x && y) || (z && (x || y))))) := fun W v' x y z h => carry_c W B M v' x y z h
  have XN : Hid (∀ W v' x y, Gr W B M v' [] → Calls Try.prog 59 #[.pointer (some ⟨B, 0, none⟩), .int .i64 (ci x), .int .i64 (ci y)] W (CP W B M v' (x != y))) := fun W v' x y h => xor_c W B M v' x y h
  have HR := hide hr
  have HT := hide hs
  have HN := hide hn
  have HNB := hide hm
  obtain ⟨c, hcr⟩ : ∃ c, c = ci r := ⟨_, rfl⟩
  rw [← hcr]
  have HC := hide hcr
  clear hA hr hs hn hm hcr
  go_enter Try.func51, Try.ntmps51
  go_upto_region 2 with fail
  refine forget (P := fun W => Code.wp Try.prog _ _ _ W) (fun W => Hid (Ml w W B M v v [] [] 0 n w.heap.size (List.replicate n 0))) HS ?_
  clear HS mk
  intro W0 HS
  generalize w.heap.size = q at *
  go_wp2
  go_loopw [3, 16] (fun y i W => ∃ k : Nat, k ≤ n ∧ i = .int .i64 (k : Int) ∧ ∃ v' z l, y = .int .i64 z ∧ Hid (Ml w W B M v v' [] [] 0 n q l) ∧ Hid (l.take k = (addB (P.take k) (Q.take k) r).map ci) ∧ Hid (k < n → z = ci (carB (P.take k) (Q.take k) r))) (fun _ i _ => n - (intOf i).toNat)
  case atStart => exact ⟨0, Nat.zero_le _, rfl, v, c, _, rfl, HS, by unfold Hid; simp [addB], fun _ => by simpa [carB] using HC.out⟩
  case round =>
    clear HS
    obtain ⟨k, hk, rfl, v', z, l, rfl, HK, HW, HZ⟩ := hrel
    by_cases hlt : k < n
    · have hka : k < P.length := by rw [HN.out]; exact hlt
      have hkb : k < Q.length := by rw [HNB.out]; exact hlt
      have hfa := HK.out.st.fr HR.out
      have hfb := HK.out.st.fr HT.out
      obtain ⟨p, off, rfl, hp, hcp⟩ := hfa.row k (by rw [List.length_map]; exact hka)
      obtain ⟨p2, off2, rfl, hp2, hcp2⟩ := hfb.row k (by rw [List.length_map]; exact hkb)
      rw [List.getElem_map] at hcp hcp2
      have HZ1 := hide (HZ.out hlt)
      have A1 := hide (fun W (h : Gr W B M v' []) => unhide XN W v' P[k] Q[k] h)
      have HAL := hide hka
      have HBL := hide hkb
      have HPA : Hid (P.take (k + 1) = P.take k ++ [P[k]]) := List.take_succ_eq_append_getElem hka
      have HPB : Hid (Q.take (k + 1) = Q.take k ++ [Q[k]]) := List.take_succ_eq_append_getElem hkb
      have FA := hide (hfa.far p off rfl).2
      have FB := hide (hfb.far p2 off2 rfl).2
      have n1 : p ≠ q := by
        rintro rfl
        have := (HR.out.far p off rfl).1
        have h2 := HK.out.new
        omega
      have n2 : p2 ≠ q := by
        rintro rfl
        have := (HT.out.far p2 off2 rfl).1
        have h2 := HK.out.new
        omega
      have n1' := n1.symm
      have n2' := n2.symm
      clear hfa hfb HZ
      generalize P[k] = x0 at *
      generalize Q[k] = y0 at *
      clear hka hkb
      obtain ⟨x, hxe⟩ : ∃ x, x = ci x0 := ⟨_, rfl⟩
      obtain ⟨y, hye⟩ : ∃ y, y = ci y0 := ⟨_, rfl⟩
      have A2 : Hid (∀ W v', Gr W B M v' [] → Calls Try.prog 81 #[.pointer (some ⟨B, 0, none⟩), .int .i64 x, .int .i64 y, .int .i64 z] W (CP W B M v' ((x0 && y0) || (carB (P.take k) (Q.take k) r && (x0 || y0))))) := fun W v' h => by rw [hxe, hye, HZ1.out]; exact unhide AN W v' x0 y0 _ h
      obtain ⟨d, hd⟩ : ∃ d, ((x0 != y0) != carB (P.take k) (Q.take k) r) = d := ⟨_, rfl⟩
      have HD := hide hd
      have A3 : Hid (∀ W v', Gr W B M v' [] → Calls Try.prog 59 #[.pointer (some ⟨B, 0, none⟩), .int .i64 (ci (x0 != y0)), .int .i64 z] W (CP W B M v' d)) := fun W v' h => by rw [HZ1.out, ← hd]; exact unhide XN W v' _ _ h
      rw [← hxe] at hcp
      rw [← hye] at hcp2
      rw [← hxe, ← hye] at A1
      clear hxe hye hd
      go_wp2
      go_region_held3 (fun z => z.cell? ⟨p, off + k, none⟩ = some (.int .i64 x) ∧ z.cell? ⟨p2, off2 + k, none⟩ = some (.int .i64 y)) (go_keep)
        (first
          | (go_at_call 59; refine (unhide A3 _ _ s1.gr).mono ?_; rintro e w2 ⟨v2, rfl, s2⟩; have y2 := (s1.trans s2).cell hp FA.out hcp; have y3 := (s1.trans s2).cell hp2 FB.out hcp2; have z1 := ((HK.out.below (below_drewN (Below.refl _ _) 1)).act (s1.trans s2)).cell hlt; have f1 := ((HK.out.below (below_drewN (Below.refl _ _) 1)).act (s1.trans s2)).fz k)
          | (go_at_call 59; refine (unhide A1 _ (HK.out.st.gr.drewN 1)).mono ?_; rintro e w1 ⟨v1, rfl, s1⟩; have y0' := s1.cell hp FA.out hcp; have y1 := s1.cell hp2 FB.out hcp2))
      all_goals
        have S1 := hide ((((HK.out.below (below_drewN (Below.refl _ _) 1)).act (s1.trans s2)).set k (ci d)).mono (Nat.le_refl 0))
        go_upto_region 6 with fail
        refine forget (P := fun W => Code.wp Try.prog _ _ _ W) (fun W => Hid (Ml w W B M v v2 [] [] 0 n q (l.set k (ci d))) ∧ W.cell? ⟨p, off + k, none⟩ = some (.int .i64 x) ∧ W.cell? ⟨p2, off2 + k, none⟩ = some (.int .i64 y)) ⟨S1, (World.cell?_of_block (hd_far n1)).trans y2, (World.cell?_of_block (hd_far n2)).trans y3⟩ ?_
        clear S1 s1 s2 y0' y1 y2 y3 z1 f1 HZ1 A1 A3
        rintro W2 ⟨S1, q0, q1⟩
        have HT1 : Hid ((l.set k (ci d)).take (k + 1) = (addB (P.take (k + 1)) (Q.take (k + 1)) r).map ci) := by
          have hlen := HK.out.len
          unfold Hid
          rw [take_set _ _ _ (by omega), HPA.out, HPB.out, addB_snoc _ _ _ _ _ (by have := HAL.out; have := HBL.out; simp; omega), List.map_append, HW.out, HD.out]; rfl
        generalize l.set k (ci d) = l' at *
        clear HK HW
        by_cases hlast : k + 1 < n
        · have hl2 : (k : Int) + 1 < n := by omega
          have FA2 : Hid (p < W2.heap.size ∧ ¬ Sv B M v2 p) := (S1.out.st.fr HR.out).far p off rfl
          have FB2 : Hid (p2 < W2.heap.size ∧ ¬ Sv B M v2 p2) := (S1.out.st.fr HT.out).far p2 off2 rfl
          have A4 := hide (unhide A2 (W2.drewN 1) v2 (S1.out.st.gr.drewN 1))
          go_wp2
          go_region_held3 (fun z => z.cell? ⟨p, off + k, none⟩ = some (.int .i64 x) ∧ z.cell? ⟨p2, off2 + k, none⟩ = some (.int .i64 y)) (go_keep)
            (first | (go_at_call 81; refine (unhide A4).mono ?_; rintro e w3 ⟨v3, rfl, s3⟩; have y0' := s3.cell FA2.out.1 FA2.out.2 q0; have y1 := s3.cell FB2.out.1 FB2.out.2 q1))
          all_goals
            have S2 := hide (((S1.out.below (below_drewN (Below.refl _ _) 1)).act s3).mono (Nat.le_refl 0))
            clear s3 y0' y1
            go_wp2
            go_roundw
            case rel =>
              refine ⟨k + 1, by omega, by go_num, v3, _, _, rfl, S2, HT1, fun _ => ?_⟩
              rw [HPA.out, HPB.out, carB_snoc _ _ _ _ _ (by have := HAL.out; have := HBL.out; simp; omega)]
            case measure => simp [intOf]; omega
        · have hl2 : ¬ (k : Int) + 1 < n := by omega
          go_wp2
          go_roundw
          case rel => exact ⟨k + 1, by omega, by go_num, v2, z, _, rfl, S1, HT1, fun h => absurd h hlast⟩
          case measure => simp [intOf]; omega
    · have hke : k = n := by omega
      subst hke
      have hl : l = (addB P Q r).map ci := by
        have h1 := HW.out
        rwa [List.take_of_length_le (by rw [HK.out.len]; exact Nat.le_refl _), List.take_of_length_le (by rw [HN.out]; exact Nat.le_refl _), List.take_of_length_le (by rw [HNB.out]; exact Nat.le_refl _)] at h1
      have HF := HK.out
      rw [hl] at HF
      replace HF := hide HF
      clear hl HW HK
      go_wp2
      go_ret
      exact ⟨q, v', rfl, HF.out⟩
end
end Go.Proofs.Ytdjfciigfledhaa
