/- Contracts: In, of a new graph; In of no width. -/
import Derived.Test.YtdjfciigfledhaaVy
set_option linter.unusedVariables false
set_option linter.unusedSimpArgs false
namespace Go.Proofs.Ytdjfciigfledhaa
open Go.RowKit Go.Maps

/-- The literals of the first inputs. -/
def inL (n : Nat) : List Int := (List.range n).map fun (i : Nat) => 2 * ((i : Int) + 1)
theorem inL_len (n : Nat) : (inL n).length = n := by simp [inL]
theorem inL_at (n i : Nat) (h : i < n) : (inL n)[i]'(by rw [inL_len]; exact h) = 2 * ((i : Int) + 1) := by simp [inL]
theorem inL_snoc (k : Nat) : inL (k + 1) = inL k ++ [2 * ((k : Int) + 1)] := by
  unfold inL
  rw [List.range_succ, List.map_append]; rfl
section
variable (w : World) (B M : Nat) (v : Value)
theorem inY {w : World} {B M : Nat} {v : Value} {g : List Gt} (hA : Gr w B M v g) (hl : g.length ≤ 999990) :
    Calls Try.prog 30 #[.pointer (some ⟨B, 0, none⟩)] w fun e w' => ∃ v' g', e = .returned (.int .i64 (2 * ((g.length : Int) + 1))) ∧ St w w' B M v v' g g' 1 ∧ g'.length = g.length + 1 := by
  refine (in_any w B M v g hA (by omega)).mono fun e w' h => ?_
  have q := in_grow hA.may
  obtain ⟨rfl, v', h1, h2, h3⟩ := h
  exact ⟨v', _, rfl, ⟨h1, h2, h3, q.1⟩, by simp [inF]⟩

set_option maxHeartbeats 400000 in
theorem inw_no (n : Int) (h : ¬ (1 ≤ n ∧ n ≤ 16)) :
    Calls Try.prog 44 #[.pointer (some ⟨B, 0, none⟩), .int .i64 n] w fun e w' => e = .returned (.slice none 0 0) ∧ w' = w := by
  have IW := isWidth_any w n
  rw [show (decide (1 ≤ n) && decide (n ≤ 16)) = false by rw [Bool.eq_false_iff]; intro h2; simp at h2; exact h h2] at IW
  replace IW := hide IW
  clear h
  go_enter Try.func44, Try.ntmps44
  go_wp2_with (first | (go_at_call 80; refine (unhide IW).mono ?_; rintro e w0 ⟨rfl, hw0⟩; subst w0))
  go_ret
  exact ⟨rfl, rfl⟩

set_option maxHeartbeats 2000000 in
theorem inw_any (n : Nat) (hA : Gr w B M v []) (h1 : 1 ≤ n) (h16 : n ≤ 16) :
    Calls Try.prog 44 #[.pointer (some ⟨B, 0, none⟩), .int .i64 (n : Int)] w fun e w' => ∃ q v' g', e = .returned (.slice (some ⟨q, 0, none⟩) n n) ∧ Ml w w' B M v v' [] g' n n q (inL n) ∧ g'.length = n := by
  have mk := mk_any n (by omega)
  have IW := isWidth_any w (n : Int)
  rw [show (decide ((1 : Int) ≤ n) && decide ((n : Int) ≤ 16)) = true by simp; omega] at IW
  replace IW := hide IW
  have LN := hide (len_any w B M v [] hA)
  have HS := hide (Ml.start hA n)
  clear hA
  go_enter Try.func44, Try.ntmps44
  go_upto_region 4 with (first
    | (go_at_call 80; refine (unhide IW).mono ?_; rintro e w0 ⟨rfl, hw0⟩; subst w0)
    | (go_at_call 45; refine (unhide LN).mono ?_; rintro e w0 ⟨rfl, hw0⟩; subst w0))
  refine forget (P := fun W => Code.wp Try.prog _ _ _ W) (fun W => Hid (Ml w W B M v v [] [] 0 n w.heap.size (List.replicate n 0))) HS ?_
  clear HS mk IW LN
  intro W0 HS
  generalize w.heap.size = q at *
  go_wp2
  go_loopw [21] (fun i W => ∃ k : Nat, k ≤ n ∧ i = .int .i64 (k : Int) ∧ ∃ v' g' l, Hid (Ml w W B M v v' [] g' k n q l) ∧ Hid (g'.length = k) ∧ Hid (l.take k = inL k)) (fun i _ => n - (intOf i).toNat)
  case atStart => exact ⟨0, Nat.zero_le _, rfl, v, [], _, HS, rfl, rfl⟩
  case round =>
    clear HS
    obtain ⟨k, hk, rfl, v', g', l, HK, HG, HT⟩ := hrel
    by_cases hlt : k < n
    · have hkn : (k : Int) < n := by omega
      have IN0 := inY HK.out.st.gr (by have := HG.out; omega)
      rw [HG.out] at IN0
      have IN := hide IN0
      clear IN0
      go_wp2_with (first
        | (go_at_call 30; refine (unhide IN).mono ?_; rintro e w1 ⟨v1, g1, rfl, s1, hg1⟩; have z1 := (HK.out.act s1).cell hlt; have f1 := (HK.out.act s1).fz k))
      have S1 := hide ((HK.out.act s1).set k (2 * ((k : Int) + 1)))
      have HT1 : Hid ((l.set k (2 * ((k : Int) + 1))).take (k + 1) = inL (k + 1)) := by
        have hlen := HK.out.len
        unfold Hid
        rw [take_set _ _ _ (by omega), HT.out, inL_snoc]
      go_roundw
      case rel => exact ⟨k + 1, by omega, by go_num, v1, g1, _, S1, hg1, HT1⟩
      case measure => simp [intOf]; omega
    · have hke : k = n := by omega
      subst hke
      have hl : l = inL k := by
        have h1 := HT.out
        rwa [List.take_of_length_le (by rw [HK.out.len]; exact Nat.le_refl _)] at h1
      have hw : wdB g' l = true := wdB_iff.2 ⟨by rw [HK.out.len]; omega, by rw [HK.out.len]; omega, by
        rw [hl]
        intro z hz
        unfold inL at hz
        obtain ⟨i, hi, rfl⟩ := List.mem_map.1 hz
        have hi' := List.mem_range.1 hi
        have hgl := HG.out
        rw [isB_iff]; omega⟩
      have WD := hide (word_any wr B M v' g' (some ⟨q, 0, none⟩) k l k HK.out.st.gr HK.out.len HK.out.rw.row hw)
      have HF := HK.out
      rw [hl] at HF
      have HG1 := HG.out
      replace HF := hide HF
      clear hl hw HT HK HG
      go_wp2_with (first | (go_at_call 50; refine (unhide WD).mono ?_; rintro e w0 ⟨rfl, hw0⟩; subst w0))
      go_ret
      exact ⟨q, v', g', rfl, HF.out, HG1⟩
end
end Go.Proofs.Ytdjfciigfledhaa
