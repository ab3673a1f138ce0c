/- The law's own small sum: the sum of 3 and 6, of three bits, is the constant 1. -/
import Derived.Test.YtdjfciigfledhaaVp
set_option linter.unusedVariables false
set_option linter.unusedSimpArgs false
namespace Go.Proofs.Ytdjfciigfledhaa
open Go.RowKit Go.Maps

set_option maxHeartbeats 1000000 in
theorem ints_same (w : World) (ax bx : Option Addr) (ca cb : Nat) (l : List Int) (n : Nat) (hn : l.length = n) (h16 : n ≤ 16) (hr : Row w ax l) (hs : Row w bx l) :
    Calls Try.prog 54 #[.slice ax n ca, .slice bx n cb] w fun e w' => e = .returned (.bool true) ∧ ∃ m, w' = w.drewN m := by
  have HR := hide hr
  have HS := hide hs
  have HN := hide hn
  clear hr hs hn
  go_enter Try.func54, Try.ntmps54
  go_wp2
  go_loopw [5] (fun i W => ∃ k : Nat, k ≤ n ∧ i = .int .i64 (k : Int) ∧ ∃ m, W = w.drewN m) (fun i _ => n - (intOf i).toNat)
  case atStart => exact ⟨0, Nat.zero_le _, rfl, 0, rfl⟩
  case round =>
    obtain ⟨k, hk, rfl, m, rfl⟩ := hrel
    by_cases hlt : k < n
    · have hka : k < l.length := by rw [HN.out]; exact hlt
      obtain ⟨b, off, rfl, hb, hcell0⟩ := HR.out k hka
      obtain ⟨b2, off2, rfl, hb2, hcell2⟩ := HS.out k hka
      generalize l[k] = x at *
      have he' : (x != x) = false := by simp
      clear hka
      go_wp2
      go_quiet (fail)
      go_wp2
      go_roundw
      case rel => exact ⟨k + 1, by omega, by go_num, _, by first | rfl | exact World.drewN_drewN _ _ _⟩
      case measure => simp [intOf]; omega
    · have hke : k = n := by omega
      subst hke
      go_wp2
      go_ret
      exact ⟨rfl, m, rfl⟩

section
variable (w : World) (B M : Nat) (v : Value)
theorem wd_ci (P : List Bool) : Wd [] (P.map ci) := wd_const fun k hk => by
  obtain ⟨p, _, rfl⟩ := List.mem_map.1 hk
  cases p
  · exact .inl rfl
  · exact .inr rfl

set_option maxHeartbeats 1000000 in
theorem add_c (ax bx : Option Addr) (ca cb : Nat) (P Q : List Bool) (n : Nat)
    (hA : Gr w B M v []) (hn : P.length = n) (hm : Q.length = n) (h1 : 1 ≤ n) (h16 : n ≤ 16) (hr : Fr w B M v ax (P.map ci)) (hs : Fr w B M v bx (Q.map ci)) :
    Calls Try.prog 12 #[.pointer (some ⟨B, 0, none⟩), .slice ax n ca, .slice bx n cb] w (fun e w' => ∃ q v', e = .returned (.slice (some ⟨q, 0, none⟩) n n) ∧ Ml w w' B M v v' [] [] 0 n q ((addB P Q false).map ci)) := by
  have AL := hide (alike_yes w B M v [] ax bx ca cb (P.map ci) (Q.map ci) n (fun ins => bitsW ins [] (P.map ci)) (fun ins => bitsW ins [] (Q.map ci)) hA (by simpa using hn) (by simpa using hm) h1 h16 hr hs ⟨wd_ci P, fun _ => rfl⟩ ⟨wd_ci Q, fun _ => rfl⟩)
  have SM : Hid (Calls Try.prog 51 #[.pointer (some ⟨B, 0, none⟩), .slice ax n ca, .slice bx n cb, .int .i64 0] w (fun e w' => ∃ q v', e = .returned (.slice (some ⟨q, 0, none⟩) n n) ∧ Ml w w' B M v v' [] [] 0 n q ((addB P Q false).map ci))) := sum_c w B M v ax bx ca cb P Q false n hA hn hm h16 hr hs
  have hlen := addB_len P Q false (by omega)
  have hk : wdB [] ((addB P Q false).map ci) = true := wdB_iff.2 ⟨by rw [List.length_map]; omega, by rw [List.length_map]; omega, wd_ci _⟩
  have HK := hide hk
  clear hA hr hs hn hm hlen hk
  go_enter Try.func12, Try.ntmps12
  go_wp2_with (first
    | (go_at_call 49; refine (unhide AL).mono ?_; rintro e w0 ⟨rfl, hw0⟩; subst w0)
    | (go_at_call 51; refine (unhide SM).mono ?_; rintro e w1 ⟨q1, v1, rfl, s1⟩)
    | (go_at_call 50; refine (word_any w1 B M v1 [] (some ⟨q1, 0, none⟩) n _ n s1.st.gr s1.len s1.rw.row HK.out).mono ?_; rintro e w2 ⟨rfl, hw2⟩; subst w2))
  go_ret
  exact ⟨q1, v1, rfl, s1⟩

theorem fr_new {w W : World} {B M : Nat} {v : Value} {g : List Gt} {q : Nat} {l : List Int} (h : Gr w B M v g) (hr : Rw W q l) (hq : w.heap.size ≤ q) : Fr W B M v (some ⟨q, 0, none⟩) l :=
  ⟨hr.row, fun b off e => by
    cases e
    refine ⟨hr.lt, ?_⟩
    have hlt := h.lt
    rintro (h | h | h)
    · omega
    · omega
    · have := hlt.2.2 _ h; omega⟩
theorem Rw.below {w W : World} {q : Nat} {l : List Int} (h : Rw w q l) (hb : Below w.heap.size w W) : Rw W q l := h.same (hb.block q h.lt)

set_option maxHeartbeats 2000000 in
theorem awake_any : Calls Try.prog 16 #[] w fun e w' => e = .returned (.bool true) ∧ Below w.heap.size w w' := by
  have CN : Hid (∀ (W : World) (x : Int), inI64 x → Calls Try.prog 42 #[.int .i64 x, .int .i64 3] W fun e w' => ∃ q, e = .returned (.slice (some ⟨q, 0, none⟩) 3 3) ∧ Rw w' q (constL x 3) ∧ W.heap.size ≤ q ∧ Below W.heap.size W w') := fun W x hx => const_any W x hx 3 (by omega) (by omega)
  have AD : Hid (∀ W B M v q p, Gr W B M v [] → Fr W B M v (some ⟨q, 0, none⟩) (constL 3 3) → Fr W B M v (some ⟨p, 0, none⟩) (constL 6 3) → Calls Try.prog 12 #[.pointer (some ⟨B, 0, none⟩), .slice (some ⟨q, 0, none⟩) 3 3, .slice (some ⟨p, 0, none⟩) 3 3] W (fun e w' => ∃ q v', e = .returned (.slice (some ⟨q, 0, none⟩) 3 3) ∧ Ml W w' B M v v' [] [] 0 3 q [1, 0, 0])) := by
    intro W B M v q p h hr hs
    have e1 : constL 3 3 = [true, true, false].map ci := by decide
    have e2 : constL 6 3 = [false, true, true].map ci := by decide
    rw [e1] at hr
    rw [e2] at hs
    exact add_c W B M v (some ⟨q, 0, none⟩) (some ⟨p, 0, none⟩) 3 3 _ _ 3 h rfl rfl (by omega) (by omega) hr hs
  have IS : Hid (∀ W ax bx, Row W ax [1, 0, 0] → Row W bx [1, 0, 0] → Calls Try.prog 54 #[.slice ax 3 3, .slice bx 3 3] W fun e w' => e = .returned (.bool true) ∧ ∃ m, w' = W.drewN m) := fun W ax bx h1 h2 => ints_same W ax bx 3 3 [1, 0, 0] 3 rfl (by omega) h1 h2
  have LR : Hid (∀ W : World, Row (W.alloc (.cells #[.int .i64 1, .int .i64 0, .int .i64 0] 3)) (some ⟨W.heap.size, 0, none⟩) [1, 0, 0]) := fun W => by
    have h : Rw (W.alloc (.cells #[.int .i64 1, .int .i64 0, .int .i64 0] 3)) W.heap.size [1, 0, 0] := heap_alloc_new _ _
    exact h.row
  go_enter Try.func16, Try.ntmps16
  go_wp2_with (first
    | (go_at_call 43; refine (new_any _).mono ?_; rintro e w1 ⟨B, M, rfl, hG, hb1, hB, hM⟩)
    | (go_at_call 54; refine (unhide IS _ _ _ hrow (unhide LR _)).mono ?_; rintro e w5 ⟨rfl, m5, hw5⟩)
    | (go_at_call 12; refine (unhide AD w3 B M _ q2 q3 ((hG.below hb2).below hb3) (fr_new hG (hr2.below hb3) hq2) (fr_new hG hr3 (Nat.le_trans hb2.size hq3))).mono ?_; rintro e w4 ⟨q4, v4, rfl, s4⟩; have hrow := (s4.rw.below (below_alloc w4 (.cells #[.int .i64 1, .int .i64 0, .int .i64 0] 3))).row)
    | (go_at_call 42; refine (unhide CN _ _ (by unfold inI64; omega)).mono ?_; rintro e w3 ⟨q3, rfl, hr3, hq3, hb3⟩; have hx2 := hq2)
    | (go_at_call 42; refine (unhide CN _ _ (by unfold inI64; omega)).mono ?_; rintro e w2 ⟨q2, rfl, hr2, hq2, hb2⟩))
  go_ret
  have hS : Below w.heap.size w w4 := below_kp (hb1.trans (hb2.mono hb1.size) |>.trans (hb3.mono (Nat.le_trans hb1.size hb2.size))) s4.st.kp (by
    rintro b (h | h | h)
    · omega
    · omega
    · cases h) (Nat.le_trans hb1.size (Nat.le_trans hb2.size hb3.size))
  exact ⟨rfl, below_drewN (hS.alloc (Nat.le_trans hb1.size (Nat.le_trans hb2.size (Nat.le_trans hb3.size s4.st.kp.size))) _) _⟩
end
end Go.Proofs.Ytdjfciigfledhaa
