/- Contracts: the calls of vec on words. -/
import Derived.Test.YtdjfciigfledhaaVj
import Derived.Test.YtdjfciigfledhaaVk
set_option linter.unusedVariables false
set_option linter.unusedSimpArgs false
namespace Go.Proofs.Ytdjfciigfledhaa
open Go.RowKit Go.Maps

section
variable (w : World) (B M : Nat) (v : Value) (g : List Gt)

set_option maxHeartbeats 1000000 in
theorem add_yes (ax bx : Option Addr) (ca cb : Nat) (a b : List Int) (n : Nat) (A Y : List Bool → List Bool)
    (hA : Gr w B M v g) (hl : g.length ≤ 900000) (hn : a.length = n) (hm : b.length = n) (h1 : 1 ≤ n) (h16 : n ≤ 16) (hca : n ≤ ca) (hcb : n ≤ cb) (hr : Fr w B M v ax a) (hs : Fr w B M v bx b) (ha : Wt g a A) (hb : Wt g b Y) :
    Calls Try.prog 12 #[.pointer (some ⟨B, 0, none⟩), .slice ax n ca, .slice bx n cb] w (NP w B M v g n 160 (fun ins => (numB (A ins) + numB (Y ins)) % 2 ^ n)) := by
  have AL := hide (alike_yes w B M v g ax bx ca cb a b n A Y hA hn hm h1 h16 hr hs ha hb)
  have SM := hide (sum_any w B M v g ax bx ca cb a b 0 n A Y (fun _ => false) hA (by omega) hn hm h16 hr hs ha hb (lt_zero g))
  have HWA := hide ha
  have HWB := hide hb
  have HN := hide hn
  have HNB := hide hm
  clear hA hr hs ha hb hn hm
  go_enter Try.func12, Try.ntmps12
  go_wp2_with (first
    | (go_at_call 49; refine (unhide AL).mono ?_; rintro e w0 ⟨rfl, hw0⟩; subst w0)
    | (go_at_call 51; refine (unhide SM).mono ?_; rintro e w1 ⟨q1, l1, v1, g1, rfl, s1, b1⟩)
    | (go_at_call 50; refine (word_any w1 B M v1 g1 (some ⟨q1, 0, none⟩) n l1 n s1.gr b1.len b1.rw.row (b1.wt.ok (by rw [b1.len]; omega) (by rw [b1.len]; omega))).mono ?_; rintro e w2 ⟨rfl, hw2⟩; subst w2))
  go_ret
  refine WP.np ⟨q1, l1, v1, g1, rfl, s1.mono (by omega), b1⟩ fun ins => ?_
  rw [addB_mod _ _ _ (by rw [HWA.out.len, HWB.out.len, HN.out, HNB.out]), HWA.out.len, HN.out, b2n_f, Nat.add_zero]

set_option maxHeartbeats 1000000 in
theorem sub_yes (ax bx : Option Addr) (ca cb : Nat) (a b : List Int) (n : Nat) (A Y : List Bool → List Bool)
    (hA : Gr w B M v g) (hl : g.length ≤ 900000) (hn : a.length = n) (hm : b.length = n) (h1 : 1 ≤ n) (h16 : n ≤ 16) (hca : n ≤ ca) (hcb : n ≤ cb) (hr : Fr w B M v ax a) (hs : Fr w B M v bx b) (ha : Wt g a A) (hb : Wt g b Y) :
    Calls Try.prog 13 #[.pointer (some ⟨B, 0, none⟩), .slice ax n ca, .slice bx n cb] w (NP w B M v g n 160 (fun ins => (numB (A ins) + (2 ^ n - numB (Y ins))) % 2 ^ n)) := by
  have AL := hide (alike_yes w B M v g ax bx ca cb a b n A Y hA hn hm h1 h16 hr hs ha hb)
  have SM := hide (difference_any w B M v g ax bx ca cb a b n A Y hA (by omega) hn hm h16 hr hs ha hb)
  have HWA := hide ha
  have HWB := hide hb
  have HN := hide hn
  have HNB := hide hm
  clear hA hr hs ha hb hn hm
  go_enter Try.func13, Try.ntmps13
  go_wp2_with (first
    | (go_at_call 49; refine (unhide AL).mono ?_; rintro e w0 ⟨rfl, hw0⟩; subst w0)
    | (go_at_call 52; refine (unhide SM).mono ?_; rintro e w1 ⟨q1, l1, v1, g1, rfl, s1, b1⟩)
    | (go_at_call 50; refine (word_any w1 B M v1 g1 (some ⟨q1, 0, none⟩) n l1 n s1.gr b1.len b1.rw.row (b1.wt.ok (by rw [b1.len]; omega) (by rw [b1.len]; omega))).mono ?_; rintro e w2 ⟨rfl, hw2⟩; subst w2))
  go_ret
  refine WP.np ⟨q1, l1, v1, g1, rfl, s1.mono (by omega), b1⟩ fun ins => ?_
  rw [subB_num _ _ (by rw [HWA.out.len, HWB.out.len, HN.out, HNB.out]), HWA.out.len, HN.out]

set_option maxHeartbeats 1000000 in
theorem andw_yes (ax bx : Option Addr) (ca cb : Nat) (a b : List Int) (n : Nat) (A Y : List Bool → List Bool)
    (hA : Gr w B M v g) (hl : g.length ≤ 900000) (hn : a.length = n) (hm : b.length = n) (h1 : 1 ≤ n) (h16 : n ≤ 16) (hca : n ≤ ca) (hcb : n ≤ cb) (hr : Fr w B M v ax a) (hs : Fr w B M v bx b) (ha : Wt g a A) (hb : Wt g b Y) :
    Calls Try.prog 20 #[.pointer (some ⟨B, 0, none⟩), .slice ax n ca, .slice bx n cb] w (WP w B M v g n 48 (fun ins => List.zipWith (fun x y => x && y) (A ins) (Y ins))) := by
  have SM := hide (both_and w B M v g ax bx ca cb a b n A Y hA (by omega) hn hm h1 h16 hr hs ha hb)
  clear hA hr hs ha hb hn hm
  go_enter Try.func20, Try.ntmps20
  go_wp2_with (first
    | (go_at_call 56; refine (unhide SM).mono ?_; rintro e w1 ⟨q1, l1, v1, g1, rfl, s1, b1⟩))
  go_ret
  exact ⟨q1, l1, v1, g1, rfl, s1.mono (by omega), b1⟩

set_option maxHeartbeats 1000000 in
theorem orw_yes (ax bx : Option Addr) (ca cb : Nat) (a b : List Int) (n : Nat) (A Y : List Bool → List Bool)
    (hA : Gr w B M v g) (hl : g.length ≤ 900000) (hn : a.length = n) (hm : b.length = n) (h1 : 1 ≤ n) (h16 : n ≤ 16) (hca : n ≤ ca) (hcb : n ≤ cb) (hr : Fr w B M v ax a) (hs : Fr w B M v bx b) (ha : Wt g a A) (hb : Wt g b Y) :
    Calls Try.prog 22 #[.pointer (some ⟨B, 0, none⟩), .slice ax n ca, .slice bx n cb] w (WP w B M v g n 48 (fun ins => List.zipWith (fun x y => x || y) (A ins) (Y ins))) := by
  have SM := hide (both_or w B M v g ax bx ca cb a b n A Y hA (by omega) hn hm h1 h16 hr hs ha hb)
  clear hA hr hs ha hb hn hm
  go_enter Try.func22, Try.ntmps22
  go_wp2_with (first
    | (go_at_call 56; refine (unhide SM).mono ?_; rintro e w1 ⟨q1, l1, v1, g1, rfl, s1, b1⟩))
  go_ret
  exact ⟨q1, l1, v1, g1, rfl, s1.mono (by omega), b1⟩

set_option maxHeartbeats 1000000 in
theorem xorw_yes (ax bx : Option Addr) (ca cb : Nat) (a b : List Int) (n : Nat) (A Y : List Bool → List Bool)
    (hA : Gr w B M v g) (hl : g.length ≤ 900000) (hn : a.length = n) (hm : b.length = n) (h1 : 1 ≤ n) (h16 : n ≤ 16) (hca : n ≤ ca) (hcb : n ≤ cb) (hr : Fr w B M v ax a) (hs : Fr w B M v bx b) (ha : Wt g a A) (hb : Wt g b Y) :
    Calls Try.prog 23 #[.pointer (some ⟨B, 0, none⟩), .slice ax n ca, .slice bx n cb] w (WP w B M v g n 48 (fun ins => List.zipWith (fun x y => x != y) (A ins) (Y ins))) := by
  have SM := hide (both_xor w B M v g ax bx ca cb a b n A Y hA (by omega) hn hm h1 h16 hr hs ha hb)
  clear hA hr hs ha hb hn hm
  go_enter Try.func23, Try.ntmps23
  go_wp2_with (first
    | (go_at_call 56; refine (unhide SM).mono ?_; rintro e w1 ⟨q1, l1, v1, g1, rfl, s1, b1⟩))
  go_ret
  exact ⟨q1, l1, v1, g1, rfl, s1.mono (by omega), b1⟩

set_option maxHeartbeats 1000000 in
theorem shl_yes (ax bx : Option Addr) (ca cb : Nat) (a b : List Int) (n : Nat) (A Y : List Bool → List Bool)
    (hA : Gr w B M v g) (hl : g.length ≤ 900000) (hn : a.length = n) (hm : b.length = n) (h1 : 1 ≤ n) (h16 : n ≤ 16) (hca : n ≤ ca) (hcb : n ≤ cb) (hr : Fr w B M v ax a) (hs : Fr w B M v bx b) (ha : Wt g a A) (hb : Wt g b Y) :
    Calls Try.prog 26 #[.pointer (some ⟨B, 0, none⟩), .slice ax n ca, .slice bx n cb] w (NP w B M v g n 300 (fun ins => numB (A ins) * 2 ^ numB (Y ins) % 2 ^ n)) := by
  have SM := hide (shift_left w B M v g ax bx ca cb a b n A Y hA (by omega) hn hm h1 h16 hca hcb hr hs ha hb)
  clear hA hr hs ha hb hn hm
  go_enter Try.func26, Try.ntmps26
  go_wp2_with (first
    | (go_at_call 61; refine (unhide SM).mono ?_; rintro e w1 ⟨f1, ⟨q1, l1, v1, g1, rfl, s1, b1⟩, hN1⟩))
  go_ret
  exact ⟨f1, ⟨q1, l1, v1, g1, rfl, s1, b1⟩, hN1⟩

set_option maxHeartbeats 1000000 in
theorem shr_yes (ax bx : Option Addr) (ca cb : Nat) (a b : List Int) (n : Nat) (A Y : List Bool → List Bool)
    (hA : Gr w B M v g) (hl : g.length ≤ 900000) (hn : a.length = n) (hm : b.length = n) (h1 : 1 ≤ n) (h16 : n ≤ 16) (hca : n ≤ ca) (hcb : n ≤ cb) (hr : Fr w B M v ax a) (hs : Fr w B M v bx b) (ha : Wt g a A) (hb : Wt g b Y) :
    Calls Try.prog 28 #[.pointer (some ⟨B, 0, none⟩), .slice ax n ca, .slice bx n cb] w (NP w B M v g n 300 (fun ins => numB (A ins) / 2 ^ numB (Y ins))) := by
  have SM := hide (shift_right w B M v g ax bx ca cb a b n A Y hA (by omega) hn hm h1 h16 hca hcb hr hs ha hb)
  clear hA hr hs ha hb hn hm
  go_enter Try.func28, Try.ntmps28
  go_wp2_with (first
    | (go_at_call 61; refine (unhide SM).mono ?_; rintro e w1 ⟨f1, ⟨q1, l1, v1, g1, rfl, s1, b1⟩, hN1⟩))
  go_ret
  exact ⟨f1, ⟨q1, l1, v1, g1, rfl, s1, b1⟩, hN1⟩

set_option maxHeartbeats 1000000 in
theorem ite_yes (c : Int) (Z : List Bool → Bool) (ax bx : Option Addr) (ca cb : Nat) (a b : List Int) (n : Nat) (A Y : List Bool → List Bool)
    (hA : Gr w B M v g) (hl : g.length ≤ 900000) (hn : a.length = n) (hm : b.length = n) (h1 : 1 ≤ n) (h16 : n ≤ 16) (hca : n ≤ ca) (hcb : n ≤ cb) (hr : Fr w B M v ax a) (hs : Fr w B M v bx b) (ha : Wt g a A) (hb : Wt g b Y) (hc : Lt g c Z) :
    Calls Try.prog 31 #[.pointer (some ⟨B, 0, none⟩), .int .i64 c, .slice ax n ca, .slice bx n cb] w (WP w B M v g n 48 (fun ins => if Z ins then A ins else Y ins)) := by
  have AL := hide (alike_yes w B M v g ax bx ca cb a b n A Y hA hn hm h1 h16 hr hs ha hb)
  have IS := isLit_any w B M v g c hA
  rw [hc.1] at IS
  replace IS := hide IS
  have SM := hide (choice_any w B M v g ax bx ca cb c a b n Z A Y hA (by omega) hn hm h16 hr hs hc ha hb)
  clear hA hr hs ha hb hn hm hc
  go_enter Try.func31, Try.ntmps31
  go_wp2_with (first
    | (go_at_call 67; refine (unhide IS).mono ?_; rintro e w0 ⟨rfl, hw0⟩; subst w0)
    | (go_at_call 49; refine (unhide AL).mono ?_; rintro e w0 ⟨rfl, hw0⟩; subst w0)
    | (go_at_call 68; refine (unhide SM).mono ?_; rintro e w1 ⟨q1, l1, v1, g1, rfl, s1, b1⟩)
    | (go_at_call 50; refine (word_any w1 B M v1 g1 (some ⟨q1, 0, none⟩) n l1 n s1.gr b1.len b1.rw.row (b1.wt.ok (by rw [b1.len]; omega) (by rw [b1.len]; omega))).mono ?_; rintro e w2 ⟨rfl, hw2⟩; subst w2))
  go_ret
  exact ⟨q1, l1, v1, g1, rfl, s1.mono (by omega), b1⟩

theorem allM (ax : Option Addr) (ca : Nat) (a : List Int) (n : Nat) (A : List Bool → List Bool)
    (hA : Gr w B M v g) (hl : g.length ≤ 950000) (hn : a.length = n) (h16 : n ≤ 16) (hr : Fr w B M v ax a) (ha : Wt g a A) :
    Calls Try.prog 69 #[.pointer (some ⟨B, 0, none⟩), .slice ax n ca] w (AP w B M v g (1 + n) (fun ins => (A ins).all id)) := by
  subst hn
  refine (all_any w B M v g ax ca a hA (by omega) hr.row (fun b off e => (hr.far b off e).2)).mono fun e w' h => ?_
  have g1 := and_grow hA.may 1 1
  have o := (lt_one g).1
  have l1 := g1.2.1 o o
  have g2 := all_grow a (andF g 1 1).2 g1.1.may
  refine ap_of (g1.1.trans g2.1) ⟨g2.2 l1 (fun k hk => g1.1.lit (ha.1 k hk)), fun ins => ?_⟩ h
  rw [all_mean a _ g1.1.may l1 (fun k hk => g1.1.lit (ha.1 k hk)), and_mean hA.may o o, val_one, ← ha.2 ins]
  unfold bitsW
  rw [List.all_map]
  have : (a.all fun k => valF (allV ins (andF g 1 1).1) k) = a.all (id ∘ valF (allV ins g)) := by
    rw [Bool.eq_iff_iff, List.all_eq_true, List.all_eq_true]
    constructor
    · intro h j hj; have := h j hj; rwa [val_grow g1.1 (ha.1 j hj)] at this
    · intro h j hj; rw [val_grow g1.1 (ha.1 j hj)]; exact h j hj
  rw [this]; rfl

theorem eq_all (a b : List Bool) (h : a.length = b.length) : (List.zipWith (fun x y => x != y) a (b.map (!·))).all id = decide (numB a = numB b) := by
  have key : ∀ (a b : List Bool), a.length = b.length → ((List.zipWith (fun x y => x != y) a (b.map (!·))).all id = true ↔ a = b) := by
    intro a
    induction a with
    | nil => intro b hb; cases b with
      | nil => simp
      | cons y b => simp at hb
    | cons x a ih => intro b hb; cases b with
      | nil => simp at hb
      | cons y b =>
        have := ih b (by simpa using hb)
        simp only [List.map_cons, List.zipWith_cons_cons, List.all_cons, Bool.and_eq_true, this]
        cases x <;> cases y <;> simp
  rw [Bool.eq_iff_iff, key a b h, decide_eq_true_eq, eq_num a b h]

set_option maxHeartbeats 1000000 in
theorem eq_yes (ax bx : Option Addr) (ca cb : Nat) (a b : List Int) (n : Nat) (A Y : List Bool → List Bool)
    (hA : Gr w B M v g) (hl : g.length ≤ 900000) (hn : a.length = n) (hm : b.length = n) (h1 : 1 ≤ n) (h16 : n ≤ 16) (hca : n ≤ ca) (hcb : n ≤ cb) (hr : Fr w B M v ax a) (hs : Fr w B M v bx b) (ha : Wt g a A) (hb : Wt g b Y) :
    Calls Try.prog 32 #[.pointer (some ⟨B, 0, none⟩), .slice ax n ca, .slice bx n cb] w (AP w B M v g 80 (fun ins => decide (numB (A ins) = numB (Y ins)))) := by
  have AL := hide (alike_yes w B M v g ax bx ca cb a b n A Y hA hn hm h1 h16 hr hs ha hb)
  have N1 := hide (not_word w B M v g bx cb b n Y hA hm h16 hs hb)
  have HR := hide hr
  have HWA := hide ha
  have HWB := hide hb
  have HN := hide hn
  have HNB := hide hm
  clear hA hr hs ha hb hn hm
  go_enter Try.func32, Try.ntmps32
  go_wp2_with (first
    | (go_at_call 49; refine (unhide AL).mono ?_; rintro e w0 ⟨rfl, hw0⟩; subst w0)
    | (go_at_call 60; refine (unhide N1).mono ?_; rintro e w1 ⟨q1, l1, v1, g1, rfl, s1, b1⟩)
    | (go_at_call 70; refine (bits_xor w1 B M v1 g1 (fun ins x y => x != y) ax (some ⟨q1, 0, none⟩) ca n a l1 n A _ s1.gr (by have := s1.len; omega) HN.out b1.len h16 (s1.fr HR.out) b1.fr (HWA.out.grow s1.grow) b1.wt (fun W v' g' j x y X Y s hj hx hy => xorM s.gr (by have := s.len; have := s1.len; omega) hx hy)).mono ?_; rintro e w2 ⟨q2, l2, v2, g2, rfl, s2, b2⟩)
    | (go_at_call 69; refine (allM w2 B M v2 g2 (some ⟨q2, 0, none⟩) n l2 n _ s2.gr (by have := s1.len; have := s2.len; omega) b2.len h16 b2.fr b2.wt).mono ?_; rintro e w3 ⟨x3, v3, g3, rfl, s3, b3⟩))
  go_ret
  exact ⟨x3, v3, g3, rfl, ((s1.trans s2).trans s3).mono (by omega), b3.congr fun ins => eq_all _ _ (by rw [HWA.out.len, HWB.out.len, HN.out, HNB.out])⟩

set_option maxHeartbeats 1000000 in
theorem less_yes (ax bx : Option Addr) (ca cb : Nat) (a b : List Int) (n : Nat) (A Y : List Bool → List Bool)
    (hA : Gr w B M v g) (hl : g.length ≤ 900000) (hn : a.length = n) (hm : b.length = n) (h1 : 1 ≤ n) (h16 : n ≤ 16) (hca : n ≤ ca) (hcb : n ≤ cb) (hr : Fr w B M v ax a) (hs : Fr w B M v bx b) (ha : Wt g a A) (hb : Wt g b Y) :
    Calls Try.prog 33 #[.pointer (some ⟨B, 0, none⟩), .slice ax n ca, .slice bx n cb] w (AP w B M v g 80 (fun ins => decide (numB (A ins) < numB (Y ins)))) := by
  have AL := hide (alike_yes w B M v g ax bx ca cb a b n A Y hA hn hm h1 h16 hr hs ha hb)
  have N1 := hide (not_word w B M v g ax ca a n A hA hn h16 hr ha)
  have HT := hide hs
  have HWA := hide ha
  have HWB := hide hb
  have HN := hide hn
  have HNB := hide hm
  clear hA hr hs ha hb hn hm
  go_enter Try.func33, Try.ntmps33
  go_wp2_with (first
    | (go_at_call 49; refine (unhide AL).mono ?_; rintro e w0 ⟨rfl, hw0⟩; subst w0)
    | (go_at_call 60; refine (unhide N1).mono ?_; rintro e w1 ⟨q1, l1, v1, g1, rfl, s1, b1⟩)
    | (go_at_call 71; refine (carried_any w1 B M v1 g1 (some ⟨q1, 0, none⟩) bx n cb l1 b 0 n _ Y (fun _ => false) s1.gr (by have := s1.len; omega) b1.len HNB.out h16 b1.fr (s1.fr HT.out) b1.wt (HWB.out.grow s1.grow) (lt_zero g1)).mono ?_; rintro e w3 ⟨x3, v3, g3, rfl, s3, b3⟩))
  go_ret
  exact ⟨x3, v3, g3, rfl, (s1.trans s3).mono (by omega), b3.congr fun ins => less_car _ _ (by rw [HWA.out.len, HWB.out.len, HN.out, HNB.out])⟩

set_option maxHeartbeats 1000000 in
theorem any_yes (ax : Option Addr) (ca : Nat) (a : List Int) (n : Nat) (A : List Bool → List Bool)
    (hA : Gr w B M v g) (hl : g.length ≤ 900000) (hn : a.length = n) (h1 : 1 ≤ n) (h16 : n ≤ 16) (hr : Fr w B M v ax a) (ha : Wt g a A) :
    Calls Try.prog 34 #[.pointer (some ⟨B, 0, none⟩), .slice ax n ca] w (AP w B M v g 16 (fun ins => decide (numB (A ins) ≠ 0))) := by
  have C1 := vcheck_any w B M v g ax ca a n hA hn hr.row (by unfold maxLen; omega)
  rw [ha.ok (by omega) (by omega)] at C1
  replace C1 : Hid (Calls Try.prog 41 #[.pointer (some ⟨B, 0, none⟩), .slice ax n ca] w fun e w' => e = .returned (.int .i64 0) ∧ w' = w) := C1
  have S1 := hide (some_any w B M v g ax ca a n A hA (by omega) hn h16 hr ha)
  clear hA hr ha hn
  go_enter Try.func34, Try.ntmps34
  go_wp2_with (first
    | (go_at_call 41; refine (unhide C1).mono ?_; rintro e w0 ⟨rfl, hw0⟩; subst w0)
    | (go_at_call 72; refine (unhide S1).mono ?_; rintro e w3 ⟨x3, v3, g3, rfl, s3, b3⟩))
  go_ret
  exact ⟨x3, v3, g3, rfl, s3.mono (by omega), b3.congr fun ins => any_num _⟩

set_option maxHeartbeats 1000000 in
theorem notw_yes (ax : Option Addr) (ca : Nat) (a : List Int) (n : Nat) (A : List Bool → List Bool)
    (hA : Gr w B M v g) (hl : g.length ≤ 900000) (hn : a.length = n) (h1 : 1 ≤ n) (h16 : n ≤ 16) (hr : Fr w B M v ax a) (ha : Wt g a A) :
    Calls Try.prog 24 #[.pointer (some ⟨B, 0, none⟩), .slice ax n ca] w (NP w B M v g n 0 (fun ins => 2 ^ n - 1 - numB (A ins))) := by
  have C1 := vcheck_any w B M v g ax ca a n hA hn hr.row (by unfold maxLen; omega)
  rw [ha.ok (by omega) (by omega)] at C1
  replace C1 : Hid (Calls Try.prog 41 #[.pointer (some ⟨B, 0, none⟩), .slice ax n ca] w fun e w' => e = .returned (.int .i64 0) ∧ w' = w) := C1
  have N1 := hide (not_word w B M v g ax ca a n A hA hn h16 hr ha)
  have HWA := hide ha
  have HN := hide hn
  clear hA hr ha hn
  go_enter Try.func24, Try.ntmps24
  go_wp2_with (first
    | (go_at_call 41; refine (unhide C1).mono ?_; rintro e w0 ⟨rfl, hw0⟩; subst w0)
    | (go_at_call 60; refine (unhide N1).mono ?_; rintro e w1 ⟨q1, l1, v1, g1, rfl, s1, b1⟩))
  go_ret
  refine WP.np ⟨q1, l1, v1, g1, rfl, s1, b1⟩ fun ins => ?_
  have := notB_num (A ins)
  rw [HWA.out.len, HN.out] at this
  omega
end
end Go.Proofs.Ytdjfciigfledhaa
