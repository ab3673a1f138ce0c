/- Contracts: the calls of vec on words. -/
import Derived.Test.YtbilhiklfficoaaVf
set_option linter.unusedVariables false
set_option linter.unusedSimpArgs false
namespace Go.Proofs.Ytbilhiklfficoaa
open Go.RowKit Go.Maps

section
variable (w : World) (B M : Nat) (v : Value) (g : List Gt)

theorem alike_yes (ax bx : Option Addr) (ca cb : Nat) (a b : List Int) (n : Nat) (A Y : List Bool → List Bool)
    (hA : Gr w B M v g) (hn : a.length = n) (hm : b.length = n) (h1 : 1 ≤ n) (h16 : n ≤ 16) (hr : Fr w B M v ax a) (hs : Fr w B M v bx b) (ha : Wt g a A) (hb : Wt g b Y) :
    Calls Try.prog 50 #[.pointer (some ⟨B, 0, none⟩), .slice ax n ca, .slice bx n cb] w fun e w' => e = .returned (.bool true) ∧ w' = w := by
  have AL := valike_any w B M v g ax bx ca cb a b n n hA hn hm hr.row hs.row (by unfold maxLen; omega) (by unfold maxLen; omega)
  have hal : alkB g a b = true := by unfold alkB; rw [ha.ok (by omega) (by omega), hb.ok (by omega) (by omega), hn, hm]; simp
  rwa [hal] at AL
theorem all_emp : ∀ (l : List Int) (x : Int), isB [] x = true → (∀ k ∈ l, isB [] k = true) → (allF [] x l).1 = []
  | [], _, _, _ => rfl
  | k :: l, x, hx, hl => by
    rw [all_next]
    have hk := hl k (by simp)
    have e := and_emp hx hk rfl
    have hm : May [] := fun i hi => by simp at hi
    have q := (and_grow hm x k).2.1 hx hk
    rw [e] at q ⊢
    exact all_emp l _ q (fun j hj => hl j (by simp [hj]))
theorem allM (ax : Option Addr) (ca : Nat) (a : List Int) (n : Nat) (A : List Bool → List Bool)
    (hA : Gr w B M v g) (hl : g.length ≤ 950000) (hn : a.length = n) (h16 : n ≤ 16) (hr : Fr w B M v ax a) (ha : Wt g a A) :
    Calls Try.prog 53 #[.pointer (some ⟨B, 0, none⟩), .slice ax n ca] w (AP w B M v g (1 + n) (fun ins => (A ins).all id)) := by
  subst hn
  refine (all_any w B M v g ax ca a hA (by omega) hr.row (fun b off e => (hr.far b off e).2)).mono fun e w' h => ?_
  have g1 := and_grow hA.may 1 1
  have o := (lt_one g).1
  have l1 := g1.2.1 o o
  have g2 := all_grow a (andF g 1 1).2 g1.1.may
  refine ap_of (g1.1.trans g2.1) ⟨g2.2 l1 (fun k hk => g1.1.lit (ha.1 k hk)), fun ins => ?_⟩ (fun e => ?_) h
  rotate_left
  · subst e
    have e1 := and_emp o o rfl
    rw [e1] at l1 ⊢
    exact all_emp _ _ l1 ha.1
  rw [all_mean a _ g1.1.may l1 (fun k hk => g1.1.lit (ha.1 k hk)), and_mean hA.may o o, val_one, ← ha.2 ins]
  unfold bitsW
  rw [List.all_map]
  have : (a.all fun k => valF (allV ins (andF g 1 1).1) k) = a.all (id ∘ valF (allV ins g)) := by
    rw [Bool.eq_iff_iff, List.all_eq_true, List.all_eq_true]
    constructor
    · intro h j hj; have := h j hj; rwa [val_grow g1.1 (ha.1 j hj)] at this
    · intro h j hj; rw [val_grow g1.1 (ha.1 j hj)]; exact h j hj
  rw [this]; rfl

theorem eq_all (a b : List Bool) (h : a.length = b.length) : (List.zipWith (fun x y => x != y) a (b.map (!·))).all id = decide (numB a = numB b) := by
  have key : ∀ (a b : List Bool), a.length = b.length → ((List.zipWith (fun x y => x != y) a (b.map (!·))).all id = true ↔ a = b) := by
    intro a
    induction a with
    | nil => intro b hb; cases b with
      | nil => simp
      | cons y b => simp at hb
    | cons x a ih => intro b hb; cases b with
      | nil => simp at hb
      | cons y b =>
        have := ih b (by simpa using hb)
        simp only [List.map_cons, List.zipWith_cons_cons, List.all_cons, Bool.and_eq_true, this]
        cases x <;> cases y <;> simp
  rw [Bool.eq_iff_iff, key a b h, decide_eq_true_eq, eq_num a b h]

set_option maxHeartbeats 1000000 in
theorem eq_yes (ax bx : Option Addr) (ca cb : Nat) (a b : List Int) (n : Nat) (A Y : List Bool → List Bool)
    (hA : Gr w B M v g) (hl : g.length ≤ 900000) (hn : a.length = n) (hm : b.length = n) (h1 : 1 ≤ n) (h16 : n ≤ 16) (hca : n ≤ ca) (hcb : n ≤ cb) (hr : Fr w B M v ax a) (hs : Fr w B M v bx b) (ha : Wt g a A) (hb : Wt g b Y) :
    Calls Try.prog 40 #[.pointer (some ⟨B, 0, none⟩), .slice ax n ca, .slice bx n cb] w (AP w B M v g 80 (fun ins => decide (numB (A ins) = numB (Y ins)))) := by
  have AL := hide (alike_yes w B M v g ax bx ca cb a b n A Y hA hn hm h1 h16 hr hs ha hb)
  have N1 := hide (not_word w B M v g bx cb b n Y hA hm h16 hs hb)
  have HR := hide hr
  have HWA := hide ha
  have HWB := hide hb
  have HN := hide hn
  have HNB := hide hm
  clear hA hr hs ha hb hn hm
  go_enter Try.func40, Try.ntmps40
  go_wp2_with (first
    | (go_at_call 50; refine (unhide AL).mono ?_; rintro e w0 ⟨rfl, hw0⟩; subst w0)
    | (go_at_call 52; refine (unhide N1).mono ?_; rintro e w1 ⟨q1, l1, v1, g1, rfl, s1, b1⟩)
    | (go_at_call 54; refine (bits_xor w1 B M v1 g1 (fun ins x y => x != y) ax (some ⟨q1, 0, none⟩) ca n a l1 n A _ s1.gr (by have := s1.len; omega) HN.out b1.len h16 (s1.fr HR.out) b1.fr (HWA.out.grow s1.grow) b1.wt (fun W v' g' j x y X Y s hj hx hy => xorM s.gr (by have := s.len; have := s1.len; omega) hx hy)).mono ?_; rintro e w2 ⟨q2, l2, v2, g2, rfl, s2, b2⟩)
    | (go_at_call 53; refine (allM w2 B M v2 g2 (some ⟨q2, 0, none⟩) n l2 n _ s2.gr (by have := s1.len; have := s2.len; omega) b2.len h16 b2.fr b2.wt).mono ?_; rintro e w3 ⟨x3, v3, g3, rfl, s3, b3⟩))
  go_ret
  exact ⟨x3, v3, g3, rfl, ((s1.trans s2).trans s3).mono (by omega), b3.congr fun ins => eq_all _ _ (by rw [HWA.out.len, HWB.out.len, HN.out, HNB.out])⟩

set_option maxHeartbeats 1000000 in
theorem less_yes (ax bx : Option Addr) (ca cb : Nat) (a b : List Int) (n : Nat) (A Y : List Bool → List Bool)
    (hA : Gr w B M v g) (hl : g.length ≤ 900000) (hn : a.length = n) (hm : b.length = n) (h1 : 1 ≤ n) (h16 : n ≤ 16) (hca : n ≤ ca) (hcb : n ≤ cb) (hr : Fr w B M v ax a) (hs : Fr w B M v bx b) (ha : Wt g a A) (hb : Wt g b Y) :
    Calls Try.prog 38 #[.pointer (some ⟨B, 0, none⟩), .slice ax n ca, .slice bx n cb] w (AP w B M v g 80 (fun ins => decide (numB (A ins) < numB (Y ins)))) := by
  have AL := hide (alike_yes w B M v g ax bx ca cb a b n A Y hA hn hm h1 h16 hr hs ha hb)
  have N1 := hide (not_word w B M v g ax ca a n A hA hn h16 hr ha)
  have HT := hide hs
  have HWA := hide ha
  have HWB := hide hb
  have HN := hide hn
  have HNB := hide hm
  clear hA hr hs ha hb hn hm
  go_enter Try.func38, Try.ntmps38
  go_wp2_with (first
    | (go_at_call 50; refine (unhide AL).mono ?_; rintro e w0 ⟨rfl, hw0⟩; subst w0)
    | (go_at_call 52; refine (unhide N1).mono ?_; rintro e w1 ⟨q1, l1, v1, g1, rfl, s1, b1⟩)
    | (go_at_call 51; refine (carried_any w1 B M v1 g1 (some ⟨q1, 0, none⟩) bx n cb l1 b 0 n _ Y (fun _ => false) s1.gr (by have := s1.len; omega) b1.len HNB.out h16 b1.fr (s1.fr HT.out) b1.wt (HWB.out.grow s1.grow) (lt_zero g1)).mono ?_; rintro e w3 ⟨x3, v3, g3, rfl, s3, b3⟩))
  go_ret
  exact ⟨x3, v3, g3, rfl, (s1.trans s3).mono (by omega), b3.congr fun ins => less_car _ _ (by rw [HWA.out.len, HWB.out.len, HN.out, HNB.out])⟩

end
end Go.Proofs.Ytbilhiklfficoaa
