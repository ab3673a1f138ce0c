/- Contracts: choice, and what the graph's methods make bit by bit. -/
import Derived.Test.YtdjfciigfledhaaVf
set_option linter.unusedVariables false
set_option linter.unusedSimpArgs false
namespace Go.Proofs.Ytdjfciigfledhaa
open Go.RowKit Go.Maps

theorem cell_block {w : World} {b i : Nat} {cs : Array Value} {t : TypeId} {x : Value} (h : w.heap[b]? = some (.cells cs t (0, 0))) (hx : cs[i]? = some x) : w.cell? ⟨b, i, none⟩ = some x := by
  simp [World.cell?, h, hx]

section
variable (w : World) (B M : Nat) (v : Value) (g : List Gt)

set_option maxHeartbeats 1000000 in
theorem pick_any (p4 p5 : Nat) (c x y : Int) (Z X Y : List Bool → Bool) (hA : Gr w B M v g) (hl : g.length ≤ 999980) (k4 : w.cell? ⟨p4, 0, none⟩ = some (.pointer (some ⟨B, 0, none⟩))) (k5 : w.cell? ⟨p5, 0, none⟩ = some (.int .i64 c)) (hc : Lt g c Z) (hx : Lt g x X) (hy : Lt g y Y) :
    Calls Try.prog 86 #[.int .i64 x, .int .i64 y, .pointer (some ⟨p4, 0, none⟩), .pointer (some ⟨p5, 0, none⟩)] w (AP w B M v g 3 (fun ins => if Z ins then X ins else Y ins)) := by
  by_cases hxy : x = y
  · subst hxy
    have hfin : Hid (AP w B M v g 3 (fun ins => if Z ins then X ins else Y ins) (.returned (.int .i64 x)) w) := ⟨x, v, g, rfl, (St.refl hA).mono (by omega), hx.congr fun ins => by rw [← hx.2 ins, ← hy.2 ins]; simp⟩
    clear hA hc hx hy k4 k5
    go_enter Try.func86, Try.ntmps86
    go_wp2
    go_ret
    exact hfin.out
  · have hne : (x == y) = false := by simpa using hxy
    have hne2 : decide (x = y) = false := by simpa using hxy
    have I1 := hide (iteM (w := w) hA (by omega) hc hx hy)
    clear hA hc hx hy hxy
    go_enter Try.func86, Try.ntmps86
    go_wp2_with (first | (go_at_call 87; refine (unhide I1).mono ?_; rintro e w1 ⟨l1, v1, g1, rfl, s1, b1⟩))
    go_ret
    exact ⟨l1, v1, g1, rfl, s1, b1⟩

set_option maxHeartbeats 2000000 in
theorem choice_any (ax bx : Option Addr) (ca cb : Nat) (c : Int) (a b : List Int) (n : Nat) (Z : List Bool → Bool) (A Y : List Bool → List Bool)
    (hA : Gr w B M v g) (hl : g.length ≤ 980000) (hn : a.length = n) (hm : b.length = n) (h16 : n ≤ 16) (hr : Fr w B M v ax a) (hs : Fr w B M v bx b) (hc : Lt g c Z) (ha : Wt g a A) (hb : Wt g b Y) :
    Calls Try.prog 68 #[.pointer (some ⟨B, 0, none⟩), .int .i64 c, .slice ax n ca, .slice bx n cb] w (WP w B M v g n (3 * n) (fun ins => if Z ins then A ins else Y ins)) := by
  have hb1 : Below w.heap.size w ((w.alloc (.cells #[.pointer (some ⟨B, 0, none⟩)] 26)).alloc (.cells #[.int .i64 c] 3)) := ((Below.refl _ _).alloc (Nat.le_refl _) _).alloc (by simp) _
  have HS := hide ((St.refl hA).below hb1)
  have k4 : ((w.alloc (.cells #[.pointer (some ⟨B, 0, none⟩)] 26)).alloc (.cells #[.int .i64 c] 3)).cell? ⟨w.heap.size, 0, none⟩ = some (.pointer (some ⟨B, 0, none⟩)) := by
    have h1 : (w.alloc (.cells #[.pointer (some ⟨B, 0, none⟩)] 26)).heap[w.heap.size]? = some (.cells #[.pointer (some ⟨B, 0, none⟩)] 26) := heap_alloc_new _ _
    have h2 : ((w.alloc (.cells #[.pointer (some ⟨B, 0, none⟩)] 26)).alloc (.cells #[.int .i64 c] 3)).heap[w.heap.size]? = some (.cells #[.pointer (some ⟨B, 0, none⟩)] 26) := (heap_alloc_old _ _ (by simp)).trans h1
    exact cell_block h2 rfl
  have k5 : ((w.alloc (.cells #[.pointer (some ⟨B, 0, none⟩)] 26)).alloc (.cells #[.int .i64 c] 3)).cell? ⟨w.heap.size + 1, 0, none⟩ = some (.int .i64 c) := by
    have h1 := heap_alloc_new (w.alloc (.cells #[.pointer (some ⟨B, 0, none⟩)] 26)) (.cells #[.int .i64 c] 3)
    rw [show (w.alloc (.cells #[.pointer (some ⟨B, 0, none⟩)] 26)).heap.size = w.heap.size + 1 by simp] at h1
    exact cell_block h1 rfl
  have hz : w.heap.size + 1 < ((w.alloc (.cells #[.pointer (some ⟨B, 0, none⟩)] 26)).alloc (.cells #[.int .i64 c] 3)).heap.size := by simp
  have f4 : ¬ Sv B M v w.heap.size ∧ ¬ Sv B M v (w.heap.size + 1) := by
    have l1 := hA.lt
    constructor
    · rintro (e | e | e)
      · omega
      · omega
      · have := l1.2.2 _ e; omega
    · rintro (e | e | e)
      · omega
      · omega
      · have := l1.2.2 _ e; omega
  have K4 := hide k4
  have K5 := hide k5
  have HZ := hide hz
  have F4 := hide f4
  have HR := hide hr
  have HT := hide hs
  have HWA := hide ha
  have HWB := hide hb
  have HC := hide hc
  have HN := hide hn
  have HNB := hide hm
  have HSZ : Hid (w.heap.size ≤ w.heap.size) := Nat.le_refl _
  clear hA hr hs ha hb hc hn hm k4 k5 hz f4 hb1
  go_enter Try.func68, Try.ntmps68
  go_upto_region 1 with fail
  refine forget (P := fun W => Code.wp Try.prog _ _ _ W) (fun W => Hid (St w W B M v v g g 0) ∧ Hid (W.cell? ⟨w.heap.size, 0, none⟩ = some (.pointer (some ⟨B, 0, none⟩))) ∧ Hid (W.cell? ⟨w.heap.size + 1, 0, none⟩ = some (.int .i64 c)) ∧ Hid (w.heap.size + 1 < W.heap.size)) ⟨HS, K4, K5, HZ⟩ ?_
  clear HS K4 K5 HZ
  rintro W0 ⟨HS, K4, K5, HZ⟩
  generalize w.heap.size = p4 at *
  have BI := hide (bits_pick W0 B M v g p4 (p4 + 1) (fun ins x y => if Z ins then x else y) ax bx ca cb a b n A Y HS.out.gr (by omega) HN.out HNB.out h16 (HS.out.fr HR.out) (HS.out.fr HT.out) HWA.out HWB.out (fun W v' g' j x y X Y s hj hx hy =>
    pick_any W B M v' g' p4 (p4 + 1) c x y Z X Y s.gr (by have := s.len; omega) (s.cell (by have := HZ.out; omega) F4.out.1 K4.out) (s.cell HZ.out F4.out.2 K5.out) (HC.out.grow s.grow) hx hy))
  go_wp2_with (first | (go_at_call 70; refine (unhide BI).mono ?_; rintro e w1 ⟨q1, l1, v1, g1, rfl, s1, b1⟩))
  go_ret
  refine ⟨q1, l1, v1, g1, rfl, (HS.out.trans s1).mono (by omega), (b1.after HS.out.kp.size).rw, b1.len, (b1.after HS.out.kp.size).new, b1.far, b1.wt.congr fun ins => ?_⟩
  exact ite_bits _ _ _ (by rw [HWA.out.len, HWB.out.len, HN.out, HNB.out])

set_option maxHeartbeats 1000000 in
theorem both_and (ax bx : Option Addr) (ca cb : Nat) (a b : List Int) (n : Nat) (A Y : List Bool → List Bool)
    (hA : Gr w B M v g) (hl : g.length ≤ 980000) (hn : a.length = n) (hm : b.length = n) (h1 : 1 ≤ n) (h16 : n ≤ 16) (hr : Fr w B M v ax a) (hs : Fr w B M v bx b) (ha : Wt g a A) (hb : Wt g b Y) :
    Calls Try.prog 56 #[.pointer (some ⟨B, 0, none⟩), .func (.func 57) #[.pointer (some ⟨B, 0, none⟩)] #[], .slice ax n ca, .slice bx n cb] w (WP w B M v g n (3 * n) (fun ins => List.zipWith (fun x y => x && y) (A ins) (Y ins))) := by
  have AL := valike_any w B M v g ax bx ca cb a b n n hA hn hm hr.row hs.row (by unfold maxLen; omega) (by unfold maxLen; omega)
  have hal : alkB g a b = true := by unfold alkB; rw [ha.ok (by omega) (by omega), hb.ok (by omega) (by omega), hn, hm]; simp
  rw [hal] at AL
  replace AL := hide AL
  have BI := hide (bits_and w B M v g (fun ins x y => x && y) ax bx ca cb a b n A Y hA (by omega) hn hm h16 hr hs ha hb (fun W v' g' j x y X Y s hj hx hy => (andM s.gr (by have := s.len; omega) hx hy).mono fun e w' h => h.mono (by omega)))
  clear hA hn hm hr hs ha hb hal
  go_enter Try.func56, Try.ntmps56
  go_wp2_with (first
    | (go_at_call 49; refine (unhide AL).mono ?_; rintro e w0 ⟨rfl, hw0⟩; subst w0)
    | (go_at_call 70; refine (unhide BI).mono ?_; rintro e w1 ⟨q1, l1, v1, g1, rfl, s1, b1⟩)
    | (go_at_call 50; refine (word_any w1 B M v1 g1 (some ⟨q1, 0, none⟩) n l1 n s1.gr b1.len b1.rw.row (b1.wt.ok (by rw [b1.len]; omega) (by rw [b1.len]; omega))).mono ?_; rintro e w2 ⟨rfl, hw2⟩; subst w2))
  go_ret
  exact ⟨q1, l1, v1, g1, rfl, s1, b1⟩

set_option maxHeartbeats 1000000 in
theorem both_or (ax bx : Option Addr) (ca cb : Nat) (a b : List Int) (n : Nat) (A Y : List Bool → List Bool)
    (hA : Gr w B M v g) (hl : g.length ≤ 980000) (hn : a.length = n) (hm : b.length = n) (h1 : 1 ≤ n) (h16 : n ≤ 16) (hr : Fr w B M v ax a) (hs : Fr w B M v bx b) (ha : Wt g a A) (hb : Wt g b Y) :
    Calls Try.prog 56 #[.pointer (some ⟨B, 0, none⟩), .func (.func 58) #[.pointer (some ⟨B, 0, none⟩)] #[], .slice ax n ca, .slice bx n cb] w (WP w B M v g n (3 * n) (fun ins => List.zipWith (fun x y => x || y) (A ins) (Y ins))) := by
  have AL := valike_any w B M v g ax bx ca cb a b n n hA hn hm hr.row hs.row (by unfold maxLen; omega) (by unfold maxLen; omega)
  have hal : alkB g a b = true := by unfold alkB; rw [ha.ok (by omega) (by omega), hb.ok (by omega) (by omega), hn, hm]; simp
  rw [hal] at AL
  replace AL := hide AL
  have BI := hide (bits_or w B M v g (fun ins x y => x || y) ax bx ca cb a b n A Y hA (by omega) hn hm h16 hr hs ha hb (fun W v' g' j x y X Y s hj hx hy => (orM s.gr (by have := s.len; omega) hx hy).mono fun e w' h => h.mono (by omega)))
  clear hA hn hm hr hs ha hb hal
  go_enter Try.func56, Try.ntmps56
  go_wp2_with (first
    | (go_at_call 49; refine (unhide AL).mono ?_; rintro e w0 ⟨rfl, hw0⟩; subst w0)
    | (go_at_call 70; refine (unhide BI).mono ?_; rintro e w1 ⟨q1, l1, v1, g1, rfl, s1, b1⟩)
    | (go_at_call 50; refine (word_any w1 B M v1 g1 (some ⟨q1, 0, none⟩) n l1 n s1.gr b1.len b1.rw.row (b1.wt.ok (by rw [b1.len]; omega) (by rw [b1.len]; omega))).mono ?_; rintro e w2 ⟨rfl, hw2⟩; subst w2))
  go_ret
  exact ⟨q1, l1, v1, g1, rfl, s1, b1⟩

set_option maxHeartbeats 1000000 in
theorem both_xor (ax bx : Option Addr) (ca cb : Nat) (a b : List Int) (n : Nat) (A Y : List Bool → List Bool)
    (hA : Gr w B M v g) (hl : g.length ≤ 980000) (hn : a.length = n) (hm : b.length = n) (h1 : 1 ≤ n) (h16 : n ≤ 16) (hr : Fr w B M v ax a) (hs : Fr w B M v bx b) (ha : Wt g a A) (hb : Wt g b Y) :
    Calls Try.prog 56 #[.pointer (some ⟨B, 0, none⟩), .func (.func 59) #[.pointer (some ⟨B, 0, none⟩)] #[], .slice ax n ca, .slice bx n cb] w (WP w B M v g n (3 * n) (fun ins => List.zipWith (fun x y => x != y) (A ins) (Y ins))) := by
  have AL := valike_any w B M v g ax bx ca cb a b n n hA hn hm hr.row hs.row (by unfold maxLen; omega) (by unfold maxLen; omega)
  have hal : alkB g a b = true := by unfold alkB; rw [ha.ok (by omega) (by omega), hb.ok (by omega) (by omega), hn, hm]; simp
  rw [hal] at AL
  replace AL := hide AL
  have BI := hide (bits_xor w B M v g (fun ins x y => x != y) ax bx ca cb a b n A Y hA (by omega) hn hm h16 hr hs ha hb (fun W v' g' j x y X Y s hj hx hy => xorM s.gr (by have := s.len; omega) hx hy))
  clear hA hn hm hr hs ha hb hal
  go_enter Try.func56, Try.ntmps56
  go_wp2_with (first
    | (go_at_call 49; refine (unhide AL).mono ?_; rintro e w0 ⟨rfl, hw0⟩; subst w0)
    | (go_at_call 70; refine (unhide BI).mono ?_; rintro e w1 ⟨q1, l1, v1, g1, rfl, s1, b1⟩)
    | (go_at_call 50; refine (word_any w1 B M v1 g1 (some ⟨q1, 0, none⟩) n l1 n s1.gr b1.len b1.rw.row (b1.wt.ok (by rw [b1.len]; omega) (by rw [b1.len]; omega))).mono ?_; rintro e w2 ⟨rfl, hw2⟩; subst w2))
  go_ret
  exact ⟨q1, l1, v1, g1, rfl, s1, b1⟩
end
end Go.Proofs.Ytdjfciigfledhaa
