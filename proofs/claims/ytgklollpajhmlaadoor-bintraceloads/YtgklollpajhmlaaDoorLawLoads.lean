/- The statement on which a file is, and what is loaded of it, walked. -/
import Derived.Test.YtgklollpajhmlaaDoorWalkBk
import Derived.Test.YtgklollpajhmlaaDoorWalkTp
import Derived.Test.YtgklollpajhmlaaDoorWalkX
import Derived.Test.YtgklollpajhmlaaDoorWalkAq
import Derived.Test.YtgklollpajhmlaaDoorPlainD
set_option linter.unusedVariables false
set_option linter.unusedSimpArgs false
namespace Go.Proofs.YtgklollpajhmlaaDoor
open Go.RowKit Go.Maps

attribute [local go_sem ↓] Go.wp_at_zero Go.wp_at_succ

theorem printT_le {l : List Stp} (hm : mayL l = true) (h1 : l.length ≤ 300) (h2 : litsN l ≤ 6000) : (printT l).length ≤ 130000 := by
  have := printT_take hm h1 h2 l.length
  rwa [List.take_length] at this

/-- What is loaded of a text that was printed: these steps, and that they are alike. -/
def Back (w : World) (a : Option Addr) (cap : Nat) (l : List Stp) (e : Ending) (w' : World) : Prop :=
  ∃ (a1 : Option Addr) (c1 : Nat), e = .returned (.tuple #[.slice a1 l.length c1, .int .i64 0, .int .i64 0]) ∧ Hid (Below w.heap.size w w') ∧ Hid (Calls Tryd.prog 10 #[.slice a1 l.length c1, .slice a l.length cap] w' fun e w'' => e = .returned (.bool true) ∧ ∃ k, w'' = w'.drewN k)

theorem back_of {w x : World} {a : Option Addr} {cap : Nat} {l : List Stp} {A : Ans} (hA : Steps w a l) (hl : l.length ≤ maxLen) (hx : Below w.heap.size w x) (e : A = (0, 0, l)) {en : Ending} {y : World} (h : Told x.heap.size x A en y) : Back w a cap l en y := by
  subst e
  obtain ⟨v, he, hog, hbl⟩ := h
  obtain ⟨a1, c1, rfl, hst, hml, -⟩ := hog.steps
  have hB := hx.trans (hbl.mono hx.size)
  refine ⟨a1, c1, he, hB, ?_⟩
  refine Calls.mono (refSame_any a1 a c1 cap l l y hst (hA.below hB) hml hl) ?_
  rintro e z ⟨r1, n1, r2⟩
  exact ⟨by rw [r1]; exact congrArg _ (congrArg _ (sameB_self l)), n1, r2⟩

set_option maxRecDepth 100000 in
set_option maxHeartbeats 8000000 in
theorem loads_any (a : Option Addr) (cap : Nat) (t : List UInt8) (b : Option Addr) (cb : Nat) (l : List Stp) (w : World) (ht : Txt w.heap.size w a t) (htl : t.length ≤ maxLen) (hc : t.length ≤ cap) (hn : a = none → t = [] ∧ cap = 0)
    (hA : Steps w b l) (hl : l.length ≤ maxLen) (htab : Lib.TabIs Tryd.prog w "internal/strconv.uint64pow10" .u64 Lib.pow10Tab) :
    Calls Tryd.prog 3 #[.slice a t.length cap, .slice b l.length cb] w fun e w' => e = .returned (.bool true) ∧ Below w.heap.size w w' := by
  unfold maxLen at htl
  have CA : Hid (∀ x, Below w.heap.size w x → Calls Tryd.prog 5 #[] x fun e w' => e = .returned (.bool true) ∧ Below w.heap.size w w') := fun x hx => (awake_any x).mono fun e w' ⟨h1, h2⟩ => ⟨h1, hx.trans (h2.mono hx.size)⟩
  have CA0 := hide (CA.out w (Below.refl _ _))
  have HL := hide hl
  have HA := hide hA
  by_cases h6 : (6000 : Int) < t.length
  · clear ht hn hA htab
    unfold maxLen at hl
    go_enter Tryd.func3, Tryd.ntmps3
    go_wp2_with (go_at_call 5; refine (unhide CA0).mono ?_; rintro e w1 ⟨rfl, hb1⟩)
    go_ret
    exact ⟨rfl, hb1⟩
  have C1 := hide (light_any w b cb l hA hl)
  obtain ⟨i0, hi, hz0, hz1, hz2⟩ := info_parts Tryd.info5
  have hb0 := below_alloc w (.cells #[] 5)
  have HSRC := hide (txt_src (ht.below hb0) hn)
  have HO1 := hide (byteL_one t)
  have CR : Hid (∀ x g n c, Below w.heap.size w x → x.ownsRow w.heap.size 5 1 (.slice (some ⟨g, 0, none⟩) n c) n (byteL t) → Calls Tryd.prog 6 #[.slice (some ⟨g, 0, none⟩) n c] x (Told w.heap.size w (loadP t))) := fun x g n c hx ho => by
    obtain ⟨e1, e2, e3⟩ := own_txt ho
    subst e1
    refine (load_any _ c t x e2 (by omega) e3 (by simp)).mono ?_
    rintro e w' ⟨v, h1, h2, h3⟩
    exact ⟨v, h1, h2.mono hx.size, hx.trans (h3.mono hx.size)⟩
  have CF : Hid (∀ x, Below w.heap.size w x → Calls Tryd.prog 7 #[.slice a t.length cap] x fun e w' => ∃ v, e = .returned (.tuple #[v, .int .i64 ((loadP t).2.1 : Int), .int .i64 (loadP t).1]) ∧ OSt w.heap.size w' v (loadP t).2.2 ∧ Below x.heap.size x w' ∧ Below w.heap.size w w') := fun x hx => by
    refine (refLoad_any a cap t x ((ht.below hx).mono hx.size) (by omega) hc).mono ?_
    rintro e w' ⟨v, h1, h2, h3⟩
    exact ⟨v, h1, h2.mono hx.size, h3, hx.trans (h3.mono hx.size)⟩
  have CB1 : Hid (∀ x, Below w.heap.size w x → Calls Tryd.prog 8 #[.slice a t.length cap] x fun e w' => e = .returned (.bool (binB t)) ∧ w' = x) := fun x hx => binary_any a cap t x ((ht.below hx).mono hx.size) (by omega) hc
  have CB2 : Hid (∀ x, Below w.heap.size w x → Calls Tryd.prog 9 #[.slice a t.length cap] x fun e w' => e = .returned (.bool (binB t)) ∧ w' = x) := fun x hx => refBinary_any a cap t x ((ht.below hx).mono hx.size) (by omega)
  have HTB := hide (Lib.tabBelow_of_tabIs htab)
  have CPN : Hid (mayL l = false → ∀ x, Below w.heap.size w x → Calls Tryd.prog 11 #[.slice b l.length cb] x fun e w' => e = .returned (.tuple #[.slice none 0 0, .int .i64 1]) ∧ Below w.heap.size w w') := fun hm x hx => (print_no b cb l x (HA.out.below hx) HL.out hm).mono fun e w' ⟨h1, h2⟩ => ⟨h1, hx.trans (h2.mono hx.size)⟩
  have CPY : Hid (mayL l = true → l.length ≤ 300 → litsN l ≤ 6000 → ∀ x, Below w.heap.size w x → Calls Tryd.prog 11 #[.slice b l.length cb] x fun e w' => ∃ g n c, e = .returned (.tuple #[.slice (some ⟨g, 0, none⟩) n c, .int .i64 0]) ∧ Hid (Br w.heap.size w' (.slice (some ⟨g, 0, none⟩) n c) (printT l)) ∧ Hid (Below w.heap.size w w')) := fun hm h1 h2 x hx => Calls.mono (print_yes b cb l x (HA.out.below hx) hm h1 h2 (HTB.out _ hx)) fun e w' ⟨v, q1, q2, q3⟩ => by
    obtain ⟨g, c, e2, -⟩ := q2.shape
    exact ⟨g, _, c, by rw [q1, e2], by rw [← e2]; exact q2.mono hx.size, hx.trans (q3.mono hx.size)⟩
  have CL : Hid (mayL l = true → l.length ≤ 300 → litsN l ≤ 6000 → ∀ x g n c, Below w.heap.size w x → Br w.heap.size x (.slice (some ⟨g, 0, none⟩) n c) (printT l) → Calls Tryd.prog 6 #[.slice (some ⟨g, 0, none⟩) n c] x (Back w b cb l)) := fun hm h1 h2 x g n c hx hbr => by
    obtain ⟨g', c', e, htx, hcg⟩ := hbr.txt
    simp at e
    obtain ⟨rfl, rfl, rfl⟩ := e
    have hpl := printT_le hm h1 h2
    exact Calls.mono (load_any (some ⟨g, 0, none⟩) c (printT l) x htx (by omega) hcg (by simp)) fun e y h => back_of HA.out HL.out hx (load_print hm) h
  generalize loadP t = A at *
  obtain ⟨x, p, ls⟩ := A
  simp only at CF
  generalize binB t = bb at *
  clear ht hb0 hn hA htab HTB
  unfold maxLen at hl
  go_enter Tryd.func3, Tryd.ntmps3
  go_wp2_with fail
  refine (unhide C1).mono ?_
  rintro e w0 ⟨⟨r1, rfl, hr1⟩, hw0⟩
  subst w0
  cases r1
  · clear hr1
    go_wp2_with (go_at_call 5; refine (unhide CA0).mono ?_; rintro e w1 ⟨rfl, hb1⟩)
    go_ret
    exact ⟨rfl, hb1⟩
  obtain ⟨h300, h6000⟩ := hr1 rfl
  clear hr1
  go_wp2_with (first
    | (at_builtin; refine wpList_append_any rfl (.tmp 25) (.tmp 26) 22 rfl w.heap.size 5 i0 (.int .u8 0) 1 1 Tryd.underlying22 hi hz0 hz1 hz2 rfl (by decide) (.slice (some ⟨w.heap.size, 0, none⟩) 0 0) 0 [] rfl (lit0 w) (by simp) a t.length cap (byteL t) rfl HSRC.out HO1.out (by unfold maxLen; omega) (by omega) (by simp) ?_; intro g1 c1 w2 ho1 hgr1 hat1 hlt1; simp only [Nat.zero_add, List.nil_append] at ho1; have hbl1 := (below_alloc w (.cells #[] 5)).grown hgr1 (by simp) (fun k e => by simp [Value.ownBlock] at e; omega); have HB1 := hide hbl1; have HOW1 := hide ho1; clear hgr1 hat1 ho1 hbl1)
    | (go_at_call 6; refine (unhide CR _ _ _ _ HB1.out HOW1.out).mono ?_; rintro e w3 ⟨v3, he3, ho3, hb3⟩; obtain ⟨a3, c3, hv3, hst3, hm3, -⟩ := ho3.steps; subst hv3; subst he3; have HO3 := hide ho3; have HB3 := hide hb3; clear ho3 hb3 hst3)
    | (go_at_call 7; refine (unhide CF _ HB3.out).mono ?_; rintro e w4 ⟨v4, he4, ho4, hbx4, hb4⟩; obtain ⟨a4, c4, hv4, hst4, hm4, -⟩ := ho4.steps; subst hv4; subst he4; obtain ⟨a5, c5, hv5, hst5, hm5, -⟩ := (HO3.out.below hbx4).steps; simp at hv5; obtain ⟨e5, e6⟩ := hv5; subst e5; subst e6; have CS := hide (refSame_any a3 a4 c3 c4 ls ls w4 hst5 hst4 hm5 hm4); rw [sameB_self] at CS; have HB4 := hide hb4; unfold maxLen at hm3; clear ho4 hbx4 hb4 hst4 hst5 hm4 hm5)
    | (go_at_call 8; refine (unhide CB1 _ HB4.out).mono ?_; rintro e w0 ⟨rfl, hw0⟩; subst w0)
    | (go_at_call 9; refine (unhide CB2 _ HB4.out).mono ?_; rintro e w0 ⟨rfl, hw0⟩; subst w0)
    | (go_at_call 10; refine (unhide CS).mono ?_; rintro e w5 ⟨rfl, n5, hw5⟩; subst w5; have HB5 := hide (below_drewN (n := n5) HB4.out)))
  clear hlt1 HOW1 hm3 CS CR CF CB1 CB2 HSRC HO1 HO3
  cases hm : mayL l
  · have CP := hide (CPN.out hm _ HB5.out)
    clear CPN CPY CL hm
    refine (unhide CP).mono ?_
    rintro e w6 ⟨rfl, hb6⟩
    replace hb6 := hide hb6
    go_wp2_with (go_at_call 5; refine (unhide CA _ hb6.out).mono ?_; rintro e w7 ⟨rfl, hb7⟩)
    go_ret
    exact ⟨rfl, hb7⟩
  · have CP := hide (CPY.out hm h300 h6000 _ HB5.out)
    have CL2 := hide (CL.out hm h300 h6000)
    clear CPN CPY CL hm
    refine (unhide CP).mono ?_
    rintro e w6 ⟨g6, n6, c6, rfl, HBR6, HB6⟩
    go_wp2_with (first
      | (go_at_call 6; refine (unhide CL2 _ _ _ _ HB6.out HBR6.out).mono ?_; rintro e w7 ⟨a7, c7, rfl, HB7, CS7⟩)
      | (go_at_call 10; refine (unhide CS7).mono ?_; rintro e w0 ⟨rfl, k7, hw0⟩; subst w0; have HB8 := hide (below_drewN (n := k7) HB7.out))
      | (go_at_call 5; refine (unhide CA _ HB8.out).mono ?_; rintro e w9 ⟨rfl, hb9⟩))
    go_ret
    exact ⟨rfl, hb9⟩

end Go.Proofs.YtgklollpajhmlaaDoor
