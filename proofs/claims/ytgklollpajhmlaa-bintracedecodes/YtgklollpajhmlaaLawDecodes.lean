/- The statement on which proof any bytes are, walked. -/
import Derived.Test.YtgklollpajhmlaaWalkW2
import Derived.Test.YtgklollpajhmlaaWalkAp
set_option linter.unusedVariables false
set_option linter.unusedSimpArgs false
namespace Go.Proofs.Ytgklollpajhmlaa
open Go.RowKit Go.Maps

attribute [local go_sem ↓] Go.wp_at_zero Go.wp_at_succ

set_option maxHeartbeats 4000000 in
theorem decodes_any (a : Option Addr) (cap : Nat) (t : List UInt8) (w : World) (ht : Txt w.heap.size w a t) (hl : t.length ≤ maxLen) (hc : t.length ≤ cap) (hn : a = none → t = [] ∧ cap = 0) :
    Calls Try.prog 4 #[.slice a t.length cap] w fun e w' => e = .returned (.bool true) ∧ Below w.heap.size w w' := by
  unfold maxLen at hl
  by_cases h6 : (6000 : Int) < t.length
  · have CA0 := hide (awake_any w)
    clear ht hn
    go_enter Try.func4, Try.ntmps4
    go_wp2_with (go_at_call 7; refine (unhide CA0).mono ?_; rintro e w1 ⟨rfl, hb1⟩)
    go_ret
    exact ⟨rfl, hb1⟩
  obtain ⟨i0, hi, hz0, hz1, hz2⟩ := info_parts Try.info5
  have hb0 := below_alloc w (.cells #[] 5)
  have HSRC := hide (txt_src (ht.below hb0) hn)
  have HO1 := hide (byteL_one t)
  have CR : Hid (∀ x g n c, Below w.heap.size w x → x.ownsRow w.heap.size 5 1 (.slice (some ⟨g, 0, none⟩) n c) n (byteL t) → Calls Try.prog 11 #[.slice (some ⟨g, 0, none⟩) n c] x (Told w.heap.size w (dcP 0 [] 0 t))) := fun x g n c hx ho => by
    obtain ⟨e1, e2, e3⟩ := own_txt ho
    subst e1
    refine (decode_any x _ c t e2 (by omega) e3).mono ?_
    rintro e w' ⟨v, h1, h2, h3⟩
    exact ⟨v, h1, h2.mono hx.size, hx.trans (h3.mono hx.size)⟩
  have CF : Hid (∀ x, Below w.heap.size w x → Calls Try.prog 14 #[.slice a t.length cap] x fun e w' => ∃ v, e = .returned (.tuple #[v, .int .i64 ((dcP 0 [] 0 t).2.1 : Int), .int .i64 (dcP 0 [] 0 t).1]) ∧ OSt w.heap.size w' v (dcP 0 [] 0 t).2.2 ∧ Below x.heap.size x w' ∧ Below w.heap.size w w') := fun x hx => by
    have := refDecode_any x a cap t ((ht.below hx).mono hx.size) (by omega) hc
    refine this.mono ?_
    rintro e w' ⟨v, h1, h2, h3⟩
    exact ⟨v, h1, h2.mono hx.size, h3, hx.trans (h3.mono hx.size)⟩
  have CA : Hid (∀ x, Below w.heap.size w x → Calls Try.prog 7 #[] x fun e w' => e = .returned (.bool true) ∧ Below w.heap.size w w') := fun x hx => (awake_any x).mono fun e w' ⟨h1, h2⟩ => ⟨h1, hx.trans (h2.mono hx.size)⟩
  generalize dcP 0 [] 0 t = A at *
  obtain ⟨x, p, l⟩ := A
  simp only at CF
  clear ht hb0 hn
  go_enter Try.func4, Try.ntmps4
  go_wp2_with (first
    | (at_builtin; refine wpList_append_any rfl (.tmp 14) (.tmp 15) 25 rfl w.heap.size 5 i0 (.int .u8 0) 1 1 Try.underlying25 hi hz0 hz1 hz2 rfl (by decide) (.slice (some ⟨w.heap.size, 0, none⟩) 0 0) 0 [] rfl (lit0 w) (by simp) a t.length cap (byteL t) rfl HSRC.out HO1.out (by unfold maxLen; omega) (by omega) (by simp) ?_; intro g1 c1 w2 ho1 hgr1 hat1 hlt1; simp only [Nat.zero_add, List.nil_append] at ho1; have hbl1 := (below_alloc w (.cells #[] 5)).grown hgr1 (by simp) (fun k e => by simp [Value.ownBlock] at e; omega); have HB1 := hide hbl1; have HOW1 := hide ho1; clear hgr1 hat1 ho1 hbl1)
    | (go_at_call 11; refine (unhide CR _ _ _ _ HB1.out HOW1.out).mono ?_; rintro e w3 ⟨v3, he3, ho3, hb3⟩; obtain ⟨a3, c3, hv3, hst3, hm3, -⟩ := ho3.steps; subst hv3; subst he3; have HO3 := hide ho3; have HB3 := hide hb3; clear ho3 hb3 hst3)
    | (go_at_call 14; refine (unhide CF _ HB3.out).mono ?_; rintro e w4 ⟨v4, he4, ho4, hbx4, hb4⟩; obtain ⟨a4, c4, hv4, hst4, hm4, -⟩ := ho4.steps; subst hv4; subst he4; obtain ⟨a5, c5, hv5, hst5, hm5, -⟩ := (HO3.out.below hbx4).steps; simp at hv5; obtain ⟨e5, e6⟩ := hv5; subst e5; subst e6; have CS := hide (refSame_any a3 a4 c3 c4 l l w4 hst5 hst4 hm5 hm4); rw [sameB_self] at CS; have HB4 := hide hb4; unfold maxLen at hm3; clear ho4 hbx4 hb4 hst4 hst5 hm4 hm5)
    | (go_at_call 12; refine (unhide CS).mono ?_; rintro e w5 ⟨rfl, n5, hw5⟩; subst w5)
    | (go_at_call 7; refine (unhide CA _ (below_drewN HB4.out)).mono ?_; rintro e w6 ⟨rfl, hb6⟩))
  go_ret
  exact ⟨rfl, hb6⟩

end Go.Proofs.Ytgklollpajhmlaa
