/- The statement on which proof any text is, walked. -/
import Derived.Test.YtjjeoodgejnplaaWalkM
import Derived.Test.YtjjeoodgejnplaaLawCounts
set_option linter.unusedVariables false
set_option linter.unusedSimpArgs false
namespace Go.Proofs.Ytjjeoodgejnplaa
open Go.RowKit Go.Maps

attribute [local go_sem ↓] Go.wp_at_zero Go.wp_at_succ

theorem Try.info5 : (Try.prog.info? 5).map (fun i => (i.zero, i.size, i.bytes)) = some (some (.int .u8 0), 1, 1) := by kernel_rfl

/-- Bytes, as cells. -/
def byteL (xs : List UInt8) : List Value := xs.map fun c => Value.int .u8 (c.toNat : Int)
theorem byteL_len (xs : List UInt8) : (byteL xs).length = xs.length := by simp [byteL]
theorem byteL_append (xs ys : List UInt8) : byteL (xs ++ ys) = byteL xs ++ byteL ys := by simp [byteL]
theorem byteL_one (xs : List UInt8) : ∀ u ∈ byteL xs, u.oneCell' = true := by
  intro u hu
  simp only [byteL, List.mem_map] at hu
  obtain ⟨c, _, rfl⟩ := hu
  rfl

/-- Bytes as what is put behind others. -/
theorem txt_src {B : Nat} {w : World} {a : Option Addr} {cap : Nat} {t : List UInt8} (h : Txt B w a t) (hn : a = none → t = [] ∧ cap = 0) :
    (a = none ∧ t.length = 0 ∧ cap = 0 ∧ byteL t = []) ∨ ∃ ad, a = some ad ∧ (byteL t).length = t.length * 1 ∧ ∀ j u, (byteL t)[j]? = some u → w.cell? (ad.add j) = some u := by
  cases a with
  | none =>
    obtain ⟨rfl, rfl⟩ := hn rfl
    exact .inl ⟨rfl, rfl, rfl, rfl⟩
  | some x =>
    refine .inr ⟨x, rfl, by rw [byteL_len]; omega, fun j u hu => ?_⟩
    obtain ⟨hj, e⟩ := List.getElem?_eq_some_iff.1 hu
    rw [byteL_len] at hj
    obtain ⟨b, off, ex, _, hc⟩ := h j hj
    simp at ex
    subst ex
    rw [Addr.add_lit, hc, ← e]
    simp [byteL]

theorem own_txt {base g n c : Nat} {w : World} {t : List UInt8} (h : w.ownsRow base 5 1 (.slice (some ⟨g, 0, none⟩) n c) n (byteL t)) : n = t.length ∧ Txt w.heap.size w (some ⟨g, 0, none⟩) t ∧ n ≤ c := by
  have hl : (byteL t).length = n * 1 := h.1
  rw [byteL_len] at hl
  refine ⟨by omega, fun i hi => ⟨g, 0, rfl, (h.lt g rfl).2, ?_⟩, ?_⟩
  · have := h.cells (g := g) rfl i (.int .u8 (t[i].toNat : Int)) (by simp [byteL, hi])
    rw [Addr.add_lit] at this
    exact this
  · rcases h.2 with ⟨e, _⟩ | ⟨g', cap, cur, e, _, _, hn, _⟩
    · simp at e
    · simp at e
      obtain ⟨_, rfl⟩ := e
      exact hn

theorem lit0 (W : World) : (W.alloc (.cells #[] 5)).ownsRow W.heap.size 5 1 (.slice (some ⟨W.heap.size, 0, none⟩) 0 0) 0 [] :=
  World.ownsRow_made W #[] 0 (Nat.le_refl _) (Nat.zero_le _) rfl

theorem told_read (t : List UInt8) : runW Rs.zero t.length (wordsP 0 [] t) = readP Rs.zero 0 [] t := by
  rw [read_run]; simp

set_option maxHeartbeats 4000000 in
theorem reads_any (a : Option Addr) (cap : Nat) (t : List UInt8) (w : World) (ht : Txt w.heap.size w a t) (hl : t.length ≤ maxLen) (hc : t.length ≤ cap) (hn : a = none → t = [] ∧ cap = 0) :
    Calls Try.prog 3 #[.slice a t.length cap] w fun e w' => e = .returned (.bool true) ∧ Below w.heap.size w w' := by
  unfold maxLen at hl
  by_cases h6 : (6000 : Int) < t.length
  · have CA0 := hide (awake_any w)
    clear ht hn
    go_enter Try.func3, Try.ntmps3
    go_wp2_with (go_at_call 6; refine (unhide CA0).mono ?_; rintro e w1 ⟨rfl, hb1⟩)
    go_ret
    exact ⟨rfl, hb1⟩
  obtain ⟨i0, hi, hz0, hz1, hz2⟩ := info_parts Try.info5
  have hb0 := below_alloc w (.cells #[] 5)
  have HSRC := hide (txt_src (ht.below hb0) hn)
  have HO1 := hide (byteL_one t)
  have CR : Hid (∀ x g n c, Below w.heap.size w x → x.ownsRow w.heap.size 5 1 (.slice (some ⟨g, 0, none⟩) n c) n (byteL t) → Calls Try.prog 7 #[.slice (some ⟨g, 0, none⟩) n c] x (Told w.heap.size w (readP Rs.zero 0 [] t))) := fun x g n c hx ho => by
    obtain ⟨e1, e2, e3⟩ := own_txt ho
    subst e1
    refine (read_any x _ c t e2 (by omega) e3 (by simp)).mono ?_
    rintro e w' ⟨v, h1, h2, h3⟩
    exact ⟨v, h1, h2.mono hx.size, hx.trans (h3.mono hx.size)⟩
  have CF : Hid (∀ x, Below w.heap.size w x → Calls Try.prog 8 #[.slice a t.length cap] x fun e w' => ∃ v, e = .returned (.tuple #[v, .int .i64 ((readP Rs.zero 0 [] t).2.1 : Int), .int .i64 (readP Rs.zero 0 [] t).1]) ∧ OSt w.heap.size w' v (readP Rs.zero 0 [] t).2.2 ∧ Below x.heap.size x w' ∧ Below w.heap.size w w') := fun x hx => by
    have := refRead_any x a cap t ((ht.below hx).mono hx.size) (by omega) hc
    rw [told_read] at this
    refine this.mono ?_
    rintro e w' ⟨v, h1, h2, h3⟩
    exact ⟨v, h1, h2.mono hx.size, h3, hx.trans (h3.mono hx.size)⟩
  have CA : Hid (∀ x, Below w.heap.size w x → Calls Try.prog 6 #[] x fun e w' => e = .returned (.bool true) ∧ Below w.heap.size w w') := fun x hx => (awake_any x).mono fun e w' ⟨h1, h2⟩ => ⟨h1, hx.trans (h2.mono hx.size)⟩
  generalize readP Rs.zero 0 [] t = A at *
  obtain ⟨x, p, l⟩ := A
  simp only at CF
  clear ht hb0 hn
  go_enter Try.func3, Try.ntmps3
  go_wp2_with (first
    | (at_builtin; refine wpList_append_any rfl (.tmp 14) (.tmp 15) 22 rfl w.heap.size 5 i0 (.int .u8 0) 1 1 Try.underlying22 hi hz0 hz1 hz2 rfl (by decide) (.slice (some ⟨w.heap.size, 0, none⟩) 0 0) 0 [] rfl (lit0 w) (by simp) a t.length cap (byteL t) rfl HSRC.out HO1.out (by unfold maxLen; omega) (by omega) (by simp) ?_; intro g1 c1 w2 ho1 hgr1 hat1 hlt1; simp only [Nat.zero_add, List.nil_append] at ho1; have hbl1 := (below_alloc w (.cells #[] 5)).grown hgr1 (by simp) (fun k e => by simp [Value.ownBlock] at e; omega); have HB1 := hide hbl1; have HOW1 := hide ho1; clear hgr1 hat1 ho1 hbl1)
    | (go_at_call 7; refine (unhide CR _ _ _ _ HB1.out HOW1.out).mono ?_; rintro e w3 ⟨v3, he3, ho3, hb3⟩; obtain ⟨a3, c3, hv3, hst3, hm3, -⟩ := ho3.steps; subst hv3; subst he3; have HO3 := hide ho3; have HB3 := hide hb3; clear ho3 hb3 hst3)
    | (go_at_call 8; refine (unhide CF _ HB3.out).mono ?_; rintro e w4 ⟨v4, he4, ho4, hbx4, hb4⟩; obtain ⟨a4, c4, hv4, hst4, hm4, -⟩ := ho4.steps; subst hv4; subst he4; obtain ⟨a5, c5, hv5, hst5, hm5, -⟩ := (HO3.out.below hbx4).steps; simp at hv5; obtain ⟨e5, e6⟩ := hv5; subst e5; subst e6; have CS := hide (refSame_any a3 a4 c3 c4 l l w4 hst5 hst4 hm5 hm4); rw [sameB_self] at CS; have HB4 := hide hb4; unfold maxLen at hm3; clear ho4 hbx4 hb4 hst4 hst5 hm4 hm5)
    | (go_at_call 9; refine (unhide CS).mono ?_; rintro e w5 ⟨rfl, n5, hw5⟩; subst w5)
    | (go_at_call 6; refine (unhide CA _ (below_drewN HB4.out)).mono ?_; rintro e w6 ⟨rfl, hb6⟩))
  go_ret
  exact ⟨rfl, hb6⟩

end Go.Proofs.Ytjjeoodgejnplaa
