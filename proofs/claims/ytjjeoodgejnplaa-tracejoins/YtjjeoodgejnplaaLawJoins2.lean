/- The statement on two texts one behind the other, walked. -/
import Derived.Test.YtjjeoodgejnplaaLawJoins
set_option linter.unusedVariables false
set_option linter.unusedSimpArgs false
namespace Go.Proofs.Ytjjeoodgejnplaa
open Go.RowKit Go.Maps

attribute [local go_sem ↓] Go.wp_at_zero Go.wp_at_succ

theorem wpList_append_any_on {P : Program} {w : World} {ops : Array Oper} {rest : List Oper} {o : Oper} {act : Act} {Q : Exit → Act → World → Prop} (hw : Region.wanted o (yielded ops act.tmps) = true) (s x : Operand) (t : TypeId)
    (ho : o.op = .call { callee := .builtin .append, args := #[s, x], argTypes := #[t, t] })
    (base : Nat) (e : TypeId) (i : TypeInfo) (z : Value) (size bytes : Nat) (ht : P.underlying t = some (.slice e)) (hi : P.info? e = some i) (hz : i.zero = some z)
    (hsize : i.size = size) (hby : i.bytes = bytes) (hzs : z.cells.size = size) (hsz : 0 < size)
    (v : Value) (n : Nat) (xs : List Value) (hs : act.eval s = v) (hown : w.ownsRow base e size v n xs) (hv : v ≠ .slice none 0 0)
    (a : Option Addr) (m c : Nat) (news : List Value) (hx : act.eval x = .slice a m c) (hsrc : (a = none ∧ m = 0 ∧ c = 0 ∧ news = []) ∨ ∃ ad, a = some ad ∧ news.length = m * size ∧ ∀ j u, news[j]? = some u → w.cell? (ad.add j) = some u) (h1 : ∀ u ∈ news, u.oneCell' = true)
    (h63 : n + m ≤ maxLen) (hbytes : (n + m) * bytes ≤ 140737488355328) (hbase : base ≤ w.heap.size)
    (h : ∀ g cap w', w'.ownsRow base e size (.slice (some ⟨g, 0, none⟩) (n + m) cap) (n + m) (xs ++ news) → w.grownBy w' v.ownBlock → (v.ownBlock = some g ∨ g = w.heap.size) → g < w'.heap.size → wpList P ops Q rest (act.put o.dst (.slice (some ⟨g, 0, none⟩) (n + m) cap)) w') : wpList P ops Q (o :: rest) act w :=
  wpList_step fun _ hK => by
    rw [if_pos hw]
    exact wp_append_any s x t ho base e i z size bytes ht hi hz hsize hby hzs hsz v n xs hs hown hv a m c news hx hsrc h1 h63 hbytes hbase fun g cap w' h2 h3 h4 h5 => hK _ _ (h g cap w' h2 h3 h4 h5)

/-- What is read of a text, in letters: errors, place, steps. -/
def Reads (base : Nat) (x : World) (q : Int) (p : Nat) (l : List Stp) (e : Ending) (w' : World) : Prop :=
  ∃ (a : Option Addr) (c : Nat), e = .returned (.tuple #[.slice a l.length c, .int .i64 (p : Int), .int .i64 q]) ∧ Hid (OSt base w' (.slice a l.length c) l) ∧ Hid (Below x.heap.size x w')

theorem reads_of {base : Nat} {x w' : World} {A : Ans} {e : Ending} (h : Told x.heap.size x A e w') (hb : base ≤ x.heap.size) : Reads base x A.1 A.2.1 A.2.2 e w' := by
  obtain ⟨v, h1, h2, h3⟩ := h
  obtain ⟨a, c, e2, _⟩ := h2.steps
  subst e2
  exact ⟨a, c, h1, h2.mono hb, h3⟩

/-- The bytes of two texts. -/
theorem byteL_two (s t : List UInt8) : byteL s ++ [.int .u8 10] ++ byteL t = byteL (s ++ 10 :: t) := by simp [byteL]

theorem ten_src (W : World) : ((some (⟨W.heap.size, 0, none⟩ : Addr) = none ∧ 1 = 0 ∧ 1 = 0 ∧ ([.int .u8 10] : List Value) = []) ∨ ∃ ad, some (⟨W.heap.size, 0, none⟩ : Addr) = some ad ∧ ([.int .u8 10] : List Value).length = 1 * 1 ∧ ∀ j u, ([.int .u8 10] : List Value)[j]? = some u → (W.alloc (.cells #[.int .u8 10] 5)).cell? (ad.add j) = some u) :=
  .inr ⟨_, rfl, rfl, cell_one_new _ _ _⟩

theorem lit33 (W : World) : (W.alloc (.cells #[] 33)).ownsRow W.heap.size 33 2 (.slice (some ⟨W.heap.size, 0, none⟩) 0 0) 0 [] :=
  World.ownsRow_made W #[] 0 (Nat.le_refl _) (Nat.zero_le _) rfl

/-- Steps as what is put behind others. -/
theorem steps_src2 {base : Nat} {w : World} {v : Value} {l : List Stp} (h : OSt base w v l) : ∃ (a : Option Addr) (c : Nat) (cells : List Value), v = .slice a l.length c ∧ cells.length = l.length * 2 ∧
    (∀ i (h : i < l.length), ∃ u, cells[i * 2]? = some (.bool l[i].1) ∧ cells[i * 2 + 1]? = some u ∧ Own base w u l[i].2) ∧ (∀ u ∈ cells, u.oneCell' = true) ∧
    ∀ x, Below w.heap.size w x → ((a = none ∧ l.length = 0 ∧ c = 0 ∧ cells = []) ∨ ∃ ad, a = some ad ∧ cells.length = l.length * 2 ∧ ∀ j u, cells[j]? = some u → x.cell? (ad.add j) = some u) := by
  obtain ⟨a, c, cells, h1, h2, h3, h4, h5⟩ := steps_src h (Below.refl _ w)
  refine ⟨a, c, cells, h1, h2, h3, h4, fun x hx => ?_⟩
  rcases h5 with h5 | ⟨ad, e1, e2, e3⟩
  · exact .inl h5
  · refine .inr ⟨ad, e1, e2, fun j u hu => ?_⟩
    have := e3 j u hu
    have hlt := World.block_lt_of_cell? w _ this
    rw [hx.cell hlt]
    exact this

theorem digits0 (x : World) : Calls Try.prog 13 #[.int .i64 0] x fun e w' => e = .returned (.string (str [48])) ∧ w' = x := digits_any 0 x (by decide) (by decide)

set_option maxRecDepth 100000 in
set_option maxHeartbeats 8000000 in
theorem joins_light (a b : Option Addr) (ca cb : Nat) (s t : List UInt8) (w : World) (ha : Txt w.heap.size w a s) (hb : Txt w.heap.size w b t) (hs : s.length ≤ 3000) (ht : t.length ≤ 3000) (hca : s.length ≤ ca) (hcb : t.length ≤ cb) (hna : a = none → s = [] ∧ ca = 0) (hnb : b = none → t = [] ∧ cb = 0) :
    Calls Try.prog 5 #[.slice a s.length ca, .slice b t.length cb] w fun e w' => e = .returned (.bool true) ∧ Below w.heap.size w w' := by
  obtain ⟨i0, hi, hz0, hz1, hz2⟩ := info_parts Try.info5
  have CRa : Hid (Calls Try.prog 7 #[.slice a s.length ca] w (Reads w.heap.size w (readP Rs.zero 0 [] s).1 (readP Rs.zero 0 [] s).2.1 (readP Rs.zero 0 [] s).2.2)) := Calls.mono (read_any w a ca s ha (by omega) hca (fun e => (hna e).1)) fun e w' h => reads_of h (Nat.le_refl _)
  have CRb : Hid (∀ x, Below w.heap.size w x → Calls Try.prog 7 #[.slice b t.length cb] x (Reads w.heap.size x (readP Rs.zero 0 [] t).1 (readP Rs.zero 0 [] t).2.1 (readP Rs.zero 0 [] t).2.2)) := fun x hx => Calls.mono (read_any x b cb t ((hb.below hx).mono hx.size) (by omega) hcb (fun e => (hnb e).1)) fun e w' h => reads_of h hx.size
  have CRc : Hid (∀ x base g n c, Below w.heap.size w x → x.ownsRow base 5 1 (.slice (some ⟨g, 0, none⟩) n c) n (byteL (s ++ 10 :: t)) → Calls Try.prog 7 #[.slice (some ⟨g, 0, none⟩) n c] x (Reads w.heap.size x (readP Rs.zero 0 [] (s ++ 10 :: t)).1 (readP Rs.zero 0 [] (s ++ 10 :: t)).2.1 (readP Rs.zero 0 [] (s ++ 10 :: t)).2.2)) := fun x base g n c hx ho => by
    obtain ⟨e1, e2, e3⟩ := own_txt ho
    subst e1
    exact Calls.mono (read_any x _ c (s ++ 10 :: t) e2 (by simp; omega) e3 (by simp)) fun e w' h => reads_of h hx.size
  have CA : Hid (∀ x, Below w.heap.size w x → Calls Try.prog 6 #[] x fun e w' => e = .returned (.bool true) ∧ Below w.heap.size w w') := fun x hx => (awake_any x).mono fun e w' ⟨h1, h2⟩ => ⟨h1, hx.trans (h2.mono hx.size)⟩
  have hl1 := read_len s Rs.zero 0 []
  have hl2 := read_len t Rs.zero 0 []
  have hz : Rs.zero.steps.length = 0 := rfl
  have HJ : Hid ((readP Rs.zero 0 [] s).1 = 0 → readP Rs.zero 0 [] (s ++ 10 :: t) = ansBehind (readP Rs.zero 0 [] s).2.2 (s.length + 1) (readP Rs.zero 0 [] t)) := fun e => join_read s t e (by omega) (by omega)
  have HSA : Hid (∀ x, Below w.heap.size w x → (a = none ∧ s.length = 0 ∧ ca = 0 ∧ byteL s = []) ∨ ∃ ad, a = some ad ∧ (byteL s).length = s.length * 1 ∧ ∀ j u, (byteL s)[j]? = some u → x.cell? (ad.add j) = some u) := fun x hx => txt_src (ha.below hx) hna
  have HSB : Hid (∀ x, Below w.heap.size w x → (b = none ∧ t.length = 0 ∧ cb = 0 ∧ byteL t = []) ∨ ∃ ad, b = some ad ∧ (byteL t).length = t.length * 1 ∧ ∀ j u, (byteL t)[j]? = some u → x.cell? (ad.add j) = some u) := fun x hx => txt_src (hb.below hx) hnb
  have HO1 := hide (byteL_one s)
  have HO2 := hide (byteL_one t)
  have HBT := hide (byteL_two s t)
  generalize readP Rs.zero 0 [] s = A at *
  generalize readP Rs.zero 0 [] t = B at *
  generalize readP Rs.zero 0 [] (s ++ 10 :: t) = C at *
  obtain ⟨qa, pa, l⟩ := A
  obtain ⟨qb, pb, m⟩ := B
  obtain ⟨qc, pc, k⟩ := C
  simp only at hl1 hl2 CRa CRb CRc HJ
  have hl1' : l.length ≤ 3001 := by omega
  have hl2' : m.length ≤ 3001 := by omega
  clear hl1 hl2 hz ha hb hna hnb
  have hs1 : ¬ (3000 : Int) < s.length := by omega
  have ht1 : ¬ (3000 : Int) < t.length := by omega
  by_cases h1 : qa = 0
  · subst h1
    have HJ2 := hide (HJ.out rfl)
    clear HJ
    by_cases h2 : qb = 0
    · subst h2
      have hk : k = l ++ m := by have := HJ2.out; simp [ansBehind] at this; exact this.2.2
      have hq : qc = 0 := by have := HJ2.out; simp [ansBehind] at this; exact this.1
      have hp : pc = 0 := by have := HJ2.out; simp [ansBehind] at this; exact this.2.1
      subst hq hp
      have HK := hide hk
      have hkl : (k.length : Int) ≤ 6002 := by rw [hk, List.length_append]; omega
      clear hk HJ2
      obtain ⟨i3, hi3, hy0, hy1, hy2⟩ := info_parts Try.info33
      have hd0 : (str [48]).size = 1 := rfl
      have HSM : Hid (∀ x g n c, Below w.heap.size w x → ∀ a3 c3, OSt w.heap.size x (.slice a3 k.length c3) k → n = l.length + m.length → OSt w.heap.size x (.slice (some ⟨g, 0, none⟩) n c) (l ++ m) → Calls Try.prog 9 #[.slice a3 k.length c3, .slice (some ⟨g, 0, none⟩) n c] x fun e w' => e = .returned (.bool true) ∧ Below w.heap.size w w') := fun x g n c hx a3 c3 h1 hn h2 => by
        obtain ⟨a4, c4, e4, q1, q2, _⟩ := h1.steps
        obtain ⟨a5, c5, e5, q3, q4, _⟩ := h2.steps
        simp at e4
        obtain ⟨rfl, rfl⟩ := e4
        have hn' : n = (l ++ m).length := by rw [List.length_append]; exact hn
        subst hn'
        simp at e5
        obtain ⟨rfl, rfl⟩ := e5
        refine (refSame_any a3 _ c3 c k (l ++ m) x q1 q3 q2 q4).mono ?_
        rintro e w' ⟨r1, n1, r2⟩
        refine ⟨by rw [r1, HK.out, sameB_self], by rw [r2]; exact below_drewN hx⟩
      go_enter Try.func5, Try.ntmps5
      go_wp2_with (first
        | (go_at_call_of 7 (Value.slice a s.length ca); refine (unhide CRa).mono ?_; rintro e w1 ⟨a1, c1, rfl, HO3, HB3⟩)
        | (go_at_call_of 7 (Value.slice b t.length cb); refine (unhide CRb _ HB3.out).mono ?_; rintro e w2 ⟨a2, c2, rfl, HO4, HB4⟩; have HB5 := hide (HB3.out.trans (HB4.out.mono HB3.out.size)); have hsz2 := HB5.out.size)
        | (at_builtin; refine wpList_append_any rfl (.tmp 36) (.tmp 37) 22 rfl w2.heap.size 5 i0 (.int .u8 0) 1 1 Try.underlying22 hi hz0 hz1 hz2 rfl (by decide) (.slice (some ⟨w2.heap.size, 0, none⟩) 0 0) 0 [] rfl (lit0 w2) (by simp) a s.length ca (byteL s) rfl (HSA.out _ (HB5.out.alloc hsz2 _)) HO1.out (by unfold maxLen; omega) (by omega) (by simp) ?_; intro g1 d1 w3 ho1 hgr1 hat1 hlt1; simp only [Nat.zero_add, List.nil_append] at ho1; have hbl1 := (below_alloc w2 (.cells #[] 5)).grown hgr1 (by simp) (fun k e => by simp [Value.ownBlock] at e; omega); have HW3 := hide hbl1; have HOW3 := hide ho1; have hsz3 := hbl1.size; clear hgr1 hat1 ho1 hbl1)
        | (at_builtin; refine wpList_append_any rfl (.tmp 38) (.tmp 39) 22 rfl w2.heap.size 5 i0 (.int .u8 0) 1 1 Try.underlying22 hi hz0 hz1 hz2 rfl (by decide) (.slice (some ⟨g1, 0, none⟩) s.length d1) s.length (byteL s) (by simp [Act.eval, Act.put]) (HOW3.out.alloc _) (by simp) (some ⟨w3.heap.size, 0, none⟩) 1 1 [.int .u8 10] rfl (ten_src w3) (by simp [Value.oneCell']) (by unfold maxLen; omega) (by omega) (by simp; omega) ?_; intro g2 d2 w4 ho2 hgr2 hat2 hlt2; have hbl2 := (HW3.out.alloc hsz3 (.cells #[.int .u8 10] 5)).grown hgr2 (by simp; omega) (fun k e => by have := (HOW3.out.lt k e).1; omega); have HW4 := hide hbl2; have HOW4 := hide ho2; have hsz4 := hbl2.size; clear hgr2 hat2 ho2 hbl2)
        | (at_builtin; refine wpList_append_any rfl (.tmp 40) (.tmp 41) 22 rfl w2.heap.size 5 i0 (.int .u8 0) 1 1 Try.underlying22 hi hz0 hz1 hz2 rfl (by decide) (.slice (some ⟨g2, 0, none⟩) (s.length + 1) d2) (s.length + 1) (byteL s ++ [.int .u8 10]) (by simp [Act.eval, Act.put]) HOW4.out (by simp) b t.length cb (byteL t) rfl (HSB.out _ (HB5.out.trans (HW4.out.mono hsz2))) HO2.out (by unfold maxLen; omega) (by omega) hsz4 ?_; intro g3 d3 w5 ho3 hgr3 hat3 hlt3; have hbl3 := HW4.out.grown hgr3 hsz4 (fun k e => by have := (HOW4.out.lt k e).1; omega); rw [HBT.out] at ho3; have HW5 := hide hbl3; have HOW5 := hide ho3; have hsz5 := hbl3.size; clear hgr3 hat3 ho3 hbl3)
        | (go_at_call 7; refine (unhide CRc _ _ _ _ _ (HB5.out.trans (HW5.out.mono hsz2)) HOW5.out).mono ?_; rintro e w6 ⟨a3, c3, rfl, HO5, HB6⟩; have HB7 := hide (HB5.out.trans ((HW5.out.trans (HB6.out.mono hsz5)).mono hsz2)); have hl16 := HO3.out.below (HB4.out.trans ((HW5.out.trans (HB6.out.mono hsz5)).mono HB4.out.size)); have hm26 := HO4.out.below (HW5.out.trans (HB6.out.mono hsz5)); obtain ⟨a1', c1', xl, e1, hxl, hel, honel, hsrcl⟩ := steps_src2 hl16; simp at e1; obtain ⟨f1, f2⟩ := e1; subst f1; subst f2; obtain ⟨a2', c2', xm, e2, hxm, hem, honem, hsrcm⟩ := steps_src2 hm26; simp at e2; obtain ⟨f1, f2⟩ := e2; subst f1; subst f2; have HSL := hide hsrcl; have HSMM := hide hsrcm; have HNL := hide honel; have HNM := hide honem; have HXL := hide hxl; have HEL := hide hel; have HEM := hide hem; clear hl16 hm26 hxl hel honel hsrcl hxm hem honem hsrcm)
        | (at_builtin; refine wpList_append_any_on rfl (.tmp 70) (.tmp 71) 24 rfl w6.heap.size 33 i3 (.agg #[.bool false, .slice none 0 0]) 2 32 Try.underlying24 hi3 hy0 hy1 hy2 rfl (by decide) (.slice (some ⟨w6.heap.size, 0, none⟩) 0 0) 0 [] rfl (lit33 w6) (by simp) a1 l.length c1 xl rfl (HSL.out _ (below_alloc w6 _)) HNL.out (by unfold maxLen; omega) (by omega) (by simp) ?_; intro g7 d7 w7 ho7 hgr7 hat7 hlt7; simp only [Nat.zero_add, List.nil_append] at ho7; have hbl7 := (below_alloc w6 (.cells #[] 33)).grown hgr7 (by simp) (fun k e => by simp [Value.ownBlock] at e; omega); have HW7 := hide hbl7; have HOW7 := hide ho7; have hsz7 := hbl7.size; clear hgr7 hat7 ho7 hbl7)
        | (at_builtin; refine wpList_append_any_on rfl (.tmp 72) (.tmp 73) 24 rfl w6.heap.size 33 i3 (.agg #[.bool false, .slice none 0 0]) 2 32 Try.underlying24 hi3 hy0 hy1 hy2 rfl (by decide) (.slice (some ⟨g7, 0, none⟩) l.length d7) l.length xl (by simp [Act.eval, Act.put]) HOW7.out (by simp) a2 m.length c2 xm rfl (HSMM.out _ HW7.out) HNM.out (by unfold maxLen; omega) (by omega) hsz7 ?_; intro g8 d8 w8 ho8 hgr8 hat8 hlt8; have hbl8 := HW7.out.grown hgr8 hsz7 (fun k e => by have := (HOW7.out.lt k e).1; omega); have HB8 := hide (HB7.out.trans (hbl8.mono HB7.out.size)); have CS := hide (HSM.out w8 g8 _ d8 HB8.out a3 c3 (HO5.out.below hbl8) rfl (ost_join HXL.out HEL.out HEM.out hbl8 HB7.out.size ho8)); clear hgr8 hat8 ho8 hbl8)
        | (go_at_call 9; refine (unhide CS).mono ?_; rintro e w9 ⟨rfl, hb9⟩)
        | (go_at_call 13; refine (digits0 _).mono ?_; rintro e w0 ⟨rfl, hw0⟩; subst w0)
        | (go_at_call 6; refine (unhide CA _ hb9).mono ?_; rintro e w10 ⟨rfl, hb10⟩))
      go_ret
      exact ⟨rfl, hb10⟩
    · have hq : qc = qb := by have := HJ2.out; simp [ansBehind, h2] at this; exact this.1
      have hp : pc = s.length + 1 + pb := by have := HJ2.out; simp [ansBehind, h2] at this; exact this.2.1
      have hne : (qb != 0) = true := by simpa using h2
      have hge : (s.length : Int) ≤ pc := by omega
      subst hq
      clear h2 hp HJ2
      go_enter Try.func5, Try.ntmps5
      go_wp2_with (first
        | (go_at_call_of 7 (Value.slice a s.length ca); refine (unhide CRa).mono ?_; rintro e w1 ⟨a1, c1, rfl, HO3, HB3⟩)
        | (go_at_call_of 7 (Value.slice b t.length cb); refine (unhide CRb _ HB3.out).mono ?_; rintro e w2 ⟨a2, c2, rfl, HO4, HB4⟩; have HB5 := hide (HB3.out.trans (HB4.out.mono HB3.out.size)); have hsz2 := HB5.out.size)
        | (at_builtin; refine wpList_append_any rfl (.tmp 36) (.tmp 37) 22 rfl w2.heap.size 5 i0 (.int .u8 0) 1 1 Try.underlying22 hi hz0 hz1 hz2 rfl (by decide) (.slice (some ⟨w2.heap.size, 0, none⟩) 0 0) 0 [] rfl (lit0 w2) (by simp) a s.length ca (byteL s) rfl (HSA.out _ (HB5.out.alloc hsz2 _)) HO1.out (by unfold maxLen; omega) (by omega) (by simp) ?_; intro g1 d1 w3 ho1 hgr1 hat1 hlt1; simp only [Nat.zero_add, List.nil_append] at ho1; have hbl1 := (below_alloc w2 (.cells #[] 5)).grown hgr1 (by simp) (fun k e => by simp [Value.ownBlock] at e; omega); have HW3 := hide hbl1; have HOW3 := hide ho1; have hsz3 := hbl1.size; clear hgr1 hat1 ho1 hbl1)
        | (at_builtin; refine wpList_append_any rfl (.tmp 38) (.tmp 39) 22 rfl w2.heap.size 5 i0 (.int .u8 0) 1 1 Try.underlying22 hi hz0 hz1 hz2 rfl (by decide) (.slice (some ⟨g1, 0, none⟩) s.length d1) s.length (byteL s) (by simp [Act.eval, Act.put]) (HOW3.out.alloc _) (by simp) (some ⟨w3.heap.size, 0, none⟩) 1 1 [.int .u8 10] rfl (ten_src w3) (by simp [Value.oneCell']) (by unfold maxLen; omega) (by omega) (by simp; omega) ?_; intro g2 d2 w4 ho2 hgr2 hat2 hlt2; have hbl2 := (HW3.out.alloc hsz3 (.cells #[.int .u8 10] 5)).grown hgr2 (by simp; omega) (fun k e => by have := (HOW3.out.lt k e).1; omega); have HW4 := hide hbl2; have HOW4 := hide ho2; have hsz4 := hbl2.size; clear hgr2 hat2 ho2 hbl2)
        | (at_builtin; refine wpList_append_any rfl (.tmp 40) (.tmp 41) 22 rfl w2.heap.size 5 i0 (.int .u8 0) 1 1 Try.underlying22 hi hz0 hz1 hz2 rfl (by decide) (.slice (some ⟨g2, 0, none⟩) (s.length + 1) d2) (s.length + 1) (byteL s ++ [.int .u8 10]) (by simp [Act.eval, Act.put]) HOW4.out (by simp) b t.length cb (byteL t) rfl (HSB.out _ (HB5.out.trans (HW4.out.mono hsz2))) HO2.out (by unfold maxLen; omega) (by omega) hsz4 ?_; intro g3 d3 w5 ho3 hgr3 hat3 hlt3; have hbl3 := HW4.out.grown hgr3 hsz4 (fun k e => by have := (HOW4.out.lt k e).1; omega); rw [HBT.out] at ho3; have HW5 := hide hbl3; have HOW5 := hide ho3; have hsz5 := hbl3.size; clear hgr3 hat3 ho3 hbl3)
        | (go_at_call 7; refine (unhide CRc _ _ _ _ _ (HB5.out.trans (HW5.out.mono hsz2)) HOW5.out).mono ?_; rintro e w6 ⟨a3, c3, rfl, HO5, HB6⟩; have HB7 := hide (HB5.out.trans ((HW5.out.trans (HB6.out.mono hsz5)).mono hsz2)))
        | (go_at_call 6; refine (unhide CA _ HB7.out).mono ?_; rintro e w7 ⟨rfl, hb7⟩))
      go_ret
      exact ⟨rfl, hb7⟩
  · have hne : (qa != 0) = true := by simpa using h1
    clear h1 HJ
    go_enter Try.func5, Try.ntmps5
    go_wp2_with (first
      | (go_at_call_of 7 (Value.slice a s.length ca); refine (unhide CRa).mono ?_; rintro e w1 ⟨a1, c1, rfl, HO3, HB3⟩)
      | (go_at_call_of 7 (Value.slice b t.length cb); refine (unhide CRb _ HB3.out).mono ?_; rintro e w2 ⟨a2, c2, rfl, HO4, HB4⟩; have HB5 := hide (HB3.out.trans (HB4.out.mono HB3.out.size)); have hsz2 := HB5.out.size)
      | (at_builtin; refine wpList_append_any rfl (.tmp 36) (.tmp 37) 22 rfl w2.heap.size 5 i0 (.int .u8 0) 1 1 Try.underlying22 hi hz0 hz1 hz2 rfl (by decide) (.slice (some ⟨w2.heap.size, 0, none⟩) 0 0) 0 [] rfl (lit0 w2) (by simp) a s.length ca (byteL s) rfl (HSA.out _ (HB5.out.alloc hsz2 _)) HO1.out (by unfold maxLen; omega) (by omega) (by simp) ?_; intro g1 d1 w3 ho1 hgr1 hat1 hlt1; simp only [Nat.zero_add, List.nil_append] at ho1; have hbl1 := (below_alloc w2 (.cells #[] 5)).grown hgr1 (by simp) (fun k e => by simp [Value.ownBlock] at e; omega); have HW3 := hide hbl1; have HOW3 := hide ho1; have hsz3 := hbl1.size; clear hgr1 hat1 ho1 hbl1)
      | (at_builtin; refine wpList_append_any rfl (.tmp 38) (.tmp 39) 22 rfl w2.heap.size 5 i0 (.int .u8 0) 1 1 Try.underlying22 hi hz0 hz1 hz2 rfl (by decide) (.slice (some ⟨g1, 0, none⟩) s.length d1) s.length (byteL s) (by simp [Act.eval, Act.put]) (HOW3.out.alloc _) (by simp) (some ⟨w3.heap.size, 0, none⟩) 1 1 [.int .u8 10] rfl (ten_src w3) (by simp [Value.oneCell']) (by unfold maxLen; omega) (by omega) (by simp; omega) ?_; intro g2 d2 w4 ho2 hgr2 hat2 hlt2; have hbl2 := (HW3.out.alloc hsz3 (.cells #[.int .u8 10] 5)).grown hgr2 (by simp; omega) (fun k e => by have := (HOW3.out.lt k e).1; omega); have HW4 := hide hbl2; have HOW4 := hide ho2; have hsz4 := hbl2.size; clear hgr2 hat2 ho2 hbl2)
      | (at_builtin; refine wpList_append_any rfl (.tmp 40) (.tmp 41) 22 rfl w2.heap.size 5 i0 (.int .u8 0) 1 1 Try.underlying22 hi hz0 hz1 hz2 rfl (by decide) (.slice (some ⟨g2, 0, none⟩) (s.length + 1) d2) (s.length + 1) (byteL s ++ [.int .u8 10]) (by simp [Act.eval, Act.put]) HOW4.out (by simp) b t.length cb (byteL t) rfl (HSB.out _ (HB5.out.trans (HW4.out.mono hsz2))) HO2.out (by unfold maxLen; omega) (by omega) hsz4 ?_; intro g3 d3 w5 ho3 hgr3 hat3 hlt3; have hbl3 := HW4.out.grown hgr3 hsz4 (fun k e => by have := (HOW4.out.lt k e).1; omega); rw [HBT.out] at ho3; have HW5 := hide hbl3; have HOW5 := hide ho3; have hsz5 := hbl3.size; clear hgr3 hat3 ho3 hbl3)
      | (go_at_call 7; refine (unhide CRc _ _ _ _ _ (HB5.out.trans (HW5.out.mono hsz2)) HOW5.out).mono ?_; rintro e w6 ⟨a3, c3, rfl, HO5, HB6⟩; have HB7 := hide (HB5.out.trans ((HW5.out.trans (HB6.out.mono hsz5)).mono hsz2)))
      | (go_at_call 6; refine (unhide CA _ HB7.out).mono ?_; rintro e w7 ⟨rfl, hb7⟩))
    go_ret
    exact ⟨rfl, hb7⟩

set_option maxHeartbeats 1000000 in
theorem joins_any (a b : Option Addr) (ca cb : Nat) (s t : List UInt8) (w : World) (ha : Txt w.heap.size w a s) (hb : Txt w.heap.size w b t) (hs : s.length ≤ maxLen) (ht : t.length ≤ maxLen) (hca : s.length ≤ ca) (hcb : t.length ≤ cb) (hna : a = none → s = [] ∧ ca = 0) (hnb : b = none → t = [] ∧ cb = 0) :
    Calls Try.prog 5 #[.slice a s.length ca, .slice b t.length cb] w fun e w' => e = .returned (.bool true) ∧ Below w.heap.size w w' := by
  by_cases h1 : s.length ≤ 3000
  · by_cases h2 : t.length ≤ 3000
    · exact joins_light a b ca cb s t w ha hb h1 h2 hca hcb hna hnb
    · have CA0 := hide (awake_any w)
      unfold maxLen at hs ht
      have h1' : ¬ (3000 : Int) < s.length := by omega
      have h2' : (3000 : Int) < t.length := by omega
      clear ha hb hna hnb
      go_enter Try.func5, Try.ntmps5
      go_wp2_with (go_at_call 6; refine (unhide CA0).mono ?_; rintro e w1 ⟨rfl, hb1⟩)
      go_ret
      exact ⟨rfl, hb1⟩
  · have CA0 := hide (awake_any w)
    unfold maxLen at hs ht
    have h1' : (3000 : Int) < s.length := by omega
    clear ha hb hna hnb
    go_enter Try.func5, Try.ntmps5
    go_wp2_with (go_at_call 6; refine (unhide CA0).mono ?_; rintro e w1 ⟨rfl, hb1⟩)
    go_ret
    exact ⟨rfl, hb1⟩

end Go.Proofs.Ytjjeoodgejnplaa
