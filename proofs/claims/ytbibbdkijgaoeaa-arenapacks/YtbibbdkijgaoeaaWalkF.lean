/- Contracts: a clause is added to an arena. -/
import Derived.Test.YtbibbdkijgaoeaaWalkE
import Derived.Laws.AppendOwnNone
import Derived.Maps.AppendAt
import Derived.Deep.AppendLies
set_option linter.unusedVariables false
set_option linter.unusedSimpArgs false
namespace Go.Proofs.Ytbibbdkijgaoeaa
open Go.RowKit Go.Maps

/-- All blocks but those named stayed. -/
structure Kp (S : Nat → Prop) (w w' : World) : Prop where
  os : w'.os = w.os
  tape : w'.tape = w.tape
  output : w'.output = w.output
  size : w.heap.size ≤ w'.heap.size
  block : ∀ k, k < w.heap.size → ¬ S k → w'.heap[k]? = w.heap[k]?

theorem Kp.of_below {S : Nat → Prop} {w w' : World} (h : Below w.heap.size w w') : Kp S w w' := ⟨h.os, h.tape, h.output, h.size, fun k hk _ => h.block k hk⟩
theorem Kp.trans {S : Nat → Prop} {a b c : World} (h : Kp S a b) (k : Kp S b c) : Kp S a c :=
  ⟨k.os.trans h.os, k.tape.trans h.tape, k.output.trans h.output, Nat.le_trans h.size k.size, fun i hi hs => (k.block i (Nat.lt_of_lt_of_le hi h.size) hs).trans (h.block i hi hs)⟩
theorem Kp.grown {S : Nat → Prop} {a w w' : World} {row : Option Nat} (h : Kp S a w) (hg : w.grownBy w' row) (hr : ∀ k, k < a.heap.size → row = some k → S k) : Kp S a w' :=
  ⟨hg.os.trans h.os, hg.tape.trans h.tape, hg.output.trans h.output, Nat.le_trans h.size hg.size, fun i hi hs => (hg.block i (Nat.lt_of_lt_of_le hi h.size) (fun e => hs (hr i hi e.symm))).trans (h.block i hi hs)⟩
theorem Kp.alloc {S : Nat → Prop} {a w : World} (h : Kp S a w) (o : Obj) : Kp S a (w.alloc o) := h.grown (World.grownBy_alloc w o none) (fun k _ e => by cases e)
theorem Kp.setCell {S : Nat → Prop} {a w : World} (h : Kp S a w) {p : Addr} (hp : S p.block) (u : Value) : Kp S a (w.setCell p u) :=
  ⟨h.os, h.tape, h.output, by simpa [World.setCell] using h.size, fun i hi hs => (Below.heap_setCell _ _ _ _ (fun e => hs (by rw [e]; exact hp))).trans (h.block i hi hs)⟩
theorem Kp.drewN {S : Nat → Prop} {a w : World} (h : Kp S a w) (n : Nat) : Kp S a (w.drewN n) := ⟨h.os, h.tape, h.output, h.size, h.block⟩

theorem pls_put {w' : World} {M : Nat} {ps : List Int} {D : DataW Unit} {p : Int} (hT : Tidy D) (hhas : ∀ k : Int, Maps.has D (.int .i64 k) = decide (k ∈ ps)) (hsize : Maps.size D = ps.length) (hp : p ∉ ps)
    (h : w'.ownsMap Try.prog 3 unitElem M (ps.length + 1) (D.put (.int .i64 p) (.agg []))) {qs : List Int} (hq : qs.length = ps.length + 1) (hm : ∀ k, k ∈ qs ↔ k ∈ ps ∨ k = p) : Pls w' M qs := by
  refine ⟨_, hq ▸ h, fun k => ?_, ?_⟩
  · by_cases e : k = p
    · subst e
      rw [has_put_same hT.isMap (by simp [WideAt.IsKeyLit])]
      exact (decide_eq_true ((hm _).2 (.inr rfl))).symm
    · rw [has_put_other (by intro h; exact e (by injection h)), hhas]
      simp [hm, e]
  · rw [size_put hT, hhas, decide_eq_false hp, hsize, hq]; simp

theorem Try.block_eq {w w' : World} {B : Nat} (h : w'.heap[B]? = w.heap[B]?) (i : Nat) : w'.cell? ⟨B, i, none⟩ = w.cell? ⟨B, i, none⟩ ∧ w'.frozen? ⟨B, i, none⟩ = w.frozen? ⟨B, i, none⟩ :=
  ⟨World.cell?_of_block h, World.frozen?_of_block h⟩

theorem row_src {w : World} {ad : Addr} {c : List Int} (hr : Row w (some ad) c) : ∀ j u, (c.map (Value.int .i64))[j]? = some u → w.cell? (ad.add j) = some u := by
  intro j u hu
  rw [List.getElem?_map] at hu
  obtain ⟨x, hx, rfl⟩ := Option.map_eq_some_iff.1 hu
  obtain ⟨b, off, e, hb, hc⟩ := hr.get hx
  simp at e; subst e
  rw [Addr.add_lit]; exact hc

set_option maxHeartbeats 800000 in
theorem add_no (base : Nat) (w : World) (B M : Nat) (rv : Value) (L : List Itm) (a : Option Addr) (cap : Nat) (c : List Int) (hr : Row w a c) (hc : c.length ≤ maxLen) (hno : mayB c 1048576 = false) :
    Calls Try.prog 17 #[.pointer (some ⟨B, 0, none⟩), .slice a c.length cap] w fun e w' => e = .returned (.tuple #[.int .i64 0, .int .i64 1]) ∧ w' = w := by
  have G := hide (check_any a cap c w hr hc)
  rw [hno] at G
  simp only [errI, Bool.false_eq_true, if_false] at G
  go_enter Try.func17, Try.ntmps17
  go_wp2_with (go_at_call 34; refine (unhide G).mono ?_; rintro e w0 ⟨rfl, hw0⟩; subst w0)
  go_ret2
  exact ⟨rfl, rfl⟩

theorem lit_two (w : World) (x y : Value) (t : TypeId) : ∀ j u, [x, y][j]? = some u → (w.alloc (.cells #[x, y] t)).cell? ((⟨w.heap.size, 0, none⟩ : Addr).add j) = some u :=
  World.news_of_block (w := w.alloc (.cells #[x, y] t)) (heap_alloc_new w _)

theorem hd_cells {w : World} {B : Nat} {p q r s : Value} {t : TypeId} (h : w.heap[B]? = some (.cells #[p, q, r, s] t (0, 0))) :
    w.cell? ⟨B, 0, none⟩ = some p ∧ w.cell? ⟨B, 1, none⟩ = some q ∧ w.cell? ⟨B, 2, none⟩ = some r ∧ w.cell? ⟨B, 3, none⟩ = some s ∧ w.frozen? ⟨B, 1, none⟩ = false ∧ w.frozen? ⟨B, 3, none⟩ = false := by
  refine ⟨?_, ?_, ?_, ?_, ?_, ?_⟩ <;> simp [World.cell?, World.frozen?, h]

theorem hd_set {w : World} {B i : Nat} {cs : Array Value} {v : Value} {t : TypeId} (h : w.heap[B]? = some (.cells cs t (0, 0))) : (w.setCell ⟨B, i, none⟩ v).heap[B]? = some (.cells (cs.setIfInBounds i v) t (0, 0)) := by
  have hlt := lt_of_block h
  have h' : w.heap[B] = .cells cs t (0, 0) := by simpa [Array.getElem?_eq_getElem hlt] using h
  show (w.heap.modify B _)[B]? = _
  rw [Array.getElem?_eq_getElem (by simpa using hlt), Array.getElem_modify_self, h']
  rfl

theorem ownsMap_same {w w' : World} {M n : Nat} {D : DataW Unit} (h : w.ownsMap Try.prog 3 unitElem M n D) (hk : w'.heap[M]? = w.heap[M]?) : w'.ownsMap Try.prog 3 unitElem M n D := by
  obtain ⟨es, clock, hb, F⟩ := h
  exact ⟨es, clock, by rw [hk]; exact hb, F⟩

/-- Behind the first append: the struct and the map are as they were. -/
theorem add1 {base : Nat} {w w1 : World} {B M : Nat} {rv : Value} {L : List Itm} (hA : Arn base w B M rv L) {o : Obj} (hg : (w.alloc o).grownBy w1 rv.ownBlock) {g1 : Nat} (hat : rv.ownBlock = some g1 ∨ g1 = w.heap.size + 1) :
    w1.heap[B]? = some (.cells (headOf B M rv L) 68 (0, 0)) ∧ w1.heap[M]? = w.heap[M]? ∧ Kp (Mine B M rv) w w1 ∧ g1 ≠ B ∧ g1 ≠ M := by
  have hap := hA.apart
  have hB := hA.ltB
  have hM := hA.pls.lt
  refine ⟨?_, ?_, (Kp.of_below ((Below.refl _ _).alloc (Nat.le_refl _) o)).grown hg (fun k _ e => .inr (.inr e)), ?_, ?_⟩
  · rw [hg.block B (by simp; omega) (fun e => hap.2.1 e.symm), heap_alloc_old w o hB]; exact hA.head
  · rw [hg.block M (by simp; omega) (fun e => hap.2.2 e.symm), heap_alloc_old w o hM]
  · rcases hat with h | h
    · rintro rfl; exact hap.2.1 h
    · omega
  · rcases hat with h | h
    · rintro rfl; exact hap.2.2 h
    · omega

/-- Behind both appends, both stores and the map's. -/
theorem add_end {base : Nat} {w w2 w3 : World} {B M : Nat} {rv rv2 : Value} {L : List Itm} {c : List Int} (hA : Arn base w B M rv L)
    {D : DataW Unit} (hT : Tidy D) (hhas : ∀ k : Int, Maps.has D (.int .i64 k) = decide (k ∈ plF 0 L)) (hsize : Maps.size D = (plF 0 L).length)
    (hd : w2.heap[B]? = some (.cells (headOf B M rv2 L) 68 (0, 0))) (hK : Kp (Mine B M rv) w w2)
    (hown : w2.ownsRow base 3 1 rv2 (words L + 2 + c.length) ((rowOf L).map (Value.int .i64) ++ [.int .i64 0, .int .i64 c.length] ++ c.map (Value.int .i64)))
    (hne : rv2.ownBlock ≠ some M)
    (hm : w3.ownsMap Try.prog 3 unitElem M ((plF 0 L).length + 1) (D.put (.int .i64 (words L)) (.agg []))) (hg : w2.grownBy w3 (some M)) (hat : ∀ k, rv2.ownBlock = some k → rv.ownBlock = some k ∨ w.heap.size ≤ k) :
    ∃ rv', Arn base w3 B M rv' (L ++ [(c, false)]) ∧ Kp (Mine B M rv) w w3 ∧ ∀ k, rv'.ownBlock = some k → rv.ownBlock = some k ∨ w.heap.size ≤ k := by
  have hap := hA.apart
  have hB : B < w2.heap.size := lt_of_block hd
  refine ⟨rv2, ⟨hA.lB, hA.lM, ?_, ?_, ?_⟩, hK.grown hg (fun k _ e => by cases e; exact .inr (.inl rfl)), hat⟩
  · rw [hg.block B hB (fun e => hap.1 (by injection e)), hd]; simp [headOf, waste_add]
  · have h3 := hown.kept hg (.inr hne)
    rw [words_add, rowOf_snoc]
    simpa using h3
  · refine pls_put (ps := plF 0 L) (p := words L) hT hhas hsize (not_place_end L) hm (by rw [plF_add]; simp) (fun k => by rw [plF_add]; simp)

theorem size_setCell (w : World) (a : Addr) (v : Value) : (w.setCell a v).heap.size = w.heap.size := by simp [World.setCell]

/-- Behind the second append. -/
theorem add2 {base : Nat} {w w1 w2 : World} {B M : Nat} {rv rv1 v2 : Value} {L : List Itm} {g1 : Nat} (hA : Arn base w B M rv L) (hd1 : w1.heap[B]? = some (.cells (headOf B M rv L) 68 (0, 0))) (hM1 : w1.heap[M]? = w.heap[M]?) (K1 : Kp (Mine B M rv) w w1)
    (hne1 : g1 ≠ B) (hnm1 : g1 ≠ M) (hat1 : rv.ownBlock = some g1 ∨ g1 = w.heap.size + 1) (hg : (w1.setCell ⟨B, 1, none⟩ rv1).grownBy w2 (some g1)) (hat2 : v2.ownBlock = some g1 ∨ v2.ownBlock = some (w1.setCell ⟨B, 1, none⟩ rv1).heap.size) :
    w2.heap[B]? = some (.cells (headOf B M rv1 L) 68 (0, 0)) ∧ w2.heap[M]? = w.heap[M]? ∧ Kp (Mine B M rv) w w2 ∧ v2.ownBlock ≠ some B ∧ v2.ownBlock ≠ some M ∧ (∀ k, v2.ownBlock = some k → rv.ownBlock = some k ∨ w.heap.size ≤ k) := by
  have hap := hA.apart
  have hB := hA.ltB
  have hM := hA.pls.lt
  have hsz := K1.size
  have hs1 : (w1.setCell ⟨B, 1, none⟩ rv1).heap.size = w1.heap.size := size_setCell _ _ _
  have hk : ∀ k, v2.ownBlock = some k → k = g1 ∨ k = w1.heap.size := by
    intro k hk
    rcases hat2 with h | h
    · rw [h] at hk; injection hk with hk; exact .inl hk.symm
    · rw [h, hs1] at hk; injection hk with hk; exact .inr hk.symm
  refine ⟨?_, ?_, ?_, ?_, ?_, ?_⟩
  · rw [hg.block B (by omega) (fun e => hne1 (by injection e with e; exact e.symm)), hd_set hd1]; rfl
  · rw [hg.block M (by omega) (fun e => hnm1 (by injection e with e; exact e.symm)), Below.heap_setCell _ _ _ _ (fun e => hap.1 e.symm), hM1]
  · refine (K1.setCell (.inl rfl) _).grown hg (fun k hk e => ?_)
    injection e with e
    subst e
    rcases hat1 with h | h
    · exact .inr (.inr h)
    · omega
  · intro e; rcases hk _ e with h | h
    · exact hne1 h.symm
    · omega
  · intro e; rcases hk _ e with h | h
    · exact hnm1 h.symm
    · omega
  · intro k e; rcases hk _ e with h | h
    · subst h; rcases hat1 with h | h
      · exact .inl h
      · exact .inr (by omega)
    · exact .inr (by omega)

theorem wpList_append_none' {P : Program} {w : World} {ops : Array Oper} {rest : List Oper} {o : Oper} {a : Act} {Q : Exit → Act → World → Prop} (hgd : o.guard = none) (s x : Operand) (t : TypeId)
    (ho : o.op = .call { callee := .builtin .append, args := #[s, x], argTypes := #[t, t] })
    (base : Nat) (e : TypeId) (i : TypeInfo) (size : Nat) (ht : P.underlying t = some (.slice e)) (hi : P.info? e = some i)
    (v : Value) (n : Nat) (xs : List Value) (hs : a.eval s = v) (hown : w.ownsRow base e size v n xs) (m : Nat) (hm : m = 0) (hx : a.eval x = .slice none m 0)
    (h : wpList P ops Q rest (a.put o.dst v) w) : wpList P ops Q (o :: rest) a w := by
  subst hm; exact wpList_append_own_none hgd s x t ho base e i size ht hi v n xs hs hown hx h

theorem Row.kp {S : Nat → Prop} {w w' : World} {a : Option Addr} {c : List Int} (h : Row w a c) (hK : Kp S w w') (hs : ∀ b off, a = some ⟨b, off, none⟩ → 0 < c.length → ¬ S b) : Row w' a c := by
  intro i hi
  obtain ⟨b, off, e, hb, hc⟩ := h i hi
  exact ⟨b, off, e, Nat.lt_of_lt_of_le hb hK.size, by rw [World.cell?_of_block (hK.block b hb (hs b off e (by omega)))]; exact hc⟩

set_option maxHeartbeats 1600000 in
theorem add_yes (base : Nat) (w : World) (B M : Nat) (rv : Value) (L : List Itm) (a : Option Addr) (cap : Nat) (c : List Int) (hA : Arn base w B M rv L) (hl : words L ≤ 20000) (hr : Row w a c) (hc : c.length ≤ 20000) (hcap : a = none → cap = 0) (hmay : mayB c 1048576 = true)
    (hsep : ∀ b off, a = some ⟨b, off, none⟩ → 0 < c.length → ¬ Mine B M rv b) (hbase : base ≤ w.heap.size) :
    Calls Try.prog 17 #[.pointer (some ⟨B, 0, none⟩), .slice a c.length cap] w fun e w' => e = .returned (.tuple #[.int .i64 (words L), .int .i64 0]) ∧
      ∃ rv', Arn base w' B M rv' (L ++ [(c, false)]) ∧ Kp (Mine B M rv) w w' ∧ ∀ k, rv'.ownBlock = some k → rv.ownBlock = some k ∨ w.heap.size ≤ k := by
  obtain ⟨i0, hi, hz0, hz1, hz2⟩ := info_parts Try.info3
  have G := hide (check_any a cap c w hr (by unfold maxLen; omega))
  rw [hmay] at G
  simp only [errI, if_true] at G
  have G2 := hide (given_any base w B M rv L hA)
  have c1 := hA.c1
  have hltB := hA.ltB
  obtain ⟨D, hown, hhas, hsize⟩ := hA.pls
  have HH := hide hhas
  have HS := hide hsize
  clear hhas hsize
  have hpl := plF_len_le L 0
  have hlw := len_le_words L
  obtain ⟨ra, rcap, hrv, hrr, hrc, hrm⟩ := hA.rv
  have HA := hide hA
  clear hrr hA
  subst hrv
  have hw4 : ¬ (4194304 : Int) < words L + 2 + c.length := by omega
  cases a with
  | none =>
    obtain rfl := hcap rfl
    have HC : Hid (c = []) := by
      cases c with
      | nil => exact rfl
      | cons x c => obtain ⟨b, off, e, _⟩ := hr 0 (by simp); cases e
    clear hcap hr hsep hmay
    go_enter Try.func17, Try.ntmps17
    go_wp2_with (first
      | (go_at_call 34; refine (unhide G).mono ?_; rintro e w0 ⟨rfl, hw0⟩; subst w0)
      | (go_at_call 32; refine (unhide G2).mono ?_; rintro e w0 ⟨rfl, hw0⟩; subst w0)
      | (at_builtin; refine wpList_append_lies _ rfl _ _ 32 rfl base 3 i0 (.int .i64 0) 1 8 Try.underlying32 hi hz0 hz1 hz2 rfl (by decide) _ (words L) _ rfl (HA.out.row.alloc _) ⟨w.heap.size, 0, none⟩ 2 2 [.int .i64 0, .int .i64 c.length] rfl rfl (lit_two _ _ _ _) (by simp [Value.oneCell']) (by decide) (by unfold maxLen; omega) (by omega) (by simp; omega) (w.heap.size + 1) (by simp) ?_; intro g1 cap1 w1 hown1 hgrow1 hat1 hlt1; obtain ⟨hd1, hM1, K1, hne1, hnm1⟩ := add1 HA.out hgrow1 hat1; obtain ⟨_, c11, c12, c13, f11, f13⟩ := hd_cells hd1; have HD1 := hide hd1; have HM1 := hide hM1; clear hd1 hM1)
      | (at_builtin; refine wpList_append_none' rfl _ _ 32 rfl base 3 i0 1 Try.underlying32 hi (.slice (some ⟨g1, 0, none⟩) (words L + 2) cap1) (words L + 2) _ rfl (ownsRow_setCell_other hown1 (by simpa [Value.ownBlock] using hne1) _) c.length (by rw [HC.out]; rfl) rfl ?_)
      | (at_mapUpdate; refine wpList_mapUpdate_own _ rfl _ _ _ 66 rfl 3 70 law3 Try.underlying66 _ M (plF 0 L).length D rfl (ownsMap_same hown ((Below.heap_setCell _ _ _ _ (fun e => HA.out.apart.1 e.symm)).trans ((Below.heap_setCell _ _ _ _ (fun e => HA.out.apart.1 e.symm)).trans HM1.out))) (by unfold maxLen; omega) _ _ (.int .i64 (words L)) rfl rfl (keyOf_int_mk Try.underlying3 (i64_wf (by omega) (by omega))) (.agg []) [] unitElem_mk ?_; intro w4 hownM hgrowM))
    go_ret2
    refine ⟨rfl, add_end HA.out (hown.tidy law3) HH.out HS.out (w2 := (w1.setCell ⟨B, 1, none⟩ (.slice (some ⟨g1, 0, none⟩) (words L + 2) cap1)).setCell ⟨B, 1, none⟩ (.slice (some ⟨g1, 0, none⟩) (words L + 2) cap1)) (by rw [hd_set (hd_set HD1.out)]; rfl) ((K1.setCell (.inl rfl) _).setCell (.inl rfl) _) (ownsRow_setCell_other (ownsRow_setCell_other (by rw [HC.out] at hown1 ⊢; simpa using hown1) (by simpa [Value.ownBlock] using hne1) _) (by simpa [Value.ownBlock] using hne1) _) (by simpa [Value.ownBlock] using hnm1) hownM hgrowM ?_⟩
    intro k hk
    simp [Value.ownBlock] at hk
    subst hk
    rcases hat1 with h | h
    · exact .inl h
    · exact .inr (by omega)
  | some ad =>
    go_enter Try.func17, Try.ntmps17
    go_wp2_with (first
      | (go_at_call 34; refine (unhide G).mono ?_; rintro e w0 ⟨rfl, hw0⟩; subst w0)
      | (go_at_call 32; refine (unhide G2).mono ?_; rintro e w0 ⟨rfl, hw0⟩; subst w0)
      | (at_builtin; refine wpList_append_lies _ rfl _ _ 32 rfl base 3 i0 (.int .i64 0) 1 8 Try.underlying32 hi hz0 hz1 hz2 rfl (by decide) _ (words L) _ rfl (HA.out.row.alloc _) ⟨w.heap.size, 0, none⟩ 2 2 [.int .i64 0, .int .i64 c.length] rfl rfl (lit_two _ _ _ _) (by simp [Value.oneCell']) (by decide) (by unfold maxLen; omega) (by omega) (by simp; omega) (w.heap.size + 1) (by simp) ?_; intro g1 cap1 w1 hown1 hgrow1 hat1 hlt1; obtain ⟨hd1, hM1, K1, hne1, hnm1⟩ := add1 HA.out hgrow1 hat1; obtain ⟨_, c11, c12, c13, f11, f13⟩ := hd_cells hd1; have HD1 := hide hd1; have HM1 := hide hM1; clear hd1 hM1)
      | (at_builtin; refine wpList_append_own_at _ rfl _ _ 32 rfl base 3 i0 (.int .i64 0) 1 8 Try.underlying32 hi hz0 hz1 hz2 rfl (by decide) (.slice (some ⟨g1, 0, none⟩) (words L + 2) cap1) (words L + 2) _ rfl (ownsRow_setCell_other hown1 (by simpa [Value.ownBlock] using hne1) _) ad c.length cap (c.map (Value.int .i64)) rfl (by simp) (row_src ((hr.kp K1 hsep).kp (Kp.setCell (Kp.of_below (S := fun k => k = B) (Below.refl _ _)) rfl _) (fun b off e hp hb => hsep b off e hp (.inl hb)))) (one_ints _) (by unfold maxLen; omega) (by omega) (by have := K1.size; simp [World.setCell]; omega) ?_; intro v2 w2 hown2 hgrow2 hnil2 hat2; clear hnil2; obtain ⟨g2, cap2, hv2, hb2, hlt2⟩ := hown2.form (by omega); subst hv2; obtain ⟨hd2, hM2, K2, hne2, hnm2, hat3⟩ := add2 HA.out HD1.out HM1.out K1 hne1 hnm1 hat1 hgrow2 hat2; obtain ⟨_, c21, c22, c23, f21, f23⟩ := hd_cells hd2; have HD2 := hide hd2; have HM2 := hide hM2; clear hd2 hM2)
      | (at_mapUpdate; refine wpList_mapUpdate_own _ rfl _ _ _ 66 rfl 3 70 law3 Try.underlying66 _ M (plF 0 L).length D rfl (ownsMap_same hown ((Below.heap_setCell _ _ _ _ (fun e => HA.out.apart.1 e.symm)).trans HM2.out)) (by unfold maxLen; omega) _ _ (.int .i64 (words L)) rfl rfl (keyOf_int_mk Try.underlying3 (i64_wf (by omega) (by omega))) (.agg []) [] unitElem_mk ?_; intro w4 hownM hgrowM))
    go_ret2
    refine ⟨rfl, add_end HA.out (hown.tidy law3) HH.out HS.out (w2 := w2.setCell ⟨B, 1, none⟩ (.slice (some ⟨g2, 0, none⟩) (words L + 2 + c.length) cap2)) ?_ (K2.setCell (.inl rfl) _) (ownsRow_setCell_other hown2 hne2 _) hnm2 hownM hgrowM hat3⟩
    rw [hd_set HD2.out]; rfl

end Go.Proofs.Ytbibbdkijgaoeaa
