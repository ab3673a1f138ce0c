/- Contracts: the law's words: a graph, two words, the inputs. -/
import Derived.Test.YtdjfciigfledhaaVt
set_option linter.unusedVariables false
set_option linter.unusedSimpArgs false
namespace Go.Proofs.Ytdjfciigfledhaa
open Go.RowKit Go.Maps

/-- A word of the law's own: ints in a block. -/
structure Wo (W : World) (p cp n : Nat) (l : List Int) : Prop where
  row : Row W (some ⟨p, 0, none⟩) l
  len : l.length = n
  cap : n ≤ cp
  blk : ∃ cs fr, W.heap[p]? = some (Obj.cells cs 3 fr)
theorem Wo.fr {W : World} {B M p cp n : Nat} {v : Value} {g : List Gt} {l : List Int} (h : Wo W p cp n l) (hA : Gr W B M v g) : Fr W B M v (some ⟨p, 0, none⟩) l := by
  obtain ⟨cs, fr, hb⟩ := h.blk
  exact ⟨h.row, fun b off e => by cases e; exact ⟨lt_of_block hb, hA.typ hb (by decide) (by decide)⟩⟩
theorem Wo.st {w W : World} {B M p cp n k : Nat} {v v' : Value} {g g' : List Gt} {l : List Int} (h : Wo w p cp n l) (hA : Gr w B M v g) (s : St w W B M v v' g g' k) : Wo W p cp n l := by
  obtain ⟨cs, fr, hb⟩ := h.blk
  exact ⟨(s.fr (h.fr hA)).row, h.len, h.cap, cs, fr, (s.kp.block p (lt_of_block hb) (hA.typ hb (by decide) (by decide))).trans hb⟩
theorem Wo.below {w W : World} {p cp n : Nat} {l : List Int} (h : Wo w p cp n l) (s : Below w.heap.size w W) : Wo W p cp n l := by
  obtain ⟨cs, fr, hb⟩ := h.blk
  exact ⟨h.row.below s, h.len, h.cap, cs, fr, (s.block p (lt_of_block hb)).trans hb⟩
theorem WM.wo {w W : World} {B M k p cp c N : Nat} {v v' : Value} {g g' : List Gt} {l : List Int} {ai : Option Addr} {L0 L : List Bool} (h : WM w W B M v v' g g' k p cp l ai c L0 L N) : Wo W p cp k l := by
  obtain ⟨h1, h2, h3, h4⟩ := io_own h.own
  exact ⟨h2, h1, h3, h4⟩
/-- The law's world: a graph, two words of it, its inputs. -/
structure LW (W : World) (B M : Nat) (v : Value) (g : List Gt) (k n pa ca pb cb : Nat) (la lb : List Int) (ai : Option Addr) (c : Nat) (L : List Bool) (x y : Nat) : Prop where
  gr : Gr W B M v g
  len : g.length ≤ k
  a : Wo W pa ca n la
  b : Wo W pb cb n lb
  wa : Wd g la
  wb : Wd g lb
  bo : Bo W ai c L
  il : L.length ≤ 100
  na : ∀ t, bitsW (L ++ t) g la = bitsN x n
  nb : ∀ t, bitsW (L ++ t) g lb = bitsN y n
section
variable {w W : World} {B M k j n pa ca pb cb c x y : Nat} {v v' : Value} {g g' : List Gt} {la lb : List Int} {ai : Option Addr} {L : List Bool}
theorem LW.st (h : LW w B M v g k n pa ca pb cb la lb ai c L x y) (s : St w W B M v v' g g' j) : LW W B M v' g' (k + j) n pa ca pb cb la lb ai c L x y :=
  ⟨s.gr, by have := s.len; have := h.len; omega, h.a.st h.gr s, h.b.st h.gr s, h.wa.grow s.grow, h.wb.grow s.grow, h.bo.st h.gr s, h.il, fun t => by rw [bitsW_grow s.grow h.wa]; exact h.na t, fun t => by rw [bitsW_grow s.grow h.wb]; exact h.nb t⟩
theorem LW.below (h : LW w B M v g k n pa ca pb cb la lb ai c L x y) (s : Below w.heap.size w W) : LW W B M v g k n pa ca pb cb la lb ai c L x y :=
  ⟨h.gr.below s, h.len, h.a.below s, h.b.below s, h.wa, h.wb, h.bo.below s, h.il, h.na, h.nb⟩
end
theorem results_tmp4 {fn : Func} {t u v z : Tmp} (h : fn.results = #[.tmp t, .tmp u, .tmp v, .tmp z]) (tmps : Array Value) (P : Program) (w : World) :
    (results fn tmps).run P w = .ok (.tuple #[tmps.getD t undef, tmps.getD u undef, tmps.getD v undef, tmps.getD z undef]) w := by
  simp [results, h]
theorem lo_new {W : World} {B M Q : Nat} {v v' : Value} (hlo : ∀ b, Sv B M v b → Q ≤ b) (hn : NewV W v v') (hw : Q ≤ W.heap.size) : ∀ b, Sv B M v' b → Q ≤ b := by
  rintro b (h | h | h)
  · exact hlo b (.inl h)
  · exact hlo b (.inr (.inl h))
  · rcases hn with h' | ⟨q, h', h''⟩
    · exact hlo b (.inr (.inr (by rw [← h']; exact h)))
    · rw [h'] at h; cases h; omega
/-- What the law's words tell. -/
def WsP (w : World) (n x y : Nat) (e : Ending) (w' : World) : Prop :=
  ∃ B M v g pa ca pb cb la lb ai c L, e = .returned (.tuple #[.pointer (some ⟨B, 0, none⟩), .slice (some ⟨pa, 0, none⟩) n ca, .slice (some ⟨pb, 0, none⟩) n cb, .slice ai L.length c]) ∧ LW w' B M v g 32 n pa ca pb cb la lb ai c L x y ∧ cntF g 0 = L.length ∧ Below w.heap.size w w' ∧ ∀ b, Sv B M v b → w.heap.size ≤ b

section
variable (w : World)
set_option maxHeartbeats 4000000 in
set_option maxRecDepth 100000 in
theorem words_any (a b f n : Nat) (ha : a ≤ 65535) (hb : b ≤ 65535) (hf : f ≤ 4294967295) (h1 : 1 ≤ n) (h16 : n ≤ 16) :
    Calls Try.prog 9 #[.agg #[.int .u16 (a : Int), .int .u16 (b : Int), .int .u32 (f : Int)], .int .i64 (n : Int)] w (WsP w n (a % 2 ^ n) (b % 2 ^ n)) := by
  have MD : Hid (∀ (W : World) (z : Nat), z ≤ 65535 → Calls Try.prog 10 #[.int .i64 (z : Int), .int .i64 (n : Int)] W fun e w' => e = .returned (.int .i64 ((z % 2 ^ n : Nat) : Int)) ∧ w' = W) := fun W z hz => by
    have h := mod_any W (z : Int) (by unfold inI64; omega) n (by omega)
    rwa [show (z : Int) % ((2 ^ n : Nat) : Int) = ((z % 2 ^ n : Nat) : Int) by norm_cast] at h
  have hwa : IntKind.i64.wrap (a : Int) = (a : Int) := by rw [IntKind.wrap_i64]; omega
  have hwb : IntKind.i64.wrap (b : Int) = (b : Int) := by rw [IntKind.wrap_i64]; omega
  have hxa : a % 2 ^ n ≤ 65536 := Nat.le_trans (Nat.mod_le _ _) (by omega)
  have hxb : b % 2 ^ n ≤ 65536 := Nat.le_trans (Nat.mod_le _ _) (by omega)
  go_enter Try.func9, Try.ntmps9
  go_upto_region 2 with (first
    | (go_at_call 43; refine (new_any _).mono ?_; rintro e w1 ⟨B, M, rfl, hG, hb1, hB, hM⟩))
  have hQ : (w.alloc (.cells #[.int .u16 (a : Int), .int .u16 (b : Int), .int .u32 (f : Int)] 25)).heap.size = w.heap.size + 1 := by simp
  rw [hQ] at hb1 hB hM
  have hX : w1.heap[w.heap.size]? = some (.cells #[.int .u16 (a : Int), .int .u16 (b : Int), .int .u32 (f : Int)] 25 (0, 0)) := (hb1.block _ (Nat.lt_succ_self _)).trans (heap_alloc_new _ _)
  have HBW : Hid (Below w.heap.size w w1) := (below_alloc w _).trans (hb1.mono (Nat.le_succ _))
  have HB := hide hB
  have HM0 := hide hM
  clear hQ hb1 hB hM
  have HQ : Hid (w.heap.size < w1.heap.size) := lt_of_block hX
  have k0 : w1.cell? ⟨w.heap.size, 0, none⟩ = some (.int .u16 (a : Int)) := cell_block (i := 0) hX rfl
  have k1 : w1.cell? ⟨w.heap.size, 1, none⟩ = some (.int .u16 (b : Int)) := cell_block (i := 1) hX rfl
  have k2 : w1.cell? ⟨w.heap.size, 2, none⟩ = some (.int .u32 (f : Int)) := cell_block (i := 2) hX rfl
  have FQ : Hid (¬ Sv B M (.slice none 0 0) w.heap.size) := hG.typ hX (by decide) (by decide)
  have HG := hide hG
  clear hX hG
  generalize hQe : w.heap.size = Q at *
  have HE := hide hQe
  clear hQe
  have MA := hide (fun W => unhide MD W a ha)
  have MB := hide (fun W => unhide MD W b hb)
  clear MD
  generalize a % 2 ^ n = x at *
  generalize b % 2 ^ n = y at *
  have LA : Hid (Calls Try.prog 48 #[.pointer (some ⟨B, 0, none⟩), .int .i64 (x : Int), .int .i64 (n : Int), .int .u32 (f : Int), .slice none 0 0] (w1.drewN 1) (WoP (w1.drewN 1) B M (.slice none 0 0) [] n x [])) := lword_any (w1.drewN 1) B M _ [] none 0 [] n x f (HG.out.drewN 1) (by simp) (bo_nil _) (by simp) h16 hxa rfl (by omega) (by omega)
  go_region_held3 (fun z => z.cell? ⟨Q, 0, none⟩ = some (.int .u16 (a : Int)) ∧ z.cell? ⟨Q, 1, none⟩ = some (.int .u16 (b : Int)) ∧ z.cell? ⟨Q, 2, none⟩ = some (.int .u32 (f : Int))) (go_keep)
    (first
      | (go_at_call 10; refine (unhide MA _).mono ?_; rintro e w0 ⟨rfl, hw0⟩; subst w0)
      | (go_at_call 48; refine (unhide LA).mono ?_; rintro e w2 ⟨v2, g2, p2, c2, l2, ai2, cc2, L2, rfl, HM⟩; have y0 := HM.st.cell HQ.out FQ.out k0; have y1 := HM.st.cell HQ.out FQ.out k1; have y2 := HM.st.cell HQ.out FQ.out k2))
  have HQ2 : Hid (Q < w2.heap.size) := Nat.lt_of_lt_of_le HQ.out HM.st.kp.size
  have FQ2 : Hid (¬ Sv B M v2 Q) := HM.st.far HQ.out FQ.out
  have hL2 : L2.length ≤ 16 := by
    obtain ⟨e, h, he⟩ := HM.pre
    have : L2.length = e.length := by rw [h]; rfl
    omega
  have hg2 : g2.length ≤ 16 := by have : g2.length ≤ 0 + n := HM.st.len; omega
  have HM1 := hide HM
  have LB : Hid (∀ fx : Int, 0 ≤ fx → fx ≤ 4294967295 → Calls Try.prog 48 #[.pointer (some ⟨B, 0, none⟩), .int .i64 (y : Int), .int .i64 (n : Int), .int .u32 fx, .slice ai2 L2.length cc2] (w2.drewN 1) (WoP (w2.drewN 1) B M v2 g2 n y L2)) := fun fx h0 h1 =>
    lword_any (w2.drewN 1) B M v2 g2 ai2 cc2 L2 n y fx (HM.st.gr.drewN 1) (by omega) (HM.bo.below (below_drewN (Below.refl _ _) 1)) (by omega) h16 hxb HM.sm.cnt h0 h1
  clear HM k0 k1 k2 LA MA hwa
  go_upto_region 3 with fail
  go_region_held3 (fun z => z.cell? ⟨Q, 0, none⟩ = some (.int .u16 (a : Int)) ∧ z.cell? ⟨Q, 1, none⟩ = some (.int .u16 (b : Int)) ∧ z.cell? ⟨Q, 2, none⟩ = some (.int .u32 (f : Int))) (go_keep)
    (first
      | (go_at_call 10; refine (unhide MB _).mono ?_; rintro e w0 ⟨rfl, hw0⟩; subst w0)
      | (go_at_call 48; refine (unhide LB _ (by omega) (by omega)).mono ?_; rintro e w3 ⟨v3, g3, p3, c3, l3, ai3, cc3, L3, rfl, HM⟩; have z0 := HM.st.cell HQ2.out FQ2.out y0; have z1 := HM.st.cell HQ2.out FQ2.out y1; have z2 := HM.st.cell HQ2.out FQ2.out y2))
  have HM2 := hide HM
  clear HM y0 y1 y2 z0 z1 z2 LB MB hwb
  have HF : Hid (WsP w n x y (.returned (.tuple #[.pointer (some ⟨B, 0, none⟩), .slice (some ⟨p2, 0, none⟩) n c2, .slice (some ⟨p3, 0, none⟩) n c3, .slice ai3 L3.length cc3])) w3) := by
    have h1 := HM1.out
    have h2 := HM2.out
    have bd := below_drewN (Below.refl w2.heap.size w2) 1
    have b1 := HBW.out
    have q1 := HB.out
    have q2 := HM0.out
    obtain ⟨e, hL, he⟩ := h2.pre
    have hl3 : g3.length ≤ g2.length + n := h2.st.len
    have e1 := HE.out
    have c1 := below_kp (W2 := w2) (below_drewN b1 1) h1.st.kp (by rintro b (h | h | h); omega; omega; cases h) (by have := HQ.out; show Q ≤ w1.heap.size; omega)
    have hlo := sv_lo (w := w) (W := w1.drewN 1) (B := B) (M := M) (v := .slice none 0 0) (v' := v2) (by rintro b (h | h | h); omega; omega; cases h) h1.st.nv (by rw [e1]; exact Nat.le_of_lt HQ.out)
    rw [e1] at hlo
    have c2' := below_kp (W2 := w3) (below_drewN c1 1) h2.st.kp hlo (Nat.le_of_lt HQ2.out)
    refine ⟨B, M, v3, g3, p2, c2, p3, c3, l2, l3, ai3, cc3, L3, rfl, ⟨h2.st.gr, by omega, (h1.wo.below bd).st (h1.st.gr.drewN 1) h2.st, h2.wo, h1.sm.wd.grow h2.st.grow, h2.sm.wd, h2.bo, by rw [hL]; simp; omega, fun t => by rw [hL]; exact h1.sm.more h2.st.grow t, h2.sm.num⟩, h2.sm.cnt.symm, by rw [e1]; exact c2', by rw [e1]; exact lo_new hlo h2.st.nv (Nat.le_of_lt HQ2.out)⟩
  go_wp2
  try simp only [Exit.inBlock, Exit.then]
  refine bodyPost_ret (results_tmp4 rfl _ _ _) rfl ?_
  exact HF.out
end
end Go.Proofs.Ytdjfciigfledhaa
