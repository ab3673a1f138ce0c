/- Joined: Contracts: the formula that a keeper keeps. Which clauses are left where the first that has a text is taken out: plain. Contract: a clause is put behind the others, where clauses are noted by their literals. Contract: a new keeper does a step. Contract: a new keeper does a step. Contract: a step is done, of a formula. -/
import Derived.Test.YtlmbgaconjcaiaaGreatRiAll
import Derived.Test.YtlmbgaconjcaiaaGreatVbAll
set_option linter.unusedVariables false
set_option linter.unusedSimpArgs false
namespace Go.Proofs.YtlmbgaconjcaiaaGreat
open Go.RowKit

/-- The clauses that are there. -/
def liveL (cls : List Cl) : List (List Int) := (cls.filter (fun c => !c.gone)).map (·.lits)
theorem liveL_snoc (l : List Cl) (c : Cl) : liveL (l ++ [c]) = if c.gone then liveL l else liveL l ++ [c.lits] := by
  unfold liveL
  rw [List.filter_append, List.map_append]
  cases h : c.gone <;> simp [h]

/-- A box with a formula in the making. -/
structure Fb (base : Nat) (w W : World) (X : Nat) (V : Int) (cv : Value) (css : List (List Int)) : Prop where
  hd : W.heap[X]? = some (.cells #[.int .i64 V, cv] 24 (0, 0))
  og : OG base W cv css
  lX : X < base
  bs : base = w.heap.size
  gr : w.grownBy W (some X)
section
variable {base : Nat} {w W W' : World} {X : Nat} {V : Int} {cv : Value} {css : List (List Int)}
theorem Fb.below (h : Fb base w W X V cv css) (hb : Below W.heap.size W W') : Fb base w W' X V cv css :=
  ⟨(hb.block X (lt_of_block h.hd)).trans h.hd, h.og.below hb, h.lX, h.bs, grownBy_trans h.gr (below_grown hb _)⟩
end

theorem Fb.grow {base : Nat} {w W w3 : World} {X : Nat} {V : Int} {cv : Value} {css : List (List Int)} {L g cap cl ucap : Nat} {ua : Option Addr} {vs : List Value} {c : List Int} {o : Obj} (h : Fb base w W X V cv css) (h1 : W.ownsRow base 25 1 cv L vs) (h2 : ∀ i (h : i < css.length), ∃ u, vs[i]? = some u ∧ Own base W u css[i]) (hu : Own base W (.slice ua cl ucap) c) (hL : L = css.length)
    (ho : w3.ownsRow base 25 1 (.slice (some ⟨g, 0, none⟩) (L + 1) cap) (L + 1) (vs ++ [.slice ua cl ucap])) (hg : (W.alloc o).grownBy w3 cv.ownBlock) :
    w3.heap[X]? = W.heap[X]? ∧ Fb base w (w3.setCell ⟨X, 1, none⟩ (.slice (some ⟨g, 0, none⟩) (L + 1) cap)) X V (.slice (some ⟨g, 0, none⟩) (L + 1) cap) (css ++ [c]) := by
  have hX := lt_of_block h.hd
  have hW : W.grownBy w3 cv.ownBlock := ⟨hg.os, hg.tape, hg.output, Nat.le_trans (by simp) hg.size, fun b hb hne => (hg.block b (by simp; omega) hne).trans (Below.heap_alloc W o b hb)⟩
  have hne : cv.ownBlock ≠ some X := fun e => by
    obtain ⟨cur, hc⟩ := own_block h1 e
    rw [h.hd] at hc
    simp at hc
  have hX3 : w3.heap[X]? = W.heap[X]? := hW.block X hX (fun e => hne e.symm)
  have hX3' := hX3.trans h.hd
  subst hL
  have og3 : OG base w3 (.slice (some ⟨g, 0, none⟩) (css.length + 1) cap) (css ++ [c]) := OG.snoc h1 h2 hu ho hW
  refine ⟨hX3, ?_, og3.setCell hX3', h.lX, h.bs, ?_⟩
  · rw [setBlk hX3' _]; simp
  · have hb3 : w.grownBy w3 (some X) := ⟨hW.os.trans h.gr.os, hW.tape.trans h.gr.tape, hW.output.trans h.gr.output, Nat.le_trans h.gr.size hW.size, fun b hb hnx => by
      refine (hW.block b (Nat.lt_of_lt_of_le hb h.gr.size) (fun e => ?_)).trans (h.gr.block b hb hnx)
      have := (h1.lt b e.symm).1
      have := h.bs
      omega⟩
    exact grownBy_trans hb3 (grownBy_set _ _ _ _)

set_option maxHeartbeats 2000000 in
set_option maxRecDepth 100000 in
theorem form1_any {base : Nat} {w W : World} {X : Nat} {V : Int} {cv : Value} {css : List (List Int)} (h : Fb base w W X V cv css) (n : Int) (u : Value) (c : List Int) (hu : Own base W u c) (hl : css.length ≤ 100000) (hbs : base ≤ W.heap.size) :
    Calls Tryz.prog 54 #[.int .i64 n, u, .pointer (some ⟨X, 0, none⟩)] W fun e w' => e = .returned (.tuple #[]) ∧ ∃ cv', Fb base w w' X V cv' (css ++ [c]) := by
  obtain ⟨i0, hi, hz0, hz1, hz2⟩ := info_parts Tryz.info25
  obtain ⟨vs, h1, h2⟩ := h.og
  obtain ⟨ua, ucap, rfl, _, _, _⟩ := hu.row
  have hX := lt_of_block h.hd
  have c1 : W.cell? ⟨X, 1, none⟩ = some cv := by simp [World.cell?, h.hd]
  have HH := hide h
  have H1 := hide h1
  have H2 := hide h2
  have HU := hide hu
  have hvl : vs.length = css.length := by simpa using h1.1
  obtain ⟨cl, hcl⟩ : ∃ cl, cl = c.length := ⟨_, rfl⟩
  rw [← hcl] at HU ⊢
  obtain ⟨L, hL⟩ : ∃ L, L = css.length := ⟨_, rfl⟩
  rw [← hL] at H1 hl
  have HL := hide hL
  clear h h1 h2 hu hvl hcl hL
  go_enter Tryz.func54, Tryz.ntmps54
  go_wp2_with (at_builtin; refine wpList_append_lies _ rfl _ _ 22 rfl base 25 i0 (.slice none 0 0) 1 24 Tryz.underlying22 hi hz0 hz1 hz2 rfl (by decide) _ L vs rfl (H1.out.alloc _) ⟨W.heap.size, 0, none⟩ 1 1 [.slice ua cl ucap] rfl rfl (World.news_of_block (cs := #[.slice ua cl ucap]) (heap_alloc_new W _)) (by simp [Value.oneCell']) (by decide) (by unfold maxLen; omega) (by omega) (by simp; omega) (W.heap.size + 1) (by simp) ?_; intro g1 cap1 w3 hown3 hgrow3 hat3 hlt3; obtain ⟨hX3, hF3⟩ := HH.out.grow H1.out H2.out HU.out HL.out hown3 hgrow3; have c1' : w3.cell? ⟨X, 1, none⟩ = some cv := (World.cell?_of_block (a := ⟨X, 1, none⟩) hX3).trans c1; have f1' : w3.frozen? ⟨X, 1, none⟩ = false := (World.frozen?_of_block (a := ⟨X, 1, none⟩) hX3).trans (by simp [World.frozen?, HH.out.hd]))
  go_end0
  exact ⟨rfl, _, hF3⟩

set_option maxHeartbeats 4000000 in
set_option maxRecDepth 100000 in
theorem each_form {ρ : Nat → Rl} {base : Nat} {w W : World} {k B X : Nat} {s : PS} {x1 x2 x4 V : Int} {m1 m2 cv : Value} (h : KP ρ w k B s x1 x2 (s.cls.length : Int) x4 m1 m2) (hX : ρ X = oth ∧ X ≠ k) (hF : Fb base w W X V cv []) (hcl : s.cls.length ≤ 10000) :
    Calls Tryz.prog 53 #[.pointer (some ⟨k, 0, none⟩), .func (.func 54) #[] #[.pointer (some ⟨X, 0, none⟩)]] W fun e w' => e = .returned (.tuple #[]) ∧ ∃ cv', Fb base w w' X V cv' (liveL s.cls) := by
  have HH := hide h
  have HX := hide hX
  have HF0 : Hid (Fb base w W X V cv (liveL (s.cls.take 0))) := hF
  have k3 := cell_of_block (h.grown hF.gr (fun b e => by cases e; exact hX)).blk (i := 3) rfl
  clear h hF hX
  go_enter Tryz.func53, Tryz.ntmps53
  go_wp2
  go_loopw [11] (fun j wr => ∃ (i : Nat) (cv' : Value), i ≤ s.cls.length ∧ j = .int .i64 (i : Int) ∧ Hid (Fb base w wr X V cv' (liveL (s.cls.take i)))) (fun j _ => s.cls.length - (intOf j).toNat)
  case atStart => exact ⟨0, cv, Nat.zero_le _, rfl, HF0⟩
  case round =>
    clear HF0
    obtain ⟨i, cv1, hi', rfl, HF⟩ := hrel
    have hK := HH.out.grown HF.out.gr (fun b e => by cases e; exact HX.out)
    have k0 := cell_of_block hK.blk (i := 0) rfl
    by_cases hlt : i < s.cls.length
    · have hii : (i : Int) < s.cls.length := by omega
      obtain ⟨H, hRr⟩ := hK.rep
      have hci := List.getElem?_eq_getElem hlt
      have hli := HH.out.lits s.cls[i] (List.getElem_mem hlt)
      have HS : Hid (liveL (s.cls.take (i + 1)) = if s.cls[i].gone then liveL (s.cls.take i) else liveL (s.cls.take i) ++ [s.cls[i].lits]) := by
        unfold Hid
        rw [List.take_succ_eq_append_getElem hlt, liveL_snoc]
      have hll : (liveL (s.cls.take i)).length ≤ 100000 := by
        unfold liveL
        rw [List.length_map]
        have := List.length_filter_le (fun c : Cl => !c.gone) (s.cls.take i)
        rw [List.length_take] at this
        omega
      generalize liveL (s.cls.take i) = css at *
      generalize s.cls[i] = c at *
      cases hg : c.gone with
      | true =>
        have G := hide (propClause_no hRr (i : Int) (.inr (.inr ⟨c, by omega, by simpa using hci, hg⟩)) (by omega))
        rw [hg] at HS
        clear hRr hci hK
        go_wp2_with (go_at_call 47; refine (unhide G).mono ?_; rintro e w1 ⟨rfl, hw1⟩; subst w1)
        go_roundw
        case rel => exact ⟨i + 1, cv1, by omega, by go_num, by unfold Hid; rw [HS.out]; exact HF.out⟩
        case measure => simp [intOf]; omega
      | false =>
        rw [hg] at HS
        have G : Hid (Calls Tryz.prog 47 #[.pointer (some ⟨B, 0, none⟩), .int .i64 (i : Int)] wr fun e w1 => ∃ a cap, e = .returned (.tuple #[.slice a c.lits.length cap, .bool true]) ∧ Calls Tryz.prog 54 #[.int .i64 (i : Int), .slice a c.lits.length cap, .pointer (some ⟨X, 0, none⟩)] w1 fun e w' => e = .returned (.tuple #[]) ∧ ∃ cv', Hid (Fb base w w' X V cv' (css ++ [c.lits]))) := by
          refine (propClause_yes hRr i c hci hg (by omega) (by omega)).mono ?_
          rintro e w1 ⟨v, rfl, ho, hb⟩
          obtain ⟨a, cap, rfl, _⟩ := ho.row
          refine ⟨a, cap, rfl, ?_⟩
          exact form1_any (HF.out.below hb) (i : Int) _ c.lits (ho.mono (by rw [HF.out.bs]; exact HF.out.gr.size)) hll (by rw [HF.out.bs]; exact Nat.le_trans HF.out.gr.size hb.size)
        clear hRr hci hK
        go_wp2_with (first
          | (go_at_call 47; refine (unhide G).mono ?_; rintro e w1 ⟨a, cap, rfl, G2⟩; replace G2 := hide G2)
          | (go_at_call 54; refine (unhide G2).mono ?_; rintro e w2 ⟨rfl, cv2, HF2⟩))
        go_roundw
        case rel => exact ⟨i + 1, cv2, by omega, by go_num, by unfold Hid; rw [HS.out]; exact HF2.out⟩
        case measure => simp [intOf]; omega
    · obtain rfl : i = s.cls.length := by omega
      have HF2 := HF.out
      rw [List.take_length] at HF2
      replace HF2 := hide HF2
      clear HF
      go_wp2
      go_end0
      exact ⟨rfl, cv1, HF2.out⟩

set_option maxHeartbeats 4000000 in
set_option maxRecDepth 100000 in
theorem formula_any {ρ : Nat → Rl} {w : World} {k B : Nat} {s : PS} {x1 x2 x4 : Int} {m1 m2 : Value} (h : KP ρ w k B s x1 x2 (s.cls.length : Int) x4 m1 m2) (hcl : s.cls.length ≤ 10000) :
    Calls Tryz.prog 34 #[.pointer (some ⟨k, 0, none⟩)] w fun e w' => ∃ cv, e = .returned (.agg #[.int .i64 x1, cv]) ∧ OG w.heap.size w' cv (liveL s.cls) ∧ Below w.heap.size w w' := by
  have k1 : w.cell? ⟨k, 1, none⟩ = some (.int .i64 x1) := cell_of_block h.blk rfl
  have hkl := lt_of_block h.blk
  have HH := hide h
  clear h
  go_enter Tryz.func34, Tryz.ntmps34
  go_upto_region 2 with fail
  obtain ⟨W0, hW0⟩ : ∃ W0, W0 = (w.alloc (.cells #[.int .i64 0, .slice none 0 0] 24)).alloc (.cells #[.int .i64 x1, .slice none 0 0] 24) := ⟨_, rfl⟩
  have hb0 : Below w.heap.size w W0 := by rw [hW0]; exact ((Below.refl _ _).alloc (Nat.le_refl _) _).alloc (by simp) _
  have hs0 : W0.heap.size = w.heap.size + 1 + 1 := by rw [hW0]; simp
  have hF : Fb W0.heap.size W0 W0 (w.heap.size + 1) x1 (.slice none 0 0) [] := by
    refine ⟨?_, OG.none _ _, by omega, rfl, grown_refl _ _⟩
    have := heap_alloc_new (w.alloc (.cells #[.int .i64 0, .slice none 0 0] 24)) (.cells #[.int .i64 x1, .slice none 0 0] 24)
    rw [hW0]
    simpa using this
  have hY : W0.heap[w.heap.size]? = some (.cells #[.int .i64 0, .slice none 0 0] 24 (0, 0)) := by
    rw [hW0, heap_alloc_old _ _ (by simp)]; exact heap_alloc_new w _
  have EF := each_form (HH.out.fr hb0) ⟨fr_new (by omega), by omega⟩ hF hcl
  have EF2 : Hid (Calls Tryz.prog 53 #[.pointer (some ⟨k, 0, none⟩), .func (.func 54) #[] #[.pointer (some ⟨w.heap.size + 1, 0, none⟩)]] W0 fun e w' => e = .returned (.tuple #[]) ∧ ∃ cv', Hid (OG w.heap.size w' cv' (liveL s.cls)) ∧ Hid (Below w.heap.size w w') ∧ w'.heap[w.heap.size + 1]? = some (.cells #[.int .i64 x1, cv'] 24 (0, 0)) ∧ w'.heap[w.heap.size]? = some (.cells #[.int .i64 0, .slice none 0 0] 24 (0, 0))) := by
    refine EF.mono ?_
    rintro e w' ⟨rfl, cv', h1⟩
    refine ⟨rfl, cv', h1.og.mono (by omega), ⟨h1.gr.os.trans hb0.os, h1.gr.tape.trans hb0.tape, h1.gr.output.trans hb0.output, Nat.le_trans hb0.size h1.gr.size, fun b hb => (h1.gr.block b (by omega) (by simp; omega)).trans (hb0.block b hb)⟩, h1.hd, (h1.gr.block _ (by omega) (by simp)).trans hY⟩
  rw [← hW0]
  clear EF hF hY hb0 hs0 hW0
  obtain ⟨Y, hYY⟩ : ∃ Y, Y = w.heap.size := ⟨_, rfl⟩
  rw [← hYY] at EF2 ⊢
  have HYY := hide hYY
  clear hYY
  generalize hXX : Y + 1 = X at *
  have hne : X ≠ Y := by omega
  have hne' : Y ≠ X := by omega
  clear hXX
  go_upto_region 3 with (go_at_call 53; refine (unhide EF2).mono ?_; rintro e w2 ⟨rfl, cv, HO, HB, hx, hy⟩)
  have x0 : w2.cell? ⟨X, 0, none⟩ = some (.int .i64 x1) := by simp [World.cell?, hx]
  have x1' : w2.cell? ⟨X, 1, none⟩ = some cv := by simp [World.cell?, hx]
  have y0 : w2.cell? ⟨Y, 0, none⟩ = some (.int .i64 0) := by simp [World.cell?, hy]
  have y1 : w2.cell? ⟨Y, 1, none⟩ = some (.slice none 0 0) := by simp [World.cell?, hy]
  have z0 : w2.frozen? ⟨Y, 0, none⟩ = false := by simp [World.frozen?, hy]
  have z1 : w2.frozen? ⟨Y, 1, none⟩ = false := by simp [World.frozen?, hy]
  obtain ⟨av, capv, rfl, _⟩ := HO.out.grid
  have HO2 : Hid (OG w.heap.size ((w2.setCell ⟨Y, 0, none⟩ (.int .i64 x1)).setCell ⟨Y, 1, none⟩ (.slice av (liveL s.cls).length capv)) (.slice av (liveL s.cls).length capv) (liveL s.cls)) := by
    rw [← HYY.out]
    exact (HO.out.setCell hy).setCell ((setBlk hy _).trans (by simp; exact rfl))
  have HB2 : Hid (Below w.heap.size w ((w2.setCell ⟨Y, 0, none⟩ (.int .i64 x1)).setCell ⟨Y, 1, none⟩ (.slice av (liveL s.cls).length capv))) := by
    have hl : w.heap.size ≤ Y := by rw [HYY.out]; exact Nat.le_refl _
    have hB := HB.out
    rw [HYY.out] at hB
    exact (hB.setCell hl _).setCell hl _
  go_wp2
  refine bodyPost_ret (v := .agg #[.int .i64 x1, .slice av (liveL s.cls).length capv]) (by simp [results, Tryz.results34, go_sem, x0, x1', y0, y1]) rfl ⟨_, rfl, ?_, ?_⟩
  · exact HO2.out
  · exact HB2.out
end Go.Proofs.YtlmbgaconjcaiaaGreat

namespace Go.Proofs.YtlmbgaconjcaiaaGreat

/-- A clause's text. -/
def tx (c : List Int) : List UInt8 := (txt (order c)).data.toList
/-- The numbers of the clauses that have a text. -/
def idxL : List Cl → Nat → List UInt8 → List Int
  | [], _, _ => []
  | c :: r, j, T => if c.gone = false ∧ tx c.lits = T then (j : Int) :: idxL r (j + 1) T else idxL r (j + 1) T
/-- Clauses without the first that has a text. -/
def remB : List (List Int) → List UInt8 → List (List Int)
  | [], _ => []
  | d :: r, T => if tx d = T then r else d :: remB r T

theorem alkL_idx (T : List UInt8) : ∀ (l : List Cl) (j : Nat) (f : List UInt8 → List Int), alkL l j f T = f T ++ idxL l j T
  | [], j, f => by simp [alkL, idxL]
  | c :: r, j, f => by
    show alkL r (j + 1) _ T = _
    rw [alkL_idx T r (j + 1)]
    cases hg : c.gone with
    | true => simp [idxL, hg]
    | false =>
      simp only [Bool.false_eq_true, if_false, idxL, hg, true_and]
      by_cases e : tx c.lits = T
      · rw [if_pos e]
        have : alkC (j : Int) f c.lits T = f T ++ [(j : Int)] := by
          unfold alkC
          rw [← e]
          exact updS_same _ _ _
        rw [this]; simp
      · rw [if_neg e]
        have : alkC (j : Int) f c.lits T = f T := by
          unfold alkC
          exact updS_other _ _ (fun h => e h.symm)
        rw [this]

theorem idxL_ge (T : List UInt8) : ∀ (l : List Cl) (j : Nat) (z : Int), z ∈ idxL l j T → (j : Int) ≤ z
  | [], j, z, h => by simp [idxL] at h
  | c :: r, j, z, h => by
    unfold idxL at h
    split at h
    · rcases List.mem_cons.1 h with h | h
      · omega
      · have := idxL_ge T r (j + 1) z h; omega
    · have := idxL_ge T r (j + 1) z h; omega

theorem liveL_cons (c : Cl) (r : List Cl) : liveL (c :: r) = if c.gone then liveL r else c.lits :: liveL r := by
  unfold liveL
  cases hg : c.gone <;> simp [List.filter_cons, hg]

theorem rem_none (T : List UInt8) : ∀ (l : List Cl) (j : Nat), idxL l j T = [] → remB (liveL l) T = liveL l
  | [], j, h => rfl
  | c :: r, j, h => by
    unfold idxL at h
    split at h
    · simp at h
    · rename_i hn
      rw [liveL_cons]
      cases hg : c.gone with
      | true => simp only [if_true]; exact rem_none T r (j + 1) h
      | false =>
        simp only [Bool.false_eq_true, if_false, remB]
        rw [if_neg (fun e => hn ⟨hg, e⟩), rem_none T r (j + 1) h]

theorem rem_first (T : List UInt8) (d' : Cl) (hd : d'.gone = true) : ∀ (l : List Cl) (j : Nat) (z : Int) (q : List Int), idxL l j T = z :: q → ∀ i : Nat, z = ((j + i : Nat) : Int) → liveL (l.set i d') = remB (liveL l) T
  | [], j, z, q, h, i, hi => by simp [idxL] at h
  | c :: r, j, z, q, h, i, hi => by
    unfold idxL at h
    split at h
    · rename_i hy
      have hz : (j : Int) = z := (List.cons.inj h).1
      obtain rfl : i = 0 := by omega
      rw [List.set_cons_zero, liveL_cons, hd, if_pos rfl, liveL_cons, hy.1]
      simp only [Bool.false_eq_true, if_false, remB]
      rw [if_pos hy.2]
    · rename_i hn
      have hge := idxL_ge T r (j + 1) z (by rw [h]; simp)
      obtain ⟨i, rfl⟩ : ∃ m, i = m + 1 := ⟨i - 1, by omega⟩
      have ih := rem_first T d' hd r (j + 1) z q h i (by rw [hi]; congr 1; omega)
      rw [List.set_cons_succ, liveL_cons, liveL_cons, ih]
      cases hg : c.gone with
      | true => simp
      | false =>
        simp only [Bool.false_eq_true, if_false, remB]
        rw [if_neg (fun e => hn ⟨hg, e⟩)]

theorem liveL_keys {l : List Cl} {css : List (List Int)} (h : l.map key = css.map (fun c => (c, false))) : liveL l = css := by
  induction l generalizing css with
  | nil => cases css with
    | nil => rfl
    | cons x r => simp at h
  | cons c r ih => cases css with
    | nil => simp at h
    | cons x q =>
      simp only [List.map_cons, List.cons.injEq] at h
      have h1 : c.lits = x := congrArg Prod.fst h.1
      have h2 : c.gone = false := congrArg Prod.snd h.1
      rw [liveL_cons, h2, ih h.2, h1]
      rfl

/-- Where a clause is told by its first literal behind what was settled, it is told from the beginning. -/
theorem firstB_up {s u : PS} {d1 d2 : List Int} {c : List Int} {l : Int} {ns : List Int} {b : Bool} (hG : Grw s u d1) (h : FirstB u d2 c l ns b) : FirstB s (d1 ++ d2) c l ns b := by
  have ft : ∀ {rest : List Int} {b : Bool}, FT u d2 c rest b → FT s (d1 ++ d2) c rest b := by
    rintro rest b ⟨t, ds, hI, hg, hd, hT⟩
    exact ⟨t, ds, hI, by have := hG.trans hg; rwa [← List.append_assoc] at this, hd, hT⟩
  have one : ∀ {z : Int} {b : Bool}, FOne u d2 c l z b → FOne s (d1 ++ d2) c l z b := by
    rintro z b ⟨i, L, h1, h2, h3⟩
    refine ⟨i, L, h1, by rw [← hG.cl]; exact h2, ?_⟩
    rcases h3 with ⟨a1, a2, a3⟩ | ⟨a1, a2 | a3⟩
    · exact .inl ⟨a1, a2, ft a3⟩
    · exact .inr ⟨a1, .inl a2⟩
    · exact .inr ⟨a1, .inr (ft a3)⟩
  rcases h with ⟨h1, h2⟩ | ⟨h1, z, h2, h3⟩
  · exact .inl ⟨h1, fun z hz => one (h2 z hz)⟩
  · exact .inr ⟨h1, z, h2, one h3⟩
end Go.Proofs.YtlmbgaconjcaiaaGreat

namespace Go.Proofs.YtlmbgaconjcaiaaGreat
open Go.RowKit Go.ChangeMaps Go.MapKept Go.ChangeShapes
open Go.WideElems (Fit rd rg pl rd_val elemAt)

/-- What is nobody's stayed, but for one block: so did the map, if it has none of it. -/
theorem Gro.evK {P : Program} {k e : TypeId} {ρ ρ' : Nat → Rl} {w w' : World} {g base n q : Nat} {F : Lit → List Int} (h : Gro P k e ρ w g base n F) (ha : ∀ b, b < w.heap.size → ρ' b = ρ b) (hk : ∀ b, b < w.heap.size → b ≠ q → ρ b = oth → w'.heap[b]? = w.heap[b]?) (hq : q < base) (hqg : q ≠ g) : Gro P k e ρ' w' g base n F := by
  obtain ⟨⟨D, ⟨es, clock, hb, Ft, hs, hD, hbb, hlen, hap⟩, hat⟩, hro, hrows⟩ := h
  have hg := lt_of_block hb
  have hb' : w'.heap[g]? = some (.map es clock) := (hk g hg (Ne.symm hqg) hro).trans hb
  have stay : ∀ x ∈ es.toList, ∀ zs, w.ownsInts base e .i64 x.val zs → w'.ownsInts base e .i64 x.val zs := fun x hx zs ho =>
    ⟨own_same ho.1 (fun b hbk => hk b (ho.1.lt b hbk).2 (by have := (ho.1.lt b hbk).1; omega) (hrows es clock hb x hx b hbk)), ho.2⟩
  have hs2 : ∀ x ∈ es.toList, ∀ z, rowElem (H := Unit) w base e .i64 x.val = some z → rowElem w' base e .i64 x.val = some z := by
    intro x hx z hz
    obtain ⟨ys, ho, rfl⟩ := rowElem_inv hz
    exact rowElem_mk (stay x hx ys ho)
  obtain ⟨F2, hmap2, _⟩ := Ft.stay hs2
  refine ⟨⟨D, ⟨es, clock, hb', F2, hs, by rw [hmap2]; exact hD, hbb, ?_, hap⟩, hat⟩, (ha g hg).trans hro, ?_⟩
  · intro x hx zs ho
    obtain ⟨y, hy⟩ := Ft.reads x hx
    obtain ⟨z, hz, _⟩ := rd_val hy
    obtain ⟨ys, ho0, _⟩ := rowElem_inv hz
    have := (stay x hx ys ho0).unique ho
    rw [← this]; exact hlen x hx ys ho0
  · intro es2 c2 h2 x hx b hbk
    rw [hb'] at h2
    cases h2
    obtain ⟨y, hy⟩ := Ft.reads x hx
    obtain ⟨z, hz, _⟩ := rd_val hy
    obtain ⟨ys, ho0, _⟩ := rowElem_inv hz
    exact (ha b (ho0.1.lt b hbk).2).trans (hrows es clock hb x hx b hbk)

/-- What is nobody's and lies ahead of a block stayed, but for one. -/
structure EvG (g k : Nat) (ρ : Nat → Rl) (w : World) (ρ' : Nat → Rl) (w' : World) : Prop where
  os : w'.os = w.os
  tape : w'.tape = w.tape
  output : w'.output = w.output
  size : w.heap.size ≤ w'.heap.size
  agree : ∀ b, b < w.heap.size → ρ' b = ρ b
  keep : ∀ b, b < w.heap.size → b < g → b ≠ k → ρ b = oth → w'.heap[b]? = w.heap[b]?
def AddH (g : Nat) (ρ : Nat → Rl) (w : World) (k B : Nat) (s : PS) (x1 : Nat) (x2 x3 x4 : Int) (c : List Int) (e : Ending) (w' : World) : Prop :=
  e = .returned (.tuple #[]) ∧ ∃ ρ' m2, KP ρ' w' k B (s.attach c) ((max x1 (gtN c) : Nat) : Int) (x2 + 1) (x3 + 1) x4 (.map none) m2 ∧ EvG g k ρ w ρ' w'

set_option maxHeartbeats 4000000 in
set_option maxRecDepth 100000 in
theorem add_h {N g base sz : Nat} {f : Int → List Int} {ρ : Nat → Rl} {w : World} {k B : Nat} {s : PS} {x1 : Nat} {x2 x3 x4 : Int} {a : Option Addr} (h : KP ρ w k B s x1 x2 x3 x4 (.map none) (.map (some g))) (hG : Gro Tryz.prog 3 3 ρ w g base sz (litF f)) (hgb : g < base) (hkg : k < g) (hbs : base ≤ w.heap.size) (hsz : sz ≤ 1000000000) (hag : ∀ b off, a = some ⟨b, off, none⟩ → b < g ∧ b ≠ k) (cap : Nat) (c : List Int) (hr : RowO ρ N w a c) (hl : c.length ≤ 4096) (hcap : a = none → cap = 0)
    (hyes : cnfB s.vars [c] = true) (hcl : s.cls.length < 262144) (hx1 : x1 ≤ 1048576) (hx2 : 0 ≤ x2 ∧ x2 ≤ 262144) (hx3 : 0 ≤ x3 ∧ x3 ≤ 1048576) (hc : ∀ x ∈ c, -1048576 ≤ x ∧ x ≤ 1048576) :
    Calls Tryz.prog 52 #[.pointer (some ⟨k, 0, none⟩), .slice a c.length cap] w (AddH g ρ w k B s x1 x2 x3 x4 c) := by
  obtain ⟨H, hR⟩ := h.rep
  have GA := hide (add_yes hR h.inv (fun d hd => by have := h.lits d hd; omega) hcl a cap c hr.row (by unfold maxLen; omega) hcap hyes)
  have e0 : w.cell? ⟨k, 0, none⟩ = some (.pointer (some ⟨B, 0, none⟩)) := cell_of_block h.blk rfl
  have HK := hide h
  have HR := hide hr
  have HG := hide hG
  have HAG := hide hag
  have HC := hide hc
  have hlts := (cnf_lt hyes c (by simp)).2
  have HLT := hide hlts
  clear hR h hr hc hyes hlts hG hag
  go_enter Tryz.func52, Tryz.ntmps52
  go_upto_region 1 with (first | (go_at_call 73; refine (unhide GA).mono ?_; rintro e w1 ⟨rfl, ρ1, H1, hR1, hE1⟩))
  have hlits1 : ∀ d ∈ (s.attach c).cls, d.lits.length ≤ 4096 := by
    have hk := (attach_cls s c).1
    intro d hd
    have : key d ∈ (s.attach c).cls.map key := List.mem_map_of_mem hd
    rw [hk, List.mem_append] at this
    rcases this with h1 | h1
    · obtain ⟨d', hd', e⟩ := List.mem_map.1 h1
      have e9 : d'.lits = d.lits := congrArg Prod.fst e
      rw [← e9]; exact HK.out.lits d' hd'
    · simp at h1
      have e9 : d.lits = c := congrArg Prod.fst h1
      rw [e9]; exact hl
  have K1 := hide (HK.out.ev hR1 (attach_inv HK.out.inv HLT.out (by omega)) (HK.out.cnt.attach c) hlits1 hE1)
  have E1 := hide (hE1.evN k)
  have R1 := hide (HR.out.ev hE1).row
  clear hR1 hE1 hlits1 GA HK e0
  have c1 : w1.cell? ⟨k, 1, none⟩ = some (.int .i64 (x1 : Int)) := cell_of_block K1.out.blk rfl
  have z1 : w1.frozen? ⟨k, 1, none⟩ = false := frz_of_block K1.out.blk
  have GG : Hid (∀ m, Calls Tryz.prog 40 #[.slice a c.length cap] (w1.drewN m) fun e w' => e = .returned (.int .i64 (gtN c)) ∧ w' = w1.drewN m) := fun m => greatest_any a cap c (w1.drewN m) R1.out (by unfold maxLen; omega) HC.out
  have hmx := max2n x1 (gtN c)
  go_cut [] from 15 to 24 (fun wx => Hid (KP ρ1 wx k B (s.attach c) ((max x1 (gtN c) : Nat) : Int) x2 x3 x4 (.map none) (.map (some g))) ∧ Hid (EvN k ρ w ρ1 wx))
  case first =>
    go_region_with (first | (go_at_call 40; refine (unhide GG _).mono ?_; rintro e w0 ⟨rfl, hw0⟩; subst w0))
    all_goals
      go_wp2_with fail
      go_meet
      case rel => exact ⟨(K1.out.drewN 1).set rfl, (E1.out.drewN 1).setCell _⟩
  case rest =>
  obtain ⟨K2, E2⟩ := hcut
  clear K1 E1 R1 c1 z1 GG hmx HLT
  generalize hxm : ((max x1 (gtN c) : Nat) : Int) = xm at K2
  have HXM := hide hxm
  clear hxm
  have c2 : wc.cell? ⟨k, 2, none⟩ = some (.int .i64 x2) := cell_of_block K2.out.blk rfl
  have z2 : wc.frozen? ⟨k, 2, none⟩ = false := frz_of_block K2.out.blk
  have K3 : Hid (KP ρ1 (wc.setCell ⟨k, 2, none⟩ (.int .i64 (x2 + 1))) k B (s.attach c) xm (x2 + 1) x3 x4 (.map none) (.map (some g))) := K2.out.set rfl
  have E3 := hide (E2.out.setCell (i := 2) (.int .i64 (x2 + 1)))
  clear K2 E2
  go_upto_region 3 with fail
  refine forget (P := fun W => Code.wp Tryz.prog _ _ _ W) (fun W => Hid (KP ρ1 W k B (s.attach c) xm (x2 + 1) x3 x4 (.map none) (.map (some g))) ∧ Hid (EvN k ρ w ρ1 W)) ⟨K3, E3⟩ ?_
  rintro W4 ⟨K4, E4⟩
  clear K3 E3 c2 z2
  have c3 : W4.cell? ⟨k, 3, none⟩ = some (.int .i64 x3) := cell_of_block K4.out.blk rfl
  have z3 : W4.frozen? ⟨k, 3, none⟩ = false := frz_of_block K4.out.blk
  have K5 : Hid (KP ρ1 (W4.setCell ⟨k, 3, none⟩ (.int .i64 (x3 + 1))) k B (s.attach c) xm (x2 + 1) (x3 + 1) x4 (.map none) (.map (some g))) := K4.out.set rfl
  have E5 := hide (E4.out.setCell (i := 3) (.int .i64 (x3 + 1)))
  clear K4 E4
  go_upto_region 4 with fail
  refine forget (P := fun W => Code.wp Tryz.prog _ _ _ W) (fun W => Hid (KP ρ1 W k B (s.attach c) xm (x2 + 1) (x3 + 1) x4 (.map none) (.map (some g))) ∧ Hid (EvN k ρ w ρ1 W)) ⟨K5, E5⟩ ?_
  rintro W6 ⟨K6, E6⟩
  clear K5 E5 c3 z3
  have c5 : W6.cell? ⟨k, 5, none⟩ = some (.map none) := cell_of_block K6.out.blk rfl
  have c6 : W6.cell? ⟨k, 6, none⟩ = some (.map (some g)) := cell_of_block K6.out.blk rfl
  have q5 := run_neq_map_nil (P := Tryz.prog) W6 60 _ _ none Tryz.underlying60
  have q6 := run_neq_map_nil (P := Tryz.prog) W6 61 _ _ (some g) Tryz.underlying61
  have hG6 : Gro Tryz.prog 3 3 (fr ρ1 W6.heap.size) W6 g base sz (litF f) := HG.out.evK (fun b hb => (fr_old (Nat.lt_of_lt_of_le hb E6.out.size)).trans (E6.out.agree b hb)) (fun b hb hbk hr => E6.out.keep b hb hbk hr) (by omega) (by omega)
  have hrs : RowS base g (fr ρ1 W6.heap.size) W6 a c := by
    intro i hi
    obtain ⟨b, off, ea, hb, hro, _, hcell⟩ := HR.out i hi
    obtain ⟨h1, h2⟩ := HAG.out b off ea
    exact ⟨b, off, ea, Nat.lt_of_lt_of_le hb E6.out.size, .inr ⟨by omega, by omega⟩, (World.cell?_of_block (a := ⟨b, off + i, none⟩) (E6.out.keep b hb h2 hro)).trans hcell⟩
  have NH := hide (noteHaving_any (ρ := fr ρ1 W6.heap.size) (w := W6) (k := k) (f := f) c6 (by omega) (by omega) (lt_of_block K6.out.blk) hG6 (fun b hb => fr_new hb) (Nat.le_trans hbs E6.out.size) s.cls.length (by omega) a cap c hrs (by omega) (by omega) HC.out)
  clear hG6 hrs HG HR HC HAG
  go_wp2_with (go_at_call 65; refine (unhide NH).mono ?_; rintro e w7 ⟨rfl, hG7, hN7⟩)
  go_end0
  refine ⟨rfl, fr ρ1 W6.heap.size, _, by rw [HXM.out]; exact (K6.out.fr (Below.refl _ _)).nf hN7 (by omega) (by omega), ?_⟩
  exact ⟨hN7.os.trans E6.out.os, hN7.tape.trans E6.out.tape, hN7.output.trans E6.out.output, Nat.le_trans E6.out.size hN7.size, fun b hb => (fr_old (Nat.lt_of_lt_of_le hb E6.out.size)).trans (E6.out.agree b hb), fun b hb hbg hbk hr => (hN7.keep b (Nat.lt_of_lt_of_le hb E6.out.size) (.inr ⟨by omega, by omega⟩)).trans (E6.out.keep b hb hbk hr)⟩
end Go.Proofs.YtlmbgaconjcaiaaGreat

namespace Go.Proofs.YtlmbgaconjcaiaaGreat
open Go.RowKit

/-- What a step makes of a formula, and why. -/
def DoE (V : Nat) (css : List (List Int)) (d : Bool) (c : List Int) (r : Int) (x1 : Nat) (css' : List (List Int)) : Prop :=
  (d = true ∧ r = 0 ∧ x1 = V ∧ css' = remB css (tx c)) ∨
  (d = false ∧ r = 0 ∧ x1 = max V (gtN c) ∧ css' = css ++ [c] ∧ (TE (spareN V [⟨d, c⟩]) css c true ∨ ∃ l0, c[0]? = some l0 ∧ FirstE (spareN V [⟨d, c⟩]) css c (-l0) true)) ∨
  (d = false ∧ r = 7 ∧ x1 = V ∧ css' = css ∧ TE (spareN V [⟨d, c⟩]) css c false ∧ (c = [] ∨ ∃ l0, c[0]? = some l0 ∧ FirstE (spareN V [⟨d, c⟩]) css c (-l0) false))

/-- What is so behind a step. -/
def DoneP (w : World) (V : Nat) (css : List (List Int)) (d : Bool) (c : List Int) (k B : Nat) (r : Int) (w' : World) : Prop :=
  ∃ ρ u x1 x2 x4 m1 m2, KP ρ w' k B u ((x1 : Nat) : Int) x2 (u.cls.length : Int) x4 m1 m2 ∧ u.cls.length ≤ 10000 ∧ Below w.heap.size w w' ∧ DoE V css d c r x1 (liveL u.cls)

theorem evN_below {k : Nat} {w w' : World} {ρ : Nat → Rl} (h : EvN k free w ρ w') (hk : w.heap.size ≤ k) : Below w.heap.size w w' :=
  ⟨h.os, h.tape, h.output, h.size, fun b hb => h.keep b hb (by omega) rfl⟩
theorem evG_below {k g : Nat} {w w1 w' : World} {ρ ρ' : Nat → Rl} (h : EvN k free w ρ w1) (h' : EvG g k ρ w1 ρ' w') (hk : w.heap.size ≤ k) (hg : w.heap.size ≤ g) : Below w.heap.size w w' :=
  ⟨h'.os.trans h.os, h'.tape.trans h.tape, h'.output.trans h.output, Nat.le_trans h.size h'.size, fun b hb =>
    (h'.keep b (Nat.lt_of_lt_of_le hb h.size) (by omega) (by omega) ((h.agree b hb).trans rfl)).trans (h.keep b hb (by omega) rfl)⟩

/-- A keeper at the beginning of a step: what was opened, and the step's box. -/
structure Nw (w W : World) (V : Nat) (css : List (List Int)) (d : Bool) (c : List Int) (k B : Nat) (ρ : Nat → Rl) (s : PS) : Prop where
  kp : KP ρ W k B s V css.length (s.cls.length : Int) (spareN V [⟨d, c⟩] : Nat) (.map none) (.map none)
  ev : EvN k free w ρ W
  vars : s.vars = varsN V [⟨d, c⟩]
  cl : s.cls.map key = css.map (fun c => (c, false))
  tr : s.trail = []
  lv : s.lvs = []
  hk : w.heap.size ≤ k
  may : mayB c 1048576 = true
  cnf : cnfB V css = true
  lc : c.length ≤ 4096
  len : css.length ≤ 900

section
variable {w W : World} {V : Nat} {css : List (List Int)} {d : Bool} {c : List Int} {k B : Nat} {ρ : Nat → Rl} {s : PS}
theorem Nw.n (h : Nw w W V css d c k B ρ s) : s.cls.length = css.length := by simpa using congrArg List.length h.cl
theorem Nw.v (h : Nw w W V css d c k B ρ s) : V ≤ 1048576 := by
  have hc := h.cnf
  unfold cnfB at hc
  simp only [Bool.and_eq_true, decide_eq_true_eq] at hc
  omega
theorem Nw.p (h : Nw w W V css d c k B ρ s) : proofB [⟨d, c⟩] = true := by simp [proofB, h.may]
theorem Nw.sp (h : Nw w W V css d c k B ρ s) : spareN V [⟨d, c⟩] ≤ s.vars := by rw [h.vars]; unfold spareN varsN; split <;> omega
theorem Nw.lt (h : Nw w W V css d c k B ρ s) : ∀ x ∈ c, Lt s.vars x := by
  intro x hx
  have htop := topN_le h.v h.p
  have hgt := (le_topN V [⟨d, c⟩]).2 _ (List.mem_singleton_self _)
  have q := may_lits h.may x hx
  have q2 := le_gtN x hx
  have q3 : topN V [⟨d, c⟩] ≤ s.vars := by rw [h.vars]; unfold varsN; split <;> omega
  simp only at hgt
  unfold Lt; omega
theorem Nw.vle (h : Nw w W V css d c k B ρ s) : s.vars ≤ 1048576 := by
  have htop := topN_le h.v h.p
  rw [h.vars]; unfold varsN; split <;> omega
theorem Nw.row (h : Nw w W V css d c k B ρ s) {a : Option Addr} (hr : Row w a c) {ρ' : Nat → Rl} {W' : World} (hE : EvN k free w ρ' W') : RowO ρ' W'.heap.size W' a c := fun i hi => by
  obtain ⟨b, off, e, hb, hc⟩ := hr i hi
  have hk := h.hk
  exact ⟨b, off, e, Nat.lt_of_lt_of_le hb hE.size, hE.agree b hb, .inl (Nat.lt_of_lt_of_le hb hE.size), (World.cell?_of_block (a := ⟨b, off + i, none⟩) (hE.keep b hb (by omega) rfl)).trans hc⟩
theorem Nw.far (h : Nw w W V css d c k B ρ s) {a : Option Addr} (hr : Row w a c) {b off : Nat} (e : a = some ⟨b, off, none⟩) (hne : c ≠ []) : b < w.heap.size := by
  obtain ⟨b', off', e', hb, _⟩ := hr 0 (List.length_pos_iff.2 hne)
  rw [e] at e'
  cases e'
  exact hb

theorem new_rem (h : Nw w W V css true c k B ρ s) (a : Option Addr) (cap : Nat) (hr : Row w a c) (hcap : a = none → cap = 0) :
    Calls Tryz.prog 51 #[.pointer (some ⟨k, 0, none⟩), .slice a c.length cap] W fun e w' => e = .returned (.tuple #[]) ∧ DoneP w V css true c k B 0 w' := by
  have hn := h.n
  have hlen := h.len
  have hk := h.hk
  refine (remove_new h.kp (by omega) h.tr a cap c (h.row hr h.ev) (fun b off e hne => by have := h.far hr e hne; omega) h.lc hcap h.may ⟨by omega, by omega⟩).mono ?_
  rintro e w' ⟨rfl, ρ', g, hE, hc⟩
  refine ⟨rfl, ?_⟩
  have hb := evN_below (h.ev.trans hE) h.hk
  have hlive := liveL_keys h.cl
  rw [alkL_idx] at hc
  rcases hc with ⟨e0, hK⟩ | ⟨z, r, i, d, e0, ez, hd, hdg, hK⟩
  · exact ⟨ρ', s, V, _, _, _, _, hK, by omega, hb, .inl ⟨rfl, rfl, rfl, by rw [← hlive]; exact (rem_none _ _ 0 e0).symm⟩⟩
  · have hcs := drop_cls s i d
    have hl2 : (s.drop i d).cls.length = s.cls.length := by rw [hcs, List.length_set]
    refine ⟨ρ', s.drop i d, V, _, _, _, _, by rw [hl2]; exact hK, by omega, hb, .inl ⟨rfl, rfl, rfl, ?_⟩⟩
    rw [hcs, ← hlive]
    exact rem_first _ _ rfl _ 0 z r e0 i (by rw [ez]; simp)

/-- Behind the question by units. -/
structure Md (w W : World) (V : Nat) (css : List (List Int)) (c : List Int) (k B : Nat) (ρ : Nat → Rl) (s : PS) (b : Bool) (w2 : World) (ρ2 : Nat → Rl) (u : PS) (ds0 : List Int) : Prop where
  kp : KP ρ2 w2 k B u V css.length (u.cls.length : Int) (spareN V [⟨false, c⟩] : Nat) (.map none) (.map none)
  ev : EvN k ρ W ρ2 w2
  gr : Grw s u ds0
  d0 : spareN V [⟨false, c⟩] = 0 → ds0 = []
  d1 : spareN V [⟨false, c⟩] ≠ 0 → ds0 = [(spareN V [⟨false, c⟩] : Int)] ∧ u.lvs ≠ []
  te : TE (spareN V [⟨false, c⟩]) css c b

theorem new_units (h : Nw w W V css false c k B ρ s) (a : Option Addr) (cap : Nat) (hr : Row w a c) :
    Calls Tryz.prog 27 #[.pointer (some ⟨k, 0, none⟩), .slice a c.length cap] W fun e w2 => ∃ b, e = .returned (.bool b) ∧ ∃ ρ2 u ds0, Md w W V css c k B ρ s b w2 ρ2 u ds0 := by
  have hlc := h.lc
  refine (byUnits_any h.kp h.sp (fun _ _ => h.tr) a cap c (h.row hr h.ev) (by omega) h.lt).mono ?_
  rintro e w2 ⟨b, rfl, ρ2, u, ds0, hK, hE, hG, q0, q1, t, ds, hI, hGt, hds, hT⟩
  have hul : u.cls.length = s.cls.length := by simpa using congrArg List.length hG.cl
  refine ⟨b, rfl, ρ2, u, ds0, by rw [hul]; exact hK, hE.evN k, hG, q0, fun hs => ⟨(q1 hs).1 h.lv, (q1 hs).2.2⟩, ?_⟩
  have := ft_te (s := s) (ds0 := ds0) (c := c) (rest := []) (b := b) ⟨t, ds, hI, hGt, by simpa using hds, by simpa using hT⟩ h.cl h.lv q0 (fun hs => (q1 hs).1 h.lv)
  simpa using this

theorem new_cnf (h : Nw w W V css d c k B ρ s) : cnfB s.vars [c] = true := by
  have hv := h.vle
  have hlt := h.lt
  have hm := h.may
  have hlc := h.lc
  unfold cnfB
  simp only [Bool.and_eq_true, decide_eq_true_eq, List.all_cons, List.all_nil, and_true]
  refine ⟨⟨by omega, by omega, by simp⟩, mayB_of hlc ?_⟩
  rw [List.all_eq_true]
  intro x hx
  have := hlt x hx
  unfold Lt at this
  exact litB_true.2 ⟨this.1, by omega, by omega⟩

theorem new_add {w2 : World} {ρ2 : Nat → Rl} {u : PS} {ds0 : List Int} (h : Nw w W V css false c k B ρ s) (hM : Md w W V css c k B ρ s true w2 ρ2 u ds0) (a : Option Addr) (cap : Nat) (hr : Row w a c) (hcap : a = none → cap = 0) :
    Calls Tryz.prog 52 #[.pointer (some ⟨k, 0, none⟩), .slice a c.length cap] w2 fun e w' => e = .returned (.tuple #[]) ∧ DoneP w V css false c k B 0 w' := by
  have hul : u.cls.length = s.cls.length := by simpa using congrArg List.length hM.gr.cl
  have hn := h.n
  have hlen := h.len
  have hE := h.ev.trans hM.ev
  refine (add_k hM.kp a cap c (h.row hr hE) h.lc hcap (by rw [hM.gr.vars]; exact new_cnf h) (by omega) h.v ⟨by omega, by omega⟩ ⟨by omega, by omega⟩ (fun x hx => (may_lits h.may x hx).2)).mono ?_
  rintro e w' ⟨rfl, ρ', hK, hE'⟩
  obtain ⟨a1, a2, a3, a4, _⟩ := attach_cls u c
  have hal : (u.attach c).cls.length = u.cls.length + 1 := by simpa using congrArg List.length a1
  have hlive : liveL (u.attach c).cls = css ++ [c] := liveL_keys (by rw [a1, hM.gr.cl, h.cl]; simp)
  exact ⟨rfl, ρ', _, _, _, _, _, _, by rw [hal]; exact hK, by omega, evN_below (hE.trans hE') h.hk, .inr (.inl ⟨rfl, rfl, rfl, hlive, .inl hM.te⟩)⟩

/-- Behind the question by the first literal, where it told yes. -/
structure Mf (w W : World) (V : Nat) (css : List (List Int)) (c : List Int) (k B : Nat) (w3 : World) (ρ3 : Nat → Rl) (u : PS) (g base : Nat) : Prop where
  kp : KP ρ3 w3 k B u V css.length (u.cls.length : Int) (spareN V [⟨false, c⟩] : Nat) (.map none) (.map (some g))
  ev : EvN k free w ρ3 w3
  gro : ∃ f, Gro Tryz.prog 3 3 ρ3 w3 g base (4096 * u.cls.length + 1) (litF f)
  lg : W.heap.size ≤ g
  lb : g < base
  bs : base ≤ w3.heap.size
  vars : u.vars = varsN V [⟨false, c⟩]
  cl : u.cls.map key = css.map (fun c => (c, false))
  ne : c ≠ []
  fe : ∃ l0, c[0]? = some l0 ∧ FirstE (spareN V [⟨false, c⟩]) css c (-l0) true

theorem new_first {w2 : World} {ρ2 : Nat → Rl} {u : PS} {ds0 : List Int} (h : Nw w W V css false c k B ρ s) (hM : Md w W V css c k B ρ s false w2 ρ2 u ds0) (a : Option Addr) (cap : Nat) (hr : Row w a c) :
    Calls Tryz.prog 28 #[.pointer (some ⟨k, 0, none⟩), .slice a c.length cap] w2 fun e w3 => ∃ b, e = .returned (.bool b) ∧ (b = false → DoneP w V css false c k B 7 w3) ∧ (b = true → ∃ ρ3 u g base, Mf w W V css c k B w3 ρ3 u g base) ∧ ∃ ρ3, EvN k ρ2 w2 ρ3 w3 := by
  have hul : u.cls.length = s.cls.length := by simpa using congrArg List.length hM.gr.cl
  have hn := h.n
  have hlen := h.len
  have hk := h.hk
  have hE := h.ev.trans hM.ev
  have hku : u.cls.map key = css.map (fun c => (c, false)) := by rw [hM.gr.cl, h.cl]
  have hlive := liveL_keys hku
  by_cases hne : c = []
  · have hc0 : c.length = 0 := by rw [hne]; rfl
    rw [hc0]
    refine (byFirst_nil w2 k a cap).mono ?_
    rintro e w3 ⟨rfl, rfl⟩
    exact ⟨false, rfl, fun _ => ⟨ρ2, u, V, _, _, _, _, hM.kp, by omega, evN_below hE h.hk, .inr (.inr ⟨rfl, rfl, rfl, hlive, hM.te, .inl hne⟩)⟩, (by simp), ρ2, (Ev.refl _ _).evN k⟩
  · obtain ⟨l0, r, hcc⟩ := List.exists_cons_of_ne_nil hne
    have hl0 : c[0]? = some l0 := by rw [hcc]; rfl
    refine (byFirst_new hM.kp (by rw [hM.gr.vars]; exact h.sp) (fun hs hl => absurd hl (hM.d1 hs).2) (by omega) a cap c (h.row hr hE) (fun b off e => by have := h.far hr e hne; omega) h.lc (by rw [hM.gr.vars]; exact h.lt) l0 hl0).mono ?_
    rintro e w3 ⟨b, rfl, ρ3, u', ds1, g, base, q1, q2, q3, q4, q5, q6, q7, q8, q9, q10⟩
    have hul' : u'.cls.length = u.cls.length := by simpa using congrArg List.length q3.cl
    have hku' : u'.cls.map key = css.map (fun c => (c, false)) := by rw [q3.cl, hku]
    have hE3 := hE.trans q2
    have hd1 : spareN V [⟨false, c⟩] ≠ 0 → ds0 ++ ds1 = [(spareN V [⟨false, c⟩] : Int)] := fun hs => by
      rw [(hM.d1 hs).1, (q5 hs).2 (hM.d1 hs).2]; rfl
    have hd0 : spareN V [⟨false, c⟩] = 0 → ds0 ++ ds1 = [] := fun hs => by rw [hM.d0 hs, q4 hs]; rfl
    have hfe := first_e (by have := firstB_up hM.gr q10; rwa [noteL_key _ _ _ _ hM.gr.cl] at this) h.cl h.lv hd0 hd1
    refine ⟨b, rfl, fun hb => ?_, fun hb => ?_, ρ3, q2⟩
    · subst hb
      exact ⟨ρ3, u', V, _, _, _, _, by rw [hul']; exact q1, by omega, evN_below hE3 h.hk, .inr (.inr ⟨rfl, rfl, rfl, liveL_keys hku', hM.te, .inr ⟨l0, hl0, hfe⟩⟩)⟩
    · subst hb
      exact ⟨ρ3, u', g, base, ⟨by rw [hul']; exact q1, hE3, ⟨_, by rw [hul']; exact q7⟩, Nat.le_trans hM.ev.size q8, (by omega), (by have := q7.lt.1; omega), by rw [q3.vars, hM.gr.vars, h.vars], hku', hne, l0, hl0, hfe⟩⟩

theorem new_addH {w3 : World} {ρ3 : Nat → Rl} {u : PS} {g base : Nat} (h : Nw w W V css false c k B ρ s) (hM : Mf w W V css c k B w3 ρ3 u g base) (hkW : k < W.heap.size) (a : Option Addr) (cap : Nat) (hr : Row w a c) (hcap : a = none → cap = 0) :
    Calls Tryz.prog 52 #[.pointer (some ⟨k, 0, none⟩), .slice a c.length cap] w3 fun e w' => e = .returned (.tuple #[]) ∧ DoneP w V css false c k B 0 w' := by
  have hul : u.cls.length = css.length := by simpa using congrArg List.length hM.cl
  have hlen := h.len
  have hk := h.hk
  have hlg := hM.lg
  have hws := h.ev.size
  obtain ⟨f, hG⟩ := hM.gro
  refine (add_h hM.kp hG hM.lb (by omega) hM.bs (by omega) (fun b off e => by have := h.far hr e hM.ne; omega) cap c (h.row hr hM.ev) h.lc hcap (by rw [hM.vars, ← h.vars]; exact new_cnf h) (by omega) h.v ⟨by omega, by omega⟩ ⟨by omega, by omega⟩ (fun x hx => (may_lits h.may x hx).2)).mono ?_
  rintro e w' ⟨rfl, ρ', m2, hK, hE'⟩
  obtain ⟨a1, a2, a3, a4, _⟩ := attach_cls u c
  have hal : (u.attach c).cls.length = u.cls.length + 1 := by simpa using congrArg List.length a1
  have hlive : liveL (u.attach c).cls = css ++ [c] := liveL_keys (by rw [a1, hM.cl]; simp)
  exact ⟨rfl, ρ', _, _, _, _, _, _, by rw [hal]; exact hK, by omega, evG_below hM.ev hE' h.hk (by omega), .inr (.inl ⟨rfl, rfl, rfl, hlive, .inr hM.fe⟩)⟩
end
end Go.Proofs.YtlmbgaconjcaiaaGreat

namespace Go.Proofs.YtlmbgaconjcaiaaGreat
open Go.RowKit

theorem nw_of {w w1 : World} {V k B : Nat} {css : List (List Int)} {d : Bool} {c : List Int} (hO : OpenP w V css [⟨d, c⟩] k B w1) (hl : css.length ≤ 900) (hlc : c.length ≤ 4096) (hm : mayB c 1048576 = true) (hV : cnfB V css = true) (o : Obj) :
    ∃ ρ s, Nw w (w1.alloc o) V css d c k B ρ s ∧ k < w1.heap.size ∧ ρ w1.heap.size = oth := by
  obtain ⟨ρ, s, hK, hE, e1, e2, e3, e4, hk5⟩ := hO
  have hlen : s.cls.length = css.length := by simpa using congrArg List.length e2
  have hb0 : Below w1.heap.size w1 (w1.alloc o) := below_alloc w1 _
  have K0 := hK.fr hb0
  exact ⟨_, s, ⟨by rw [hlen]; exact K0, (hE.evN k).trans ((Ev.fr (ρ := ρ) hb0).evN k), e1, e2, e3, e4, hk5, hm, hV, hlc, hl⟩, lt_of_block hK.blk, fr_new (Nat.le_refl _)⟩

theorem EvN.box {k X : Nat} {ρ ρ' : Nat → Rl} {W w' : World} {o : Obj} (h : EvN k ρ W ρ' w') (hX : W.heap[X]? = some o) (hk : X ≠ k) (hr : ρ X = oth) : w'.heap[X]? = some o ∧ ρ' X = oth :=
  ⟨(h.keep X (lt_of_block hX) hk hr).trans hX, (h.agree X (lt_of_block hX)).trans hr⟩

set_option maxHeartbeats 4000000 in
set_option maxRecDepth 100000 in
theorem do_del {w w1 : World} {V k B : Nat} {css : List (List Int)} {c : List Int} (hO : OpenP w V css [⟨true, c⟩] k B w1) (hl : css.length ≤ 900) (a : Option Addr) (cap : Nat) (hr : Row w a c) (hlc : c.length ≤ 4096) (hcap : a = none → cap = 0) (hm : mayB c 1048576 = true) (hV : cnfB V css = true) :
    Calls Tryz.prog 33 #[.pointer (some ⟨k, 0, none⟩), .agg #[.bool true, .slice a c.length cap]] w1 fun e w' => ∃ r, e = .returned (.int .i64 r) ∧ DoneP w V css true c k B r w' := by
  obtain ⟨ρ, s, hN, hkl, hro⟩ := nw_of hO hl hlc hm hV (.cells #[.bool true, .slice a c.length cap] 32)
  have RM := hide (new_rem hN a cap hr hcap)
  clear hN hO hr hm hV hro
  go_enter Tryz.func33, Tryz.ntmps33
  go_wp2_with (go_at_call 51; refine (unhide RM).mono ?_; rintro e w2 ⟨rfl, hD⟩; replace hD := hide hD)
  go_ret
  exact ⟨0, rfl, hD.out⟩

set_option maxHeartbeats 4000000 in
set_option maxRecDepth 100000 in
theorem do_add {w w1 : World} {V k B : Nat} {css : List (List Int)} {c : List Int} (hO : OpenP w V css [⟨false, c⟩] k B w1) (hl : css.length ≤ 900) (a : Option Addr) (cap : Nat) (hr : Row w a c) (hlc : c.length ≤ 4096) (hcap : a = none → cap = 0) (hm : mayB c 1048576 = true) (hV : cnfB V css = true) :
    Calls Tryz.prog 33 #[.pointer (some ⟨k, 0, none⟩), .agg #[.bool false, .slice a c.length cap]] w1 fun e w' => ∃ r, e = .returned (.int .i64 r) ∧ DoneP w V css false c k B r w' := by
  obtain ⟨ρ, s, hN, hkl, hro⟩ := nw_of hO hl hlc hm hV (.cells #[.bool false, .slice a c.length cap] 32)
  have hbx : (w1.alloc (.cells #[.bool false, .slice a c.length cap] 32)).heap[w1.heap.size]? = some (.cells #[.bool false, .slice a c.length cap] 32) := heap_alloc_new w1 _
  have NU : Hid (Calls Tryz.prog 27 #[.pointer (some ⟨k, 0, none⟩), .slice a c.length cap] (w1.alloc (.cells #[.bool false, .slice a c.length cap] 32)) fun e w2 => ∃ b, e = .returned (.bool b) ∧ w2.cell? ⟨w1.heap.size, 1, none⟩ = some (.slice a c.length cap) ∧
      ((b = true ∧ Hid (Calls Tryz.prog 52 #[.pointer (some ⟨k, 0, none⟩), .slice a c.length cap] w2 fun e w' => e = .returned (.tuple #[]) ∧ DoneP w V css false c k B 0 w')) ∨
       (b = false ∧ Hid (Calls Tryz.prog 28 #[.pointer (some ⟨k, 0, none⟩), .slice a c.length cap] w2 fun e w3 => ∃ b, e = .returned (.bool b) ∧ w3.cell? ⟨w1.heap.size, 1, none⟩ = some (.slice a c.length cap) ∧
         ((b = false ∧ Hid (DoneP w V css false c k B 7 w3)) ∨ (b = true ∧ Hid (Calls Tryz.prog 52 #[.pointer (some ⟨k, 0, none⟩), .slice a c.length cap] w3 fun e w' => e = .returned (.tuple #[]) ∧ DoneP w V css false c k B 0 w'))))))) := by
    refine (new_units hN a cap hr).mono ?_
    rintro e w2 ⟨b, rfl, ρ2, u, ds0, hM⟩
    obtain ⟨hb2, hr2⟩ := hM.ev.box hbx (by omega) hro
    refine ⟨b, rfl, cell_of_block hb2 rfl, ?_⟩
    cases b with
    | true => exact .inl ⟨rfl, new_add hN hM a cap hr hcap⟩
    | false =>
      refine .inr ⟨rfl, (new_first hN hM a cap hr).mono ?_⟩
      rintro e w3 ⟨b, rfl, h1, h2, ρ3, hE3⟩
      obtain ⟨hb3, _⟩ := hE3.box hb2 (by omega) hr2
      refine ⟨b, rfl, cell_of_block hb3 rfl, ?_⟩
      cases b with
      | false => exact .inl ⟨rfl, h1 rfl⟩
      | true =>
        obtain ⟨ρ4, u4, g, base, hF⟩ := h2 rfl
        exact .inr ⟨rfl, new_addH hN hF (by simp; omega) a cap hr hcap⟩
  have c2 : (w1.alloc (.cells #[.bool false, .slice a c.length cap] 32)).cell? ⟨k, 2, none⟩ = some (.int .i64 (css.length : Int)) := cell_of_block hN.kp.blk rfl
  have hne : ((css.length : Int) == 262144) = false := by simp; omega
  clear hN hO hr hm hV hro hbx
  go_enter Tryz.func33, Tryz.ntmps33
  go_wp2_with (go_at_call 27; refine (unhide NU).mono ?_; rintro e w2 ⟨b, rfl, cb2, ⟨rfl, AD⟩ | ⟨rfl, FI⟩⟩)
  · refine (unhide AD).mono ?_
    rintro e w3 ⟨rfl, hD⟩
    replace hD := hide hD
    go_wp2
    go_ret
    exact ⟨0, rfl, hD.out⟩
  · refine (unhide FI).mono ?_
    rintro e w3 ⟨b, rfl, cb3, ⟨rfl, hD⟩ | ⟨rfl, AD⟩⟩
    · go_wp2
      go_ret
      exact ⟨7, rfl, hD.out⟩
    · go_wp2_with (go_at_call 52; refine (unhide AD).mono ?_; rintro e w4 ⟨rfl, hD⟩; replace hD := hide hD)
      go_ret
      exact ⟨0, rfl, hD.out⟩
end Go.Proofs.YtlmbgaconjcaiaaGreat

namespace Go.Proofs.YtlmbgaconjcaiaaGreat
open Go.RowKit

/-- The boxes of the call. -/
structure Bxs (w : World) (d : Bool) (u : Value) (x : World) : Prop where
  bel : Below w.heap.size w x
  b1 : x.heap[w.heap.size + 1]? = some (.cells #[.bool d, u] 32 (0, 0))
  b2 : x.heap[w.heap.size + 1 + 1]? = some (.cells #[.int .i64 0, .slice none 0 0] 24 (0, 0))
  b3 : x.heap[w.heap.size + 1 + 1 + 1]? = some (.cells #[.bool d, u] 32 (0, 0))
theorem Bxs.below {w x x' : World} {d : Bool} {u : Value} (h : Bxs w d u x) (hb : Below x.heap.size x x') : Bxs w d u x' :=
  ⟨h.bel.trans (hb.mono h.bel.size), (hb.block _ (lt_of_block h.b1)).trans h.b1, (hb.block _ (lt_of_block h.b2)).trans h.b2, (hb.block _ (lt_of_block h.b3)).trans h.b3⟩
theorem bxs_of (w : World) (d : Bool) (u : Value) (o : Obj) : Bxs w d u ((((w.alloc o).alloc (.cells #[.bool d, u] 32)).alloc (.cells #[.int .i64 0, .slice none 0 0] 24)).alloc (.cells #[.bool d, u] 32)) := by
  have s1 : (w.alloc o).heap.size = w.heap.size + 1 := by simp
  have s2 : ((w.alloc o).alloc (.cells #[.bool d, u] 32)).heap.size = w.heap.size + 1 + 1 := by simp
  have s3 : (((w.alloc o).alloc (.cells #[.bool d, u] 32)).alloc (.cells #[.int .i64 0, .slice none 0 0] 24)).heap.size = w.heap.size + 1 + 1 + 1 := by simp
  refine ⟨((((Below.refl _ _).alloc (Nat.le_refl _) _).alloc (by simp) _).alloc (by simp; omega) _).alloc (by simp; omega) _, ?_, ?_, ?_⟩
  · rw [heap_alloc_old _ _ (by rw [s3]; omega), heap_alloc_old _ _ (by rw [s2]; omega)]
    have := heap_alloc_new (w.alloc o) (.cells #[.bool d, u] 32)
    rwa [s1] at this
  · rw [heap_alloc_old _ _ (by rw [s3]; omega)]
    have := heap_alloc_new ((w.alloc o).alloc (.cells #[.bool d, u] 32)) (.cells #[.int .i64 0, .slice none 0 0] 24)
    rwa [s2] at this
  · have := heap_alloc_new (((w.alloc o).alloc (.cells #[.bool d, u] 32)).alloc (.cells #[.int .i64 0, .slice none 0 0] 24)) (.cells #[.bool d, u] 32)
    rwa [s3] at this

set_option maxHeartbeats 4000000 in
set_option maxRecDepth 100000 in
theorem rupDo_yes (a ac : Option Addr) (cap cac : Nat) (V : Nat) (css : List (List Int)) (d : Bool) (c : List Int) (w : World) (hg : GridC w a css) (hl : css.length ≤ 900) (hr : Row w ac c) (hlc : c.length ≤ 4096) (hn : ac = none → cac = 0) (hc : cnfB V css = true) (hm : mayB c 1048576 = true) :
    Calls Tryz.prog 16 #[.agg #[.int .i64 V, .slice a css.length cap], .agg #[.bool d, .slice ac c.length cac]] w fun e w' => ∃ x1 cv r css', e = .returned (.tuple #[.agg #[.int .i64 ((x1 : Nat) : Int), cv], .int .i64 r]) ∧ OG w.heap.size w' cv css' ∧ DoE V css d c r x1 css' ∧ Below w.heap.size w w' := by
  have hp : proofB [⟨d, c⟩] = true := by simp [proofB, hm]
  have ON : Hid (∀ x, Bxs w d (.slice ac c.length cac) x → Calls Tryz.prog 26 #[.agg #[.int .i64 V, .slice a css.length cap], .slice (some ⟨w.heap.size + 1 + 1 + 1, 0, none⟩) 1 1] x fun e w1 => ∃ k B, e = .returned (.tuple #[.pointer (some ⟨k, 0, none⟩), .int .i64 0]) ∧ Hid (OpenP x V css [⟨d, c⟩] k B w1) ∧ w1.cell? ⟨w.heap.size + 1, 0, none⟩ = some (.bool d) ∧ w1.cell? ⟨w.heap.size + 1, 1, none⟩ = some (.slice ac c.length cac)) := by
    intro x hx
    refine (open_yes a (some ⟨w.heap.size + 1 + 1 + 1, 0, none⟩) cap 1 V css [⟨d, c⟩] x (hg.below hx.bel) hl ?_ (by simp) hc hp).mono ?_
    · intro i hi
      obtain rfl : i = 0 := by simp at hi; omega
      exact ⟨_, _, ac, cac, rfl, lt_of_block hx.b3, ⟨by simpa using cell_of_block hx.b3 rfl, by simpa using cell_of_block (i := 1) hx.b3 rfl, hr.below hx.bel, by simp [maxLen]; omega, hn⟩⟩
    · rintro e w' ⟨k, B, rfl, hO⟩
      have hb := hx.below (by obtain ⟨ρ, s, hK, hE, _⟩ := hO; exact hE.bel)
      exact ⟨k, B, rfl, hO, cell_of_block hb.b1 rfl, cell_of_block (i := 1) hb.b1 rfl⟩
  have DN : Hid (∀ x k B w1, Bxs w d (.slice ac c.length cac) x → OpenP x V css [⟨d, c⟩] k B w1 → Calls Tryz.prog 33 #[.pointer (some ⟨k, 0, none⟩), .agg #[.bool d, .slice ac c.length cac]] w1 fun e w2 => ∃ r : Int, e = .returned (.int .i64 r) ∧ (r == 3) = false ∧ Hid (Calls Tryz.prog 34 #[.pointer (some ⟨k, 0, none⟩)] w2 fun e w3 => ∃ (x1 : Nat) (av : Option Addr) (cv : Nat) (css' : List (List Int)), e = .returned (.agg #[.int .i64 (x1 : Int), .slice av css'.length cv]) ∧ Hid (OG w.heap.size w3 (.slice av css'.length cv) css') ∧ Hid (DoE V css d c r x1 css') ∧ Hid (Bxs w d (.slice ac c.length cac) w3))) := by
    intro x k B w1 hx hO
    have key : Calls Tryz.prog 33 #[.pointer (some ⟨k, 0, none⟩), .agg #[.bool d, .slice ac c.length cac]] w1 fun e w' => ∃ r, e = .returned (.int .i64 r) ∧ DoneP x V css d c k B r w' := by
      cases d with
      | true => exact do_del hO hl ac cac (hr.below hx.bel) hlc hn hm hc
      | false => exact do_add hO hl ac cac (hr.below hx.bel) hlc hn hm hc
    refine key.mono ?_
    rintro e w2 ⟨r, rfl, ρ, u, x1, x2, x4, m1, m2, hK, hul, hb, hD⟩
    refine ⟨r, rfl, ?_, (formula_any hK hul).mono ?_⟩
    · rcases hD with h | h | h <;> rw [h.2.1] <;> rfl
    · rintro e w3 ⟨cv, rfl, hO3, hb3⟩
      obtain ⟨av, capv, rfl, _⟩ := hO3.grid
      exact ⟨x1, av, capv, liveL u.cls, rfl, hO3.mono (Nat.le_trans hx.bel.size hb.size), hD, (hx.below hb).below hb3⟩
  clear hg hr hc hm hp
  go_enter Tryz.func16, Tryz.ntmps16
  have HX := hide (bxs_of w d (.slice ac c.length cac) (.cells #[.int .i64 V, .slice a css.length cap] 24))
  obtain ⟨x, hx⟩ : ∃ x, x = (((w.alloc (.cells #[.int .i64 V, .slice a css.length cap] 24)).alloc (.cells #[.bool d, .slice ac c.length cac] 32)).alloc (.cells #[.int .i64 0, .slice none 0 0] 24)).alloc (.cells #[.bool d, .slice ac c.length cac] 32) := ⟨_, rfl⟩
  go_wp2_with (first | (go_at_call 26; rw [← hx] at HX ⊢; refine (ON.out x HX.out).mono ?_; rintro e w1 ⟨k, B, rfl, HO, c0, c1⟩) | (go_at_call 33; refine (DN.out x k B _ HX.out HO.out).mono ?_; rintro e w2 ⟨r, rfl, hr3, FN⟩) | (go_at_call 34; refine (unhide FN).mono ?_; rintro e w3 ⟨x1, av, cv, css', rfl, HG, HD, HB⟩; clear ON DN; have hy := HB.out.b2; have y0 : w3.cell? ⟨w.heap.size + 1 + 1, 0, none⟩ = some (.int .i64 0) := cell_of_block hy rfl; have y1 : w3.cell? ⟨w.heap.size + 1 + 1, 1, none⟩ = some (.slice none 0 0) := cell_of_block (i := 1) hy rfl; have z0 : w3.frozen? ⟨w.heap.size + 1 + 1, 0, none⟩ = false := by simp [World.frozen?, hy]); have z1 : w3.frozen? ⟨w.heap.size + 1 + 1, 1, none⟩ = false := by simp [World.frozen?, hy])
  have HO2 : Hid (OG w.heap.size ((w3.setCell ⟨w.heap.size + 1 + 1, 0, none⟩ (.int .i64 x1)).setCell ⟨w.heap.size + 1 + 1, 1, none⟩ (.slice av css'.length cv)) (.slice av css'.length cv) css') :=
    (HG.out.setCell hy).setCell ((setBlk hy _).trans (by simp; exact rfl))
  have HB2 : Hid (Below w.heap.size w ((w3.setCell ⟨w.heap.size + 1 + 1, 0, none⟩ (.int .i64 x1)).setCell ⟨w.heap.size + 1 + 1, 1, none⟩ (.slice av css'.length cv))) :=
    (HB.out.bel.setCell (by simp; omega) _).setCell (by simp; omega) _
  refine bodyPost_ret (v := .tuple #[.agg #[.int .i64 x1, .slice av css'.length cv], .int .i64 r]) (by simp [results, Tryz.results16, go_sem, y0, y1]) rfl ⟨x1, _, r, css', rfl, HO2.out, HD.out, HB2.out⟩

set_option maxHeartbeats 4000000 in
set_option maxRecDepth 100000 in
theorem rupDo_no (a ac : Option Addr) (cap cac : Nat) (n : Int) (css : List (List Int)) (d : Bool) (c : List Int) (w : World) (hg : Grid w a css) (hl : css.length ≤ maxLen) (hr : Row w ac c) (hlc : c.length ≤ maxLen) (hn : ac = none → cac = 0) (hno : cnfB n css = false ∨ (cnfB n css = true ∧ mayB c 1048576 = false)) :
    Calls Tryz.prog 16 #[.agg #[.int .i64 n, .slice a css.length cap], .agg #[.bool d, .slice ac c.length cac]] w fun e w' => e = .returned (.tuple #[.agg #[.int .i64 0, .slice none 0 0], .int .i64 1]) ∧ Below w.heap.size w w' := by
  have ON : Hid (∀ x, Bxs w d (.slice ac c.length cac) x → Calls Tryz.prog 26 #[.agg #[.int .i64 n, .slice a css.length cap], .slice (some ⟨w.heap.size + 1 + 1 + 1, 0, none⟩) 1 1] x fun e w1 => e = .returned (.tuple #[.pointer none, .int .i64 1]) ∧ Hid (Bxs w d (.slice ac c.length cac) w1)) := by
    intro x hx
    refine (open_no' a (some ⟨w.heap.size + 1 + 1 + 1, 0, none⟩) cap 1 n css [⟨d, c⟩] x (hg.below hx.bel) hl ?_ (by simp) ?_).mono ?_
    · intro i hi
      obtain rfl : i = 0 := by simp at hi; omega
      exact ⟨_, _, ac, cac, rfl, lt_of_block hx.b3, ⟨by simpa using cell_of_block hx.b3 rfl, by simpa using cell_of_block (i := 1) hx.b3 rfl, hr.below hx.bel, hlc, hn⟩⟩
    · rcases hno with h | ⟨h1, h2⟩
      · exact .inl h
      · exact .inr ⟨h1, by simp [proofB, h2]⟩
    · rintro e w' ⟨rfl, hb⟩
      exact ⟨rfl, hx.below hb⟩
  clear hg hr hno
  go_enter Tryz.func16, Tryz.ntmps16
  have HX := hide (bxs_of w d (.slice ac c.length cac) (.cells #[.int .i64 n, .slice a css.length cap] 24))
  obtain ⟨x, hx⟩ : ∃ x, x = (((w.alloc (.cells #[.int .i64 n, .slice a css.length cap] 24)).alloc (.cells #[.bool d, .slice ac c.length cac] 32)).alloc (.cells #[.int .i64 0, .slice none 0 0] 24)).alloc (.cells #[.bool d, .slice ac c.length cac] 32) := ⟨_, rfl⟩
  go_wp2_with (go_at_call 26; rw [← hx] at HX ⊢; refine (ON.out x HX.out).mono ?_; rintro e w3 ⟨rfl, HB⟩; clear ON; have hy := HB.out.b2; have y0 : w3.cell? ⟨w.heap.size + 1 + 1, 0, none⟩ = some (.int .i64 0) := cell_of_block hy rfl; have y1 : w3.cell? ⟨w.heap.size + 1 + 1, 1, none⟩ = some (.slice none 0 0) := cell_of_block (i := 1) hy rfl; have z0 : w3.frozen? ⟨w.heap.size + 1 + 1, 0, none⟩ = false := (by simp [World.frozen?, hy]); have z1 : w3.frozen? ⟨w.heap.size + 1 + 1, 1, none⟩ = false := by simp [World.frozen?, hy])
  have HB2 : Hid (Below w.heap.size w ((w3.setCell ⟨w.heap.size + 1 + 1, 0, none⟩ (.int .i64 0)).setCell ⟨w.heap.size + 1 + 1, 1, none⟩ (.slice none 0 0))) :=
    (HB.out.bel.setCell (by simp; omega) _).setCell (by simp; omega) _
  refine bodyPost_ret (v := .tuple #[.agg #[.int .i64 0, .slice none 0 0], .int .i64 1]) (by simp [results, Tryz.results16, go_sem, y0, y1]) rfl ⟨rfl, HB2.out⟩
end Go.Proofs.YtlmbgaconjcaiaaGreat
