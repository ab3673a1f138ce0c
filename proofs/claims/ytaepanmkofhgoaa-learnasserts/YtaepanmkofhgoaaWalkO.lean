/- Contract: what was learned, gone through as a map and then laid in its order. -/
import Derived.Test.YtaepanmkofhgoaaWalkN
set_option linter.unusedVariables false
set_option linter.unusedSimpArgs false
namespace Go.Proofs.Ytaepanmkofhgoaa
open Go.RowKit Go.Maps

/-- What was met so far. -/
structure Col (D : DataW Unit) (left : Lit → Bool) (L : List Int) : Prop where
  nd : L.Nodup
  mem : ∀ z, z ∈ L ↔ (Maps.has D (.int .i64 z) = true ∧ left (.int .i64 z) = false)

theorem same_int (a b : Int) : (Lit.int .i64 a).sameKey (.int .i64 b) = (a == b) := by
  by_cases e : a = b
  · subst e; simp [Lit.sameKey]
  · have : (Lit.int .i64 a).sameKey (.int .i64 b) = false := sameKey_ne (by simpa using e)
    rw [this]; simpa using e

theorem Col.start (D : DataW Unit) : Col D (Maps.has D) [] := ⟨List.nodup_nil, fun z => by simp⟩

theorem Col.step {D : DataW Unit} {left : Lit → Bool} {L : List Int} {x : Int} (h : Col D left L) (hl : left (.int .i64 x) = true) (hh : Maps.has D (.int .i64 x) = true) : Col D (fun z => left z && !z.sameKey (.int .i64 x)) (L ++ [x]) := by
  have hx : x ∉ L := fun hm => by have := ((h.mem x).1 hm).2; rw [hl] at this; cases this
  refine ⟨?_, fun z => ?_⟩
  · rw [List.nodup_append]
    exact ⟨h.nd, by simp, fun a ha b hb e => hx (by simp at hb; rw [← hb, ← e]; exact ha)⟩
  · rw [List.mem_append, h.mem, List.mem_singleton]
    rw [same_int]
    by_cases e : z = x
    · subst e; simp [hh]
    · simp [e]

theorem Col.fin {D : DataW Unit} {left : Lit → Bool} {L : List Int} (h : Col D left L) (hl : ∀ kl, left kl = false) : ∀ z, z ∈ L ↔ Maps.has D (.int .i64 z) = true := fun z => by rw [h.mem, hl]; simp

/-- A row of cells is not a map that is gone through. -/
theorem own_not_iter {base : Nat} {w : World} {v : Value} {xs : List Int} {B r N cn : Nat} {D : DataW Unit} {left : Lit → Bool} (h : Own base w v xs) (hr : w.ranges Try.prog 3 unitElem B r N D left cn) : some B ≠ v.ownBlock ∧ some r ≠ v.ownBlock := by
  obtain ⟨es, clock, since, seen, c0, hb, _, _, _, hri, _⟩ := hr
  rcases h.2 with ⟨rfl, _⟩ | ⟨g, cap, cur, rfl, _, hg, _⟩
  · simp [Value.ownBlock]
  · simp only [Value.ownBlock]
    refine ⟨fun e => ?_, fun e => ?_⟩
    · cases e; rw [hb] at hg; cases hg
    · cases e; rw [hri] at hg; cases hg

/-- What is sorted is what is learned, in its order. -/
theorem srt_turn {ts : List As} (T : Tr ts) {S ys : List Int} (hO : Ordered S) (hf : ∀ l ∈ S, falB ts l = true) (hm : ∀ z, z ∈ ys ↔ z ∈ S) (hn : ys.Nodup) (hs : ∀ i j (hij : i < j) (hj : j < ys.length), ¬ RB ts ys[j] (ys[i]'(by omega))) : ys = turn ts S := by
  refine sorted_unique ?_ (turn_sorted T hO hf) (fun z => by rw [hm, turn_mem T hf])
  rw [List.pairwise_iff_getElem]
  intro i j hi hj hij
  have h1 := hs i j hij hj
  have ha : falB ts ys[i] = true := hf _ ((hm _).1 (List.getElem_mem hi))
  have hb : falB ts ys[j] = true := hf _ ((hm _).1 (List.getElem_mem hj))
  have hne : ys[i] ≠ ys[j] := List.pairwise_iff_getElem.1 hn i j hi hj hij
  have hv : varI ys[i] ≠ varI ys[j] := fun e => hne (T.vars ha hb e)
  unfold RB at *
  omega

/-- What is left behind. -/
def TurnP (w0 w' : World) (zs : List Int) (e : Ending) : Prop := ∃ v, e = .returned v ∧ Own w0.heap.size w' v zs ∧ v ≠ .slice none 0 0 ∧ Below w0.heap.size w0 w'

/-- In the midst of going through. -/
structure RM (W1 wr : World) (B r N : Nat) (D : DataW Unit) (v : Value) (left : Lit → Bool) (cn : Nat) (L : List Int) : Prop where
  rg : wr.ranges Try.prog 3 unitElem B r N D left cn
  own : Own W1.heap.size wr v L
  nn : v ≠ .slice none 0 0
  col : Col D left L
  len : L.length + cn ≤ N
  bel : Below W1.heap.size W1 wr
  hr : W1.heap.size ≤ r

set_option maxHeartbeats 8000000 in
set_option maxRecDepth 100000 in
theorem inTurn_any (w0 : World) (pb : Nat) (ts : List As) (x : PP) (B N : Nat) (S : List Int) (P0 : Pth w0 pb ts ts.length x) (hm : MS w0 B N S) (hN : N ≤ 7000) (hO : Ordered S) (hf : ∀ l ∈ S, falB ts l = true) :
    Calls Try.prog 30 #[.pointer (some ⟨pb, 0, none⟩), .map (some B)] w0 fun e w' => TurnP w0 w' (turn ts S) e := by
  obtain ⟨i0, hi, hz0, hz1, hz2⟩ := info_parts Try.info3
  have T := Tr.of P0.ok
  obtain ⟨D, hown, hD⟩ := hm
  have hsz := hown.size_le
  have hblt := hown.lt
  obtain ⟨W1, hW1⟩ : ∃ W1, W1 = w0.alloc (.cells #[.pointer (some ⟨pb, 0, none⟩)] 40) := ⟨_, rfl⟩
  have hP1 : Pth W1 pb ts ts.length x := by rw [hW1]; exact P0.below (below_alloc w0 _)
  have hc2 : W1.cell? ⟨w0.heap.size, 0, none⟩ = some (.pointer (some ⟨pb, 0, none⟩)) := by rw [hW1]; exact box_cell w0 _ 40 rfl
  have hown1 : W1.ownsMap Try.prog 3 (unitElem (H := Unit)) B N D := by rw [hW1]; exact hown.alloc _
  have hs1 : W1.heap.size = w0.heap.size + 1 := by rw [hW1]; simp
  have hb01 : Below w0.heap.size w0 W1 := by rw [hW1]; exact below_alloc w0 _
  go_enter Try.func30, Try.ntmps30
  go_upto_region 1 with fail
  rw [← hW1]
  have HP1 := hide hP1
  have HB01 := hide hb01
  have HS1 := hide hs1
  clear hW1 hP1 hown hb01 hs1
  go_upto_region 3 with (first
    | (at_len; refine wpList_len_own _ rfl _ 46 rfl 3 56 Try.underlying46 _ B N D rfl hown1 ?_)
    | (at_make; refine wpList_make_own _ rfl _ _ 23 rfl W1.heap.size 3 i0 (.int .i64 0) 1 Try.underlying23 hi hz0 hz1 .i64 .i64 _ (Maps.size D) rfl rfl rfl (by rw [hz2]; omega) (by unfold maxLen; omega) (Nat.le_refl _) ?_; intro w2 hrow2 hgrow2; have hown2 := hown1.kept hgrow2 (by simp); have hb2 : Below W1.heap.size W1 w2 := (Below.refl _ _).grown hgrow2 (Nat.le_refl _) (by intro k h; cases h))
    | (at_range; refine wpList_range_own _ rfl _ 46 rfl 3 56 law3 Try.underlying46 _ B N D rfl hown2 ?_; intro w3 hrg3 hg3 hs3))
  go_frame
  have R3 : RM W1 w3 B w2.heap.size N D (.slice (some ⟨W1.heap.size, 0, none⟩) 0 (Maps.size D)) (Maps.has D) (Maps.size D) [] :=
    ⟨hrg3, World.ownsRow.kept hrow2 hg3 (by right; simp [Value.ownBlock]), by simp, Col.start D, by simp; omega, hb2.grown hg3 hb2.size (by intro k h; cases h), hb2.size⟩
  have HR3 := hide R3
  clear R3 hrg3 hg3 hs3 hb2 hown2 hgrow2 hrow2 hown1
  generalize w2.heap.size = r at *
  generalize hv0 : Value.slice (some ⟨W1.heap.size, 0, none⟩) 0 (Maps.size D) = v0 at *
  clear hv0
  go_loopw [5] (fun v wr => ∃ left cn L, RM W1 wr B r N D v left cn L) (fun _ wr => wr.rangeLeft B r)
  case atStart => exact ⟨_, _, _, HR3.out⟩
  case round =>
    clear HR3
    obtain ⟨left, cn, L, R⟩ := hrel
    have hrg := R.rg
    go_wp2_with (first
      | (at_next; refine wpList_next_ranges _ rfl _ rfl 3 law3 unitElem (Value.int .i64) (fun _ : Unit => Value.agg #[]) (fun key kl hk => by obtain ⟨x, hx, _⟩ := Maps.keyOf_int_inv Try.underlying3 hk; exact ⟨x, hx⟩) (fun v y hv => by obtain ⟨h1, _⟩ := unitElem_inv hv; exact ⟨(), h1⟩) B r N _ _ _ rfl hrg ?_ ?_)
      | go_in)
    · intro hc0 hl0
      have hL := R.col.fin hl0
      have hmem : ∀ z, z ∈ L ↔ z ∈ S := fun z => by rw [hL, hD, hasB_iff]
      obtain ⟨g, cap, rfl, hbg, hgl, _⟩ := R.own.src R.nn
      have hll := R.len
      have CS := hide (sort50_any wr W1 w0.heap.size pb g cap ts x L HP1.out hc2 R.bel R.own (fun l hl => hf l ((hmem l).1 hl)) (by omega))
      have HFIN : Hid (∀ ys, ys.Perm L → (∀ i j (hij : i < j) (hj : j < ys.length), ¬ RB ts ys[j] (ys[i]'(by omega))) → ys = turn ts S) := fun ys hp hs =>
        srt_turn T hO hf (fun z => by rw [hp.mem_iff, hmem]) (hp.nodup_iff.2 R.col.nd) hs
      clear R hrg hL hmem hc0 hl0 P0 hc2 hD
      go_wp2_with (go_at_call 50; refine (unhide CS).mono ?_; rintro e w5 ⟨rfl, ys, SP⟩)
      have hle := SP.perm.length_eq
      have HSP := hide SP
      clear SP
      go_ret
      refine ⟨_, rfl, ?_, by simp, ?_⟩
      · have e1 := HFIN.out ys HSP.out.perm HSP.out.srt
        rw [← e1]
        have h2 := HSP.out.own
        rw [hle] at h2
        exact h2.mono (by rw [HS1.out]; omega)
      · exact HB01.out.trans (HSP.out.bel.mono (by rw [HS1.out]; omega))
    · intro y kl yd yp w2 cnt2 hkey hlk hv hat hrg2 hlt hg2 hs2 hen
      obtain ⟨y', ey, rfl, _⟩ := Maps.keyOf_int_inv Try.underlying3 hkey
      obtain rfl : y = y' := by simpa using ey
      have hne := own_not_iter R.own hrg
      have hrow2 : Own W1.heap.size w2 u5 L := World.ownsRow.kept R.own hg2 (.inr (fun e => hne.2 e.symm))
      have hne2 := own_not_iter hrow2 hrg2
      have hb2 : Below W1.heap.size W1 w2 := R.bel.grown hg2 R.bel.size (by intro k hk; cases hk; exact R.hr)
      have HCOL := hide (R.col.step hlk (has_true_of_atKey hat))
      have hll := R.len
      have hle := hrg.left_eq
      have hr0 := R.hr
      clear R hkey hv hat hs2 hlk
      go_wp2_with (at_builtin; refine wpList_append_own _ rfl _ _ 23 rfl W1.heap.size 3 i0 (.int .i64 0) 1 8 Try.underlying23 hi hz0 hz1 hz2 rfl (by decide) _ _ _ rfl (hrow2.alloc _) ⟨w2.heap.size, 0, none⟩ 1 1 [.int .i64 y] rfl rfl (cell_one_new _ _ _) (fun x hx => by simp at hx; subst hx; rfl) (by unfold maxLen; omega) (by omega) (by have := hb2.size; simp; omega) ?_; intro v' w4 hown4 hgrow4 hnil4)
      have hrg4 := (hrg2.alloc (.cells #[.int .i64 y] 3)).kept hgrow4 hne2.1 hne2.2
      have hnn4 : v' ≠ .slice none 0 0 := fun h => absurd (hnil4.1 h).2 (by decide)
      have hown5 := own_snoc (ys := L ++ [y]) hown4 rfl
      have hb4 : Below W1.heap.size W1 w4 := ((hb2.alloc hb2.size (.cells #[.int .i64 y] 3)).grown hgrow4 (by have := hb2.size; simp; omega) (fun g hg => (hrow2.lt g hg).1))
      clear hown4 hgrow4 hnil4
      go_wp2
      go_roundw
      case rel => exact ⟨_, cnt2, L ++ [y], hrg4, hown5, hnn4, HCOL.out, by simp; omega, hb4, hr0⟩
      case measure => rw [hrg4.left_eq, hle]; exact hlt

end Go.Proofs.Ytaepanmkofhgoaa
