/- Contracts: Count: the word of how many are true. -/
import Derived.Test.YtbilhiklfficoaaCg
set_option linter.unusedVariables false
set_option linter.unusedSimpArgs false
namespace Go.Proofs.Ytbilhiklfficoaa
open Go.RowKit Go.Maps

/-- Count in its midst: a word in the making, and the column that is left. -/
structure Cm (w W : World) (B M : Nat) (v v' : Value) (g g' : List Gt) (k m q : Nat) (l : List Int) (cv : Value) (col : List Int) : Prop where
  ml : Ml w W B M v v' g g' k m q l
  c : RX W cv col
  cw : ∀ b, blkX cv = some b → w.heap.size ≤ b ∧ ¬ Sv B M v' b ∧ b ≠ q
section
variable {w W W1 : World} {B M k j m q : Nat} {v v' v1 : Value} {g g' g1 : List Gt} {l col col1 car : List Int} {cv cv1 rv : Value}
theorem Cm.total (h : Cm w W B M v v' g g' k m q l cv col) (t : Tl W W1 B M v' v1 g' g1 j cv cv1 col1 rv car) : Cm w W1 B M v v1 g g1 (k + j) m q l rv car := by
  have hq : q < W.heap.size := h.ml.rw.lt
  have hne : blkX cv ≠ some q := fun e => (h.cw q e).2.2 rfl
  have hfar : ¬ Sv B M v1 q := sv_far h.ml.far t.nv hq
  have hblk : W1.heap[q]? = W.heap[q]? := t.kp.block q hq (fun e => e.elim h.ml.far hne)
  refine ⟨⟨⟨t.gr, h.ml.st.kp.trans t.kp (fun x hx hs => ?_), h.ml.st.nv.trans t.nv h.ml.st.kp.size, h.ml.st.grow.trans t.grow, fun e => t.emp (h.ml.st.emp e)⟩, h.ml.rw.same hblk, h.ml.len, h.ml.new, hfar⟩, t.r, fun b e => ?_⟩
  · rcases hs with hs | hs
    · exact sv_new h.ml.st.nv x hx hs
    · have := (h.cw x hs).1; omega
  · have h1 := t.rw b e
    exact ⟨Nat.le_trans h.ml.st.kp.size h1, t.rf b e, by omega⟩
theorem Cm.set (h : Cm w W B M v v' g g' k m q l cv col) (i : Nat) (x : Int) : Cm w (W.setCell ⟨q, i, none⟩ (.int .i64 x)) B M v v' g g' k m q (l.set i x) cv col :=
  ⟨h.ml.set i x, h.c.same fun b e => (setOff W q i (.int .i64 x)).1 b (h.cw b e).2.2, h.cw⟩
theorem Cm.mono (h : Cm w W B M v v' g g' k m q l cv col) (hk : k ≤ j) : Cm w W B M v v' g g' j m q l cv col := ⟨h.ml.mono hk, h.c, h.cw⟩
theorem Cm.below (h : Cm w W B M v v' g g' k m q l cv col) (hb : Below W.heap.size W W1) : Cm w W1 B M v v' g g' k m q l cv col :=
  ⟨h.ml.below hb, h.c.below hb, h.cw⟩
end
/-- What Count tells: the word of a number. -/
def CNP (w : World) (B M : Nat) (v : Value) (g : List Gt) (m : Nat) (A : List Bool → List Bool) (e : Ending) (w' : World) : Prop :=
  ∃ f, WP w B M v g m 4000 f e w' ∧ ∀ ins, numB (f ins) = cntT (A ins)

section
variable (w : World) (B M : Nat) (v : Value) (g : List Gt)
set_option maxHeartbeats 1000000 in
theorem count_no (ax : Option Addr) (ca : Nat) (l : List Int) (hA : Gr w B M v g) (hr : Row w ax l) (hl : l.length ≤ 100) (hm : mayL g l = false) :
    Calls Try.prog 9 #[.pointer (some ⟨B, 0, none⟩), .slice ax l.length ca] w fun e w' => e = .returned (.slice none 0 0) ∧ w' = w := by
  have IC := isCounted_any w B M v g ax ca l hA hr hl
  rw [hm] at IC
  replace IC := hide IC
  clear hA hr
  go_enter Try.func9, Try.ntmps9
  go_wp2_with (go_at_call 27; refine (unhide IC).mono ?_; rintro e w' ⟨rfl, hw'⟩; subst w')
  go_ret
  exact ⟨rfl, rfl⟩

set_option maxHeartbeats 4000000 in
theorem count_yes (ax : Option Addr) (ca : Nat) (l : List Int) (n : Nat) (A : List Bool → List Bool)
    (hA : Gr w B M v g) (hlen : g.length ≤ 900000) (hn : l.length = n) (h64 : n ≤ 64) (hr : Row w ax l) (hf : ax = none → l = []) (hw : Wt g l A) :
    Calls Try.prog 9 #[.pointer (some ⟨B, 0, none⟩), .slice ax n ca] w (CNP w B M v g (enN n) A) := by
  obtain ⟨m, hm⟩ : ∃ m, enN n = m := ⟨_, rfl⟩
  have hm16 : 1 ≤ m ∧ m ≤ 16 := by rw [← hm]; exact enN_16 (by omega)
  have hend : Hid (n / 2 ^ m = 0) := Nat.div_eq_of_lt (by rw [← hm]; exact enN_lt n)
  have IC : Hid (Calls Try.prog 27 #[.pointer (some ⟨B, 0, none⟩), .slice ax n ca] w fun e w' => e = .returned (.bool true) ∧ w' = w) := by
    have h := isCounted_any w B M v g ax ca l hA hr (by omega)
    rwa [mayL_iff.2 ⟨hw.1, by omega⟩, hn] at h
  have EN : Hid (Calls Try.prog 22 #[.int .i64 (n : Int)] w fun e w' => e = .returned (.int .i64 (m : Int)) ∧ w' = w) := by
    have h := enough_any w (n : Int) (by unfold inI64; omega)
    have e : enI (n : Int) = (m : Int) := by unfold enI; rw [if_pos (by omega), Int.toNat_natCast, hm]
    rwa [e] at h
  rw [hm]
  have CLN : Hid (∀ W, Below w.heap.size w W → Calls Try.prog 28 #[.slice ax n ca] W (CloneI W l)) := fun W hb => by
    have h := cloneI_any W ax ca l (hr.below hb) hf (by omega)
    rwa [hn] at h
  have mk := mk_any m (by omega)
  have HML := hide (Ml.start hA m)
  have HW0 := hide hw
  have HN := hide hn
  have HLEN := hide hlen
  have HA := hide hA.lt
  have TT : Hid (∀ W v' g' al cap col p C, Gr W B M v' g' → g'.length ≤ 990000 → col.length = p → p ≤ 64 → RX W (.slice al p cap) col → (∀ b, blkX (.slice al p cap) = some b → ¬ Sv B M v' b) → Wt g' col C → Calls Try.prog 29 #[.pointer (some ⟨B, 0, none⟩), .slice al p cap] W (TotP W B M v' g' (.slice al p cap) p C)) := fun W v' g' al cap col p C h1 h2 h3 h4 h5 h6 h7 => total_any W B M v' g' al cap col p C h1 h2 h3 h4 h5 h6 h7
  clear hA hr hf hw hlen
  go_enter Try.func9, Try.ntmps9
  go_upto_region 5 with (first
    | (go_at_call 27; refine (unhide IC).mono ?_; rintro e w' ⟨rfl, hw'⟩; subst w')
    | (go_at_call 22; refine (unhide EN).mono ?_; rintro e w' ⟨rfl, hw'⟩; subst w')
    | (go_at_call 28; refine (unhide CLN _ (below_alloc w _)).mono ?_; rintro e w1 ⟨a1, c1, rfl, hrx, hb1, hnew⟩))
  have HC0 : Hid (Cm w w1 B M v v g g (224 * 0) m w.heap.size (List.replicate m 0) (.slice a1 n c1) l) := by
    have hl := HA.out
    have hz : (w.alloc (.cells (madeCells #[.int .i64 0] m) 3)).heap.size = w.heap.size + 1 := by simp
    rw [HN.out] at hrx hnew
    refine ⟨HML.out.below hb1, hrx, fun b e => ?_⟩
    have h1 := hnew b e
    rw [hz] at h1
    refine ⟨by omega, ?_, by omega⟩
    rintro (h | h | h)
    · omega
    · omega
    · have := hl.2.2 _ h; omega
  clear HML mk hrx hb1 hnew IC EN CLN HA
  generalize w.heap.size = q at *
  go_wp2
  go_loopw [6, 20] (fun c i W => ∃ k : Nat, k ≤ m ∧ i = .int .i64 (k : Int) ∧ ∃ a p cp v' g' wl col F C, c = .slice a p cp ∧ Hid (Cm w W B M v v' g g' (224 * k) m q wl (.slice a p cp) col) ∧ Hid (col.length = n / 2 ^ k) ∧ Hid (Wt g' (wl.take k) F) ∧ Hid (Wt g' col C) ∧ Hid (∀ ins, numB (F ins) + 2 ^ k * cntT (C ins) = cntT (A ins))) (fun _ i _ => m - (intOf i).toNat)
  case atStart =>
    refine ⟨0, Nat.zero_le _, rfl, a1, n, c1, v, g, _, l, fun _ => [], A, rfl, HC0, ?_, ?_, HW0, ?_⟩
    · unfold Hid; rw [HN.out]; simp
    · exact Wt.nil
    · intro ins; simp [numB]
  case round =>
    clear HC0 HW0
    obtain ⟨k, hk, rfl, a, p, cp, v', g', wl, col, F, C, rfl, HC, HCL, HF, HCW, HNUM⟩ := hrel
    have hp : col.length = p := HC.out.c.row.2.symm
    have hgl : g'.length ≤ g.length + 224 * k := HC.out.ml.st.len
    by_cases hlt : k < m
    · have hp64 : p ≤ 64 := by rw [← hp, HCL.out]; exact Nat.le_trans (Nat.div_le_self _ _) h64
      have T1 := hide (unhide TT wr v' g' a cp col p C HC.out.ml.st.gr (by have := HLEN.out; omega) hp hp64 HC.out.c (fun b e => (HC.out.cw b e).2.1) HCW.out)
      have HPP := hide hp
      have HP64 := hide hp64
      have hkm : (k : Int) < (m : Int) := by omega
      clear hp hgl hp64
      go_wp2_with (first
        | (go_at_call 29; refine (unhide T1).mono ?_; rintro e w2 ⟨x, rv, car, v1, g1, col1, cv1, X, R, rfl, tl, hcl, hx, hwr, hnum⟩; have HK1 := HC.out.total tl; have z1 := HK1.ml.cell hlt; have f1 := HK1.ml.fz k))
      obtain ⟨ra, rc, rfl⟩ := tl.r.form
      go_roundw
      case rel =>
        have hwl := HK1.ml.len
        refine ⟨k + 1, by omega, by go_num, ra, car.length, rc, v1, g1, wl.set k x, car, fun ins => F ins ++ [X ins], R, rfl, (HK1.set k x).mono ?_, ?_, ?_, hwr, fun ins => ?_⟩
        · have := HP64.out; omega
        · unfold Hid; rw [hcl, ← HPP.out, HCL.out, Nat.div_div_eq_div_mul, Nat.pow_succ]
        · unfold Hid
          rw [take_set _ _ _ (by omega)]
          exact (HF.out.grow tl.grow).snoc hx
        · have h1 := HNUM.out ins
          have h2 := hnum ins
          have h3 := HF.out.len ins
          rw [List.length_take, HC.out.ml.len, Nat.min_eq_left (by omega)] at h3
          show numB (F ins ++ [X ins]) + _ = _
          rw [numB_snoc, h3, Nat.pow_succ, ← h1, ← h2, Nat.mul_add, Nat.mul_assoc]; omega
      case measure => simp [intOf]; omega
    · obtain rfl : k = m := by omega
      have hcol : col = [] := List.eq_nil_of_length_eq_zero (by rw [HCL.out, hend.out])
      have hwl := HC.out.ml.len
      have hF := HF.out
      rw [List.take_of_length_le (by omega)] at hF
      have VC := vcheck_any wr B M v' g' (some ⟨q, 0, none⟩) k wl k HC.out.ml.st.gr hwl HC.out.ml.rw.row (by unfold maxLen; omega)
      rw [hF.ok (by omega) (by omega)] at VC
      replace VC := hide VC
      have HR : Hid (CNP w B M v g k A (.returned (.slice (some ⟨q, 0, none⟩) k k)) wr) := by
        refine ⟨F, (HC.out.ml.mono (by omega)).wp hF, fun ins => ?_⟩
        have h1 := HNUM.out ins
        have h2 := HCW.out.len ins
        rw [hcol] at h2
        rw [List.eq_nil_of_length_eq_zero h2] at h1
        simpa [cntT] using h1
      clear hcol hwl hF HC HCL HF HCW HNUM hgl hp
      go_wp2_with (go_at_call 30; refine (unhide VC).mono ?_; rintro e w' ⟨rfl, hw'⟩; subst w')
      go_ret
      exact HR.out
end
end Go.Proofs.Ytbilhiklfficoaa
