/- Contracts: the level that is gone back to; of how many levels a clause's literals are. -/
import Derived.Test.YtaepanmkofhgoaaWalkV
set_option linter.unusedVariables false
set_option linter.unusedSimpArgs false
namespace Go.Proofs.Ytaepanmkofhgoaa
open Go.RowKit Go.Maps

set_option maxHeartbeats 2000000 in
theorem back_none (w : World) (a b : Option Addr) (ca cb : Nat) (ts : List As) (h : Trl w a ts) (h20 : ts.length ≤ 20) (hm : mayT ts = true) :
    Calls Try.prog 18 #[.slice a ts.length ca, .slice b 0 cb] w fun e w' => e = .returned (.int .i64 (-1)) ∧ Below w.heap.size w w' := by
  have CR := hide (read_any w a ca ts h h20)
  go_enter Try.func18, Try.ntmps18
  go_wp2_with fail
  refine (unhide CR).mono ?_
  rintro e w1 (⟨hm2, rfl, hb⟩ | ⟨pb, x, hm2, rfl, R⟩)
  · rw [hm] at hm2; cases hm2
  · have HB := hide R.bel
    clear R CR hm hm2 h
    go_wp2
    go_ret
    exact ⟨rfl, HB.out⟩

theorem row_tail {w : World} {b off cap : Nat} {y : Int} {R : List Int} (hr : Row w (some ⟨b, off, none⟩) (y :: R)) : Row w (some ⟨b, off + 1, none⟩) R := by
  intro i hi
  obtain ⟨b', off', e, hb, hc⟩ := hr (i + 1) (by simp; omega)
  cases e
  refine ⟨b, off + 1, rfl, hb, ?_⟩
  rw [show off + 1 + i = off + (i + 1) by omega, hc]
  simp

set_option maxHeartbeats 2000000 in
theorem back_some (w : World) (a : Option Addr) (g ca cb : Nat) (ts : List As) (y : Int) (R : List Int) (h : Trl w a ts) (h20 : ts.length ≤ 20) (hm : mayT ts = true) (hr : Row w (some ⟨g, 0, none⟩) (y :: R)) (hcap : R.length + 1 ≤ cb) (hcm : cb ≤ maxLen) (hl : R.length ≤ 7000) (hL : ∀ l ∈ y :: R, falB ts l = true) :
    Calls Try.prog 18 #[.slice a ts.length ca, .slice (some ⟨g, 0, none⟩) (R.length + 1) cb] w fun e w' => e = .returned (.int .i64 (grt ts R)) ∧ Below w.heap.size w w' := by
  have CR := hide (read_any w a ca ts h h20)
  unfold maxLen at hcm
  go_enter Try.func18, Try.ntmps18
  go_wp2_with fail
  refine (unhide CR).mono ?_
  rintro e w1 (⟨hm2, rfl, hb⟩ | ⟨pb, x, hm2, rfl, RR⟩)
  · rw [hm] at hm2; cases hm2
  · have T := Tr.of RR.pth.ok
    have CF := areFalse_any w1 pb ts ts.length x (some ⟨g, 0, none⟩) cb (y :: R) RR.pth (hr.below RR.bel) (by unfold maxLen; simp; omega) (fit_of_fal T hL)
    have eall : (y :: R).all (fun l => falB (ts.take ts.length) l) = true := by rw [List.take_length, List.all_eq_true]; exact hL
    rw [eall] at CF
    have elen : (y :: R).length = R.length + 1 := rfl
    rw [elen] at CF
    replace CF := hide CF
    have HB := hide RR.bel
    have hn0 : ((R.length : Int) + 1 == 0) = false := by simp; omega
    by_cases hc1 : cb = 1
    · have hR : R = [] := List.length_eq_zero_iff.1 (by omega)
      subst hR
      subst hc1
      have CG := hide (fun n => greatest_any (w1.drewN n) pb ts x (some ⟨g, 0, none⟩) 0 [] (RR.pth.drewN n) (by intro i hi; simp at hi) (by unfold maxLen; simp) (fun l hl => by simp at hl))
      have e0 : ([] : List Int).length = 0 := rfl
      rw [e0] at CG CF
      clear RR CR hm hm2 h eall elen T hr hL hn0 hcap hcm hl e0
      go_wp2_with (first
        | (go_at_call 36; refine (unhide CF).mono ?_; rintro e w0 ⟨rfl, n, hw0⟩; subst w0)
        | (go_at_call 41; refine (unhide CG _).mono ?_; rintro e w0 ⟨rfl, n2, hw0⟩; subst w0))
      go_ret
      exact ⟨rfl, below_drewN HB.out _⟩
    · have hc2 : 1 < cb := by omega
      have CG := hide (fun n => greatest_any (w1.drewN n) pb ts x (some ⟨g, 0 + 1, none⟩) (cb - 1) R (RR.pth.drewN n) ((row_tail (cap := cb) (hr.below RR.bel)).below (below_drew w1 n)) (by unfold maxLen; omega) (fun l hl => hL l (by simp [hl])))
      simp only [Nat.zero_add] at CG
      clear RR CR hm hm2 h eall elen T hr hL hc1
      generalize R.length = rn at *
      go_wp2_with (first
        | (go_at_call 36; refine (unhide CF).mono ?_; rintro e w0 ⟨rfl, n, hw0⟩; subst w0)
        | (go_at_call 41; refine (unhide CG _).mono ?_; rintro e w0 ⟨rfl, n2, hw0⟩; subst w0))
      go_ret
      exact ⟨rfl, below_drewN HB.out _⟩

/-- What is told of levels. -/
def LevP (w w' : World) (n : Nat) (e : Ending) : Prop := ∃ r : Nat, e = .returned (.int .i64 r) ∧ r ≤ n ∧ Below w.heap.size w w'

set_option maxHeartbeats 4000000 in
set_option maxRecDepth 100000 in
theorem levels_any (w : World) (a b : Option Addr) (ca cb : Nat) (ts : List As) (xs : List Int) (h : Trl w a ts) (h20 : ts.length ≤ 20) (hm : mayT ts = true) (hr : Row w b xs) (hl : xs.length ≤ 7000) (hL : ∀ l ∈ xs, falB ts l = true) :
    Calls Try.prog 20 #[.slice a ts.length ca, .slice b xs.length cb] w fun e w' => LevP w w' xs.length e := by
  have CR := hide (read_any w a ca ts h h20)
  have hmm := @run_makeMap Try.prog
  go_enter Try.func20, Try.ntmps20
  go_wp2_with fail
  refine (unhide CR).mono ?_
  rintro e w1 (⟨hm2, rfl, hb⟩ | ⟨pb, x, hm2, rfl, RR⟩)
  · rw [hm] at hm2; cases hm2
  · have T := Tr.of RR.pth.ok
    have CP := hide (fun w' (hb : Below w1.heap.size w1 w') l => place_any w' pb ts ts.length x l (RR.pth.below hb))
    have CLV := hide (fun w' (hb : Below w1.heap.size w1 w') l hl => level_any w' pb ts x l (RR.pth.below hb) hl)
    have HB := hide RR.bel
    have hm0 : (w1.alloc (.map #[] 0)).ownsMap Try.prog 3 (unitElem (H := Unit)) w1.heap.size 0 (.map []) := World.ownsMap_made (H := Unit) w1 Try.prog 3 unitElem
    have HM0 := hide hm0
    clear RR CR hm hm2 h hm0
    go_upto_region 6 with fail
    go_loopw [20] (fun i wr => ∃ (k : Nat) (D : DataW Unit), k ≤ xs.length ∧ i = .int .i64 k ∧ wr.ownsMap Try.prog 3 unitElem w1.heap.size k D ∧ Below w1.heap.size w1 wr) (fun i _ => xs.length - (intOf i).toNat)
    case atStart => exact ⟨0, .map [], Nat.zero_le _, rfl, HM0.out, below_alloc w1 _⟩
    case round =>
      clear HM0 hmm
      obtain ⟨k, D, hk, rfl, hown, hbel⟩ := hrel
      by_cases hlt : k < xs.length
      · obtain ⟨b3, off3, rfl, hb3, hc3⟩ := hr k hlt
        have hb0 : Below w.heap.size w wr := HB.out.trans (hbel.mono HB.out.size)
        have hc' := (hb0.cell (p := ⟨b3, off3 + k, none⟩) hb3).trans hc3
        have hf := hL _ (List.getElem_mem hlt)
        have hl2 := litB_true.1 (fal_lit T.vl hf)
        have C1 := (unhide CP) wr hbel xs[k]
        rw [List.take_length, varW_lit hl2.2.1 hl2.2.2, (T.fal hf).2.2] at C1
        replace C1 := hide C1
        have C2 := hide (fun n => (unhide CLV) (wr.drewN n) (below_drewN hbel n) xs[k] hf)
        have hlb := T.levI_bd hf
        have hkey := key3 (l := levI ts xs[k]) (by omega)
        have hpn : (((pl ts xs[k] : Nat) : Int) != -1) = true := by simp
        clear hr CP CLV T hf hl2 hL hc3 hb3
        generalize pl ts xs[k] = j at *
        generalize levI ts xs[k] = lv at *
        go_wp2_with (first
          | (go_at_call 39; refine (unhide C1).mono ?_; rintro e w0 ⟨rfl, n1, hw0⟩; subst w0)
          | (go_at_call 42; refine (unhide C2 _).mono ?_; rintro e w0 ⟨rfl, n2, hw0⟩; subst w0)
          | (at_mapUpdate; refine wpList_mapUpdate_in _ rfl _ _ _ 46 rfl 3 56 law3 Try.underlying46 _ w1.heap.size k D rfl (hown.kept (row := none) ⟨rfl, rfl, rfl, Nat.le_refl _, fun _ _ _ => rfl⟩ (by simp)) (by unfold maxLen; omega) _ _ _ rfl rfl hkey (.agg []) [] unitElem_mk ?_; intro w5 hown5 hturn5))
        have hbel5 : Below w1.heap.size w1 w5 := (below_drewN hbel _).grown hturn5.grown hbel.size (by intro k hk; cases hk; exact Nat.le_refl _)
        exact ⟨⟨k + 1, _, by omega, by go_num, hown5, hbel5⟩, by simp [intOf]; omega⟩
      · have hsz := hown.size_le
        clear hr CP CLV
        go_wp2_with (at_len; refine wpList_len_own _ rfl _ 46 rfl 3 56 Try.underlying46 _ w1.heap.size k D rfl hown ?_)
        go_ret
        exact ⟨Maps.size D, rfl, by omega, HB.out.trans (hbel.mono HB.out.size)⟩

end Go.Proofs.Ytaepanmkofhgoaa
