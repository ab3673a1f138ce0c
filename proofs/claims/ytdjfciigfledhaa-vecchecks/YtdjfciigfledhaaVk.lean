/- Contracts: divide, Div. -/
import Derived.Test.YtdjfciigfledhaaVi
import Derived.Test.YtdjfciigfledhaaVecD
set_option linter.unusedVariables false
set_option linter.unusedSimpArgs false
namespace Go.Proofs.Ytdjfciigfledhaa
open Go.RowKit Go.Maps

/-- A quotient and a rest in the making. -/
structure Dv (w W : World) (B M : Nat) (v v' : Value) (g g' : List Gt) (k n q r : Nat) (ql rl : List Int) : Prop where
  mq : Ml w W B M v v' g g' k n q ql
  mr : Ml w W B M v v' g g' k n r rl
  ne : q ≠ r
section
variable {w W W1 : World} {B M k j n q r : Nat} {v v' v'' : Value} {g g' g'' : List Gt} {ql rl rl' : List Int}
theorem Dv.act (h : Dv w W B M v v' g g' k n q r ql rl) (s : St W W1 B M v' v'' g' g'' j) : Dv w W1 B M v v'' g g'' (k + j) n q r ql rl := ⟨h.mq.act s, h.mr.act s, h.ne⟩
theorem Dv.below (h : Dv w W B M v v' g g' k n q r ql rl) (hb : Below W.heap.size W W1) : Dv w W1 B M v v' g g' k n q r ql rl := ⟨h.mq.below hb, h.mr.below hb, h.ne⟩
theorem Dv.mono (h : Dv w W B M v v' g g' k n q r ql rl) (hk : k ≤ j) : Dv w W B M v v' g g' j n q r ql rl := ⟨h.mq.mono hk, h.mr.mono hk, h.ne⟩
theorem Dv.setQ (h : Dv w W B M v v' g g' k n q r ql rl) (i : Nat) (x : Int) : Dv w (W.setCell ⟨q, i, none⟩ (.int .i64 x)) B M v v' g g' k n q r (ql.set i x) rl :=
  ⟨h.mq.set i x, ⟨(h.mq.set i x).st, h.mr.rw.same (hd_far h.ne.symm), h.mr.len, h.mr.new, h.mr.far⟩, h.ne⟩
theorem Dv.setR (h : Dv w W B M v v' g g' k n q r ql rl) (i : Nat) (x : Int) : Dv w (W.setCell ⟨r, i, none⟩ (.int .i64 x)) B M v v' g g' k n q r ql (rl.set i x) :=
  ⟨⟨(h.mr.set i x).st, h.mq.rw.same (hd_far h.ne), h.mq.len, h.mq.new, h.mq.far⟩, h.mr.set i x, h.ne⟩
theorem Dv.copyR (h : Dv w W B M v v' g g' k n q r ql rl) (hg : W.grownBy W1 (some r)) (hr : Rw W1 r rl') (hl : rl'.length = n) : Dv w W1 B M v v' g g' k n q r ql rl' :=
  ⟨⟨(h.mr.copy hg hr hl).st, h.mq.rw.same (hg.block q h.mq.rw.lt (fun e => h.ne (by simpa using e))), h.mq.len, h.mq.new, h.mq.far⟩, h.mr.copy hg hr hl, h.ne⟩
theorem ml_next {o : Obj} (h : Gr w B M v g) (n : Nat) : Ml w ((w.alloc o).alloc (.cells (madeCells #[.int .i64 0] n) 3)) B M v v g g 0 n (w.heap.size + 1) (List.replicate n 0) := by
  have hb := below_alloc w o
  have h2 := Ml.start (h.below hb) n
  have hs : (w.alloc o).heap.size = w.heap.size + 1 := by simp
  rw [hs] at h2
  exact ⟨((St.refl h).below hb).trans h2.st |>.mono (by omega), h2.rw, h2.len, by omega, h2.far⟩
theorem dv_start (h : Gr w B M v g) (n : Nat) (o o' : Obj) (eo : o = .cells (madeCells #[.int .i64 0] n) 3) (eo' : o' = o) :
    Dv w ((w.alloc o).alloc o') B M v v g g 0 n w.heap.size (w.heap.size + 1) (List.replicate n 0) (List.replicate n 0) ∧ Dv w ((w.alloc o).alloc o') B M v v g g 0 n (w.heap.size + 1) w.heap.size (List.replicate n 0) (List.replicate n 0) := by
  subst eo' eo
  have m2 := ml_next (o := .cells (madeCells #[.int .i64 0] n) 3) h n
  have m1 := (Ml.start h n).below (below_alloc _ (.cells (madeCells #[.int .i64 0] n) 3))
  exact ⟨⟨m1, m2, by omega⟩, ⟨m2, m1, by omega⟩⟩
end

/-- What a division tells. -/
def DP (w : World) (B M : Nat) (v : Value) (g : List Gt) (n k : Nat) (NQ NR : List Bool → Nat) (e : Ending) (w' : World) : Prop :=
  ∃ q r ql rl v' g' Q R, e = .returned (.tuple #[.slice (some ⟨q, 0, none⟩) n n, .slice (some ⟨r, 0, none⟩) n n]) ∧ Dv w w' B M v v' g g' k n q r ql rl ∧ Wt g' ql Q ∧ Wt g' rl R ∧ (∀ ins, numB (Q ins) = NQ ins) ∧ ∀ ins, numB (R ins) = NR ins

section
variable (w : World) (B M : Nat) (v : Value) (g : List Gt)

set_option maxHeartbeats 4000000 in
theorem divide_any (ax bx : Option Addr) (ca cb : Nat) (a b : List Int) (n : Nat) (A Y : List Bool → List Bool)
    (hA : Gr w B M v g) (hl : g.length ≤ 900000) (hn : a.length = n) (hm : b.length = n) (h1 : 1 ≤ n) (h16 : n ≤ 16) (hcb : n ≤ cb) (hr : Fr w B M v ax a) (hs : Fr w B M v bx b) (ha : Wt g a A) (hb : Wt g b Y) :
    Calls Try.prog 55 #[.pointer (some ⟨B, 0, none⟩), .slice ax n ca, .slice bx n cb] w (DP w B M v g n 5000 (fun ins => quoN (numB (A ins)) (numB (Y ins)) n 0) (fun ins => rstN (numB (A ins)) (numB (Y ins)) 0)) := by
  have mk := mk_any n (by omega)
  obtain ⟨p1, o1, rfl⟩ := hr.addr (by omega)
  obtain ⟨p2, o2, rfl⟩ := hs.addr (by omega)
  have HA := hide hA
  have HR := hide hr
  have HT := hide hs
  have HWA := hide ha
  have HWB := hide hb
  have HN := hide hn
  have HNB := hide hm
  clear hA hr hs ha hb hn hm
  go_enter Try.func55, Try.ntmps55
  go_upto_region 2 with fail
  go_cut [6, 7] from 14 to 18 (fun x y wx => ∃ q r, x = .slice (some ⟨q, 0, none⟩) n n ∧ y = .slice (some ⟨r, 0, none⟩) n n ∧ Hid (Dv w wx B M v v g g 0 n q r (List.replicate n 0) (List.replicate n 0)))
  case first =>
    go_region
    all_goals
      go_wp2_with fail
      go_meet
      case rel =>
        have hd := dv_start HA.out n _ _ rfl rfl
        first
          | exact ⟨_, _, rfl, rfl, hd.1.below (below_drewN (Below.refl _ _) 1)⟩
          | exact ⟨_, _, rfl, rfl, hd.2.below (below_drewN (Below.refl _ _) 1)⟩
  case rest =>
    obtain ⟨q, r, rfl, rfl, HS⟩ := hcut
    clear mk
    obtain ⟨W0, rfl⟩ : ∃ W, W = wc := ⟨_, rfl⟩
    have hq0 : ∀ ins, numB (List.replicate n false) = 2 ^ n * quoN (numB (A ins)) (numB (Y ins)) n n := fun ins => by
      have hlA := numB_lt (A ins)
      rw [HWA.out.len ins, HN.out] at hlA
      rw [numB_zeros, quo_start hlA, Nat.mul_zero]
    have hr0 : ∀ ins, numB (List.replicate n false) = rstN (numB (A ins)) (numB (Y ins)) n := fun ins => by
      have hlA := numB_lt (A ins)
      rw [HWA.out.len ins, HN.out] at hlA
      rw [numB_zeros, rst_start hlA]
    have HQ0 := hide hq0
    have HR0 := hide hr0
    clear hq0 hr0
    go_upto_region 4 with fail
    go_loopw [9] (fun i W => ∃ k m : Nat, Hid (m = k + 1) ∧ k ≤ n ∧ i = .int .i64 (m : Int) ∧ ∃ v' g' ql rl Q R, Hid (Dv w W B M v v' g g' (300 * k) n q r ql rl) ∧ Hid (Wt g' ql Q) ∧ Hid (Wt g' rl R) ∧ Hid (∀ ins, numB (Q ins) = 2 ^ (n - k) * quoN (numB (A ins)) (numB (Y ins)) n (n - k)) ∧ Hid (∀ ins, numB (R ins) = rstN (numB (A ins)) (numB (Y ins)) (n - k))) (fun i _ => n + 1 - (intOf i).toNat)
    case atStart => exact ⟨0, 1, rfl, Nat.zero_le _, rfl, v, g, _, _, _, _, HS, wt_zeros g n, wt_zeros g n, HQ0.out, HR0.out⟩
    case round =>
      clear HS HQ0 HR0
      obtain ⟨k, m, HM, hk, rfl, v', g', ql, rl, Q, R, HD, HWQ, HWR, HQ, HRR⟩ := hrel
      by_cases hlt : m ≤ n
      · have hm1 : 1 ≤ m := by have := HM.out; omega
        have hm1I : (1 : Int) ≤ m := by omega
        have hmn : (m : Int) ≤ n := by omega
        have hmc : (m : Int) ≤ cb := by omega
        have hrlen := HD.out.mr.len
        have HRLEN := hide hrlen
        have HRN : Hid (∀ ins, (R ins).length = n) := fun ins => by rw [HWR.out.len ins]; exact hrlen
        clear hrlen
        go_upto_region 6 with fail
        go_cut [27] from 23 to 27 (fun x wx => Hid (Dv w wx B M v v' g g' (300 * k) n q r ql (rl.take 1 ++ (rl.take k ++ rl.drop (1 + k)))))
        case first =>
          by_cases hk0 : k = 0
          · have HE : Hid (Dv w wr B M v v' g g' (300 * k) n q r ql (rl.take 1 ++ (rl.take k ++ rl.drop (1 + k)))) := by
              subst hk0
              have e : rl.take 1 ++ (rl.take 0 ++ rl.drop (1 + 0)) = rl := by
                show rl.take 1 ++ ([] ++ rl.drop 1) = rl
                rw [List.nil_append, List.take_append_drop]
              rw [e]; exact HD.out
            have hm2 : Hid (m = 1) := by have := HM.out; unfold Hid; omega
            clear hk0
            by_cases hn1 : n = 1
            · have hn2 : (n = 1) = True := by simp [hn1]
              clear hn1
              go_wp2_with (refine wpList_copy_nothing rfl _ _ 27 27 rfl 3 Try.underlying27 size3 _ _ (m - 1) _ n _ (by rfl) (by rfl) (by rw [hm2.out]; simp) ?_)
              go_meet
              case rel => exact HE
            · go_wp2_with (refine wpList_copy_nothing rfl _ _ 27 27 rfl 3 Try.underlying27 size3 _ _ (m - 1) _ n _ (by rfl) (by rfl) (by rw [hm2.out]; simp) ?_)
              go_meet
              case rel => exact HE
          · have hn1 : ¬ n = 1 := by have := HM.out; omega
            have hcl : (rl.take k).length = m - 1 := by rw [List.length_take, HRLEN.out]; have := HM.out; omega
            have HCL := hide hcl
            clear hcl
            go_wp2_with (refine wpList_copy_rw rfl _ _ 27 27 rfl Try.underlying27 r 1 (m - 1) (n - 1) r 0 n n (by rfl) (by rfl) rl (rl.take k) HD.out.mr.rw (by rw [HCL.out]; show m - 1 = min n (m - 1); omega) (HD.out.mr.rw.row.take k) (by rw [HCL.out, HRLEN.out]; omega) ?_; intro w2 hr2 hg2)
            have e2 : (rl.take k).length = k := by rw [HCL.out]; have := HM.out; omega
            have hll : (rl.take 1 ++ (rl.take k ++ rl.drop (1 + (rl.take k).length))).length = n := by
              rw [List.length_append, List.length_append, e2, List.length_take, List.length_drop, HRLEN.out]
              have := HM.out
              omega
            have HE := hide (HD.out.copyR hg2 hr2 hll)
            rw [e2] at HE
            clear hr2 hg2 hll e2
            go_meet
            case rel => exact HE
        case rest =>
        obtain ⟨W1, rfl⟩ : ∃ W, W = wc := ⟨_, rfl⟩
        have HD1 : Hid (Dv w W1 B M v v' g g' (300 * k) n q r ql (rl.take 1 ++ (rl.take k ++ rl.drop (1 + k)))) := hcut
        clear hcut HD
        obtain ⟨i, hi⟩ : ∃ i : Nat, n - m = i := ⟨_, rfl⟩
        have hsub : (n : Int) - (m : Int) = (i : Int) := by omega
        have hwi : IntKind.i64.wrap (i : Int) = (i : Int) := by rw [IntKind.wrap_i64]; omega
        have hin : (i : Int) < n := by omega
        have HI := hide hi
        have hia : i < a.length := by rw [HN.out]; omega
        obtain ⟨_, _, ea, _, hca⟩ := (HD1.out.mr.st.fr HR.out).row i hia
        cases ea
        have HX := hide ((HWA.out.grow HD1.out.mr.st.grow).at hia)
        have zr := HD1.out.mr.cell (i := 0) h1
        have fr := HD1.out.mr.fz 0
        have hn0 : (0 : Int) < n := by omega
        clear hi
        generalize a[i] = x at *
        clear hia
        generalize (rl.take 1 ++ (rl.take k ++ rl.drop (1 + k)))[0]'_ = y0 at zr
        go_upto_region 8 with fail
        have hset : (rl.take 1 ++ (rl.take k ++ rl.drop (1 + k))).set 0 x = x :: (rl.take k ++ rl.drop (k + 1)) := by
          have hl := HRLEN.out
          match rl, hl with
          | [], hl => simp at hl; omega
          | z :: zs, _ => simp [Nat.add_comm 1 k]
        have HD2 := hide (HD1.out.setR 0 x)
        rw [hset] at HD2
        have HW2 : Hid (Wt g' (x :: (rl.take k ++ rl.drop (k + 1))) (fun ins => upR (A ins) (R ins) n k)) := by
          have h := (Wt.nil.snoc HX.out).append ((HWR.out.take k).append (HWR.out.drop (k + 1)))
          have e : n - (k + 1) = i := by rw [← HM.out]; exact HI.out
          unfold upR
          rw [e]
          exact h
        have HRL2 : Hid ((x :: (rl.take k ++ rl.drop (k + 1))).length = n) := HD2.out.mr.len
        refine forget (P := fun W => Code.wp Try.prog _ _ _ W) (fun W => Hid (Dv w W B M v v' g g' (300 * k) n q r ql (x :: (rl.take k ++ rl.drop (k + 1))))) HD2 ?_
        clear HD1 HD2 hset zr fr hca HX HRLEN
        generalize x :: (rl.take k ++ rl.drop (k + 1)) = rl2 at *
        intro W2 HD2
        have N1 := hide (not_word W2 B M v' g' (some ⟨p2, o2, none⟩) cb b n Y HD2.out.mr.st.gr HNB.out h16 (HD2.out.mr.st.fr HT.out) (HWB.out.grow HD2.out.mr.st.grow))
        go_upto_region 9 with (first
          | (go_at_call 60; refine (unhide N1).mono ?_; rintro e w3 ⟨q3, l3, v3, g3, rfl, s3, b3⟩)
          | (go_at_call 71; refine (carried_any w3 B M v3 g3 (some ⟨r, 0, none⟩) (some ⟨q3, 0, none⟩) n n rl2 l3 1 n _ _ (fun _ => true) s3.gr (by have := s3.len; have := HD2.out.mr.st.len; omega) HRL2.out b3.len h16 (s3.fr HD2.out.mr.fr) b3.fr (HW2.out.grow s3.grow) b3.wt (lt_one g3)).mono ?_; rintro e w4 ⟨f0, v4, g4, rfl, s4, b4⟩))
        have HD4 := hide (HD2.out.act (s3.trans s4))
        have HF4 : Hid (Lt g4 f0 (fun ins => fitB (Y ins) (upR (A ins) (R ins) n k))) := b4
        have HW4 := hide (HW2.out.grow (s3.trans s4).grow)
        have HQ4 := hide (HWQ.out.grow (s3.trans s4).grow)
        clear N1 s3 b3 s4 b4 HD2 HW2 HWQ HWR
        have DF := hide (difference_any (w4.drewN 1) B M v4 g4 (some ⟨r, 0, none⟩) (some ⟨p2, o2, none⟩) n cb (rl2.take m) (b.take m) m _ _ (HD4.out.mr.st.gr.drewN 1) (by have := HD4.out.mr.st.len; omega) (by rw [List.length_take, HRL2.out]; omega) (by rw [List.length_take, HNB.out]; omega) (by omega)
          ((HD4.out.below (below_drewN (Below.refl _ _) 1)).mr.fr.take m) (((HD4.out.below (below_drewN (Below.refl _ _) 1)).mr.st.fr HT.out).take m) (HW4.out.take m) ((HWB.out.grow HD4.out.mr.st.grow).take m))
        go_wp2
        go_region_held3 (fun z => True) (trivial)
          (first | (go_at_call 52; refine (unhide DF).mono ?_; rintro e w5 ⟨q5, l5, v5, g5, rfl, s5, b5⟩))
        all_goals
          have HD5 := hide ((HD4.out.below (below_drewN (Below.refl _ _) 1)).act s5)
          have HF5 := hide (HF4.out.grow s5.grow)
          have HW5 := hide (HW4.out.grow s5.grow)
          have HQ5 := hide (HQ4.out.grow s5.grow)
          have CH := hide (choice_any w5 B M v5 g5 (some ⟨q5, 0, none⟩) (some ⟨r, 0, none⟩) m n f0 l5 (rl2.take m) m _ _ _ s5.gr (by have := HD5.out.mr.st.len; omega) b5.len (by rw [List.length_take, HRL2.out]; omega) (by omega) b5.fr (HD5.out.mr.fr.take m) HF5.out b5.wt (HW5.out.take m))
          clear s5 b5 HD4 HF4 HW4 HQ4 DF
          go_upto_region 11 with (first
            | (go_at_call 68; refine (unhide CH).mono ?_; rintro e w6 ⟨q6, l6, v6, g6, rfl, s6, b6⟩)
            | (refine wpList_copy_rw rfl _ _ 27 27 rfl Try.underlying27 r 0 n n q6 0 m m (by rfl) (by rfl) rl2 l6 (HD5.out.act s6).mr.rw (by rw [b6.len]; show m = min m n; omega) b6.rw.row (by rw [b6.len, HRL2.out]; omega) ?_; intro w7 hr7 hg7))
          have hl6 := b6.len
          have e7 : rl2.take 0 ++ (l6 ++ rl2.drop (0 + l6.length)) = l6 ++ rl2.drop m := by rw [hl6, Nat.zero_add]; rfl
          rw [e7] at hr7
          have HD7 := hide ((HD5.out.act s6).copyR hg7 hr7 (by rw [List.length_append, hl6, List.length_drop, HRL2.out]; omega))
          have HW7 : Hid (Wt g6 (l6 ++ rl2.drop m) (fun ins => newR (Y ins) (upR (A ins) (R ins) n k) k)) := by
            have h := b6.wt.append ((HW5.out.grow s6.grow).drop m)
            have e := HM.out
            unfold newR lessR
            rw [← e]
            exact h
          have HQ7 := hide ((HQ5.out.grow s6.grow).set (HF5.out.grow s6.grow) i)
          clear s6 b6 hr7 hg7 e7 hl6 HD5 HF5 HW5 HQ5 CH
          have zq := HD7.out.mq.cell (i := i) (by omega)
          have fq := HD7.out.mq.fz i
          have HD8 := hide (HD7.out.setQ i f0)
          have hnum : ∀ ins, numB ((Q ins).set i (fitB (Y ins) (upR (A ins) (R ins) n k))) = 2 ^ (n - (k + 1)) * quoN (numB (A ins)) (numB (Y ins)) n (n - (k + 1)) ∧ numB (newR (Y ins) (upR (A ins) (R ins) n k) k) = rstN (numB (A ins)) (numB (Y ins)) (n - (k + 1)) := fun ins => by
            have hi := HI.out
            have hm := HM.out
            have hQl : (Q ins).length = n := by
              have := HQ7.out.len ins
              rw [List.length_set, List.length_set, HD7.out.mq.len] at this
              exact this
            have hRl := HRN.out ins
            have D := div_state (A ins) (Y ins) (Q ins) (R ins) n k (by omega) (by rw [HWA.out.len ins, HN.out]) (by rw [HWB.out.len ins, HNB.out]) hQl hRl (HRR.out ins) (HQ.out ins)
            rw [show n - (k + 1) = i by omega] at D ⊢
            exact ⟨D.2, D.1⟩
          have HNUM := hide hnum
          clear hnum
          go_wp2
          go_roundw
          case rel => exact ⟨k + 1, m + 1, by have := HM.out; unfold Hid; omega, by have := HM.out; omega, by go_num, v6, g6, _, _, _, _, HD8.out.mono (by have := HM.out; omega), HQ7, HW7, fun ins => (HNUM.out ins).1, fun ins => (HNUM.out ins).2⟩
          case measure => simp [intOf]; omega
      · have hke : k = n := by have := HM.out; omega
        subst hke
        have HF : Hid (DP w B M v g k 5000 (fun ins => quoN (numB (A ins)) (numB (Y ins)) k 0) (fun ins => rstN (numB (A ins)) (numB (Y ins)) 0) (.returned (.tuple #[.slice (some ⟨q, 0, none⟩) k k, .slice (some ⟨r, 0, none⟩) k k])) wr) := by
          refine ⟨q, r, ql, rl, v', g', Q, R, rfl, HD.out.mono (by omega), HWQ.out, HWR.out, fun ins => ?_, fun ins => ?_⟩
          · rw [HQ.out ins, Nat.sub_self, Nat.pow_zero, Nat.one_mul]
          · rw [HRR.out ins, Nat.sub_self]
        clear HD HWQ HWR HQ HRR
        go_wp2
        go_ret2
        exact HF.out
end
end Go.Proofs.Ytdjfciigfledhaa
