/- Joined: Contract: where a proof ends, and how, as the document has it. The law of where a proof ends, walked. -/
import Derived.Test.YtlmbgaconjcaiaaGreatJjAll
import Derived.Test.YtlmbgaconjcaiaaGreatQjAll
import Derived.Test.YtlmbgaconjcaiaaGreatQaAll
import Derived.Test.YtlmbgaconjcaiaaGreatRkAll
import Derived.Test.YtlmbgaconjcaiaaGreatRIAll
set_option linter.unusedVariables false
set_option linter.unusedSimpArgs false
namespace Go.Proofs.YtlmbgaconjcaiaaGreat
open Go.RowKit

theorem refDoQ_any {N : Nat} {w : World} (hNN : N ≤ w.heap.size) (a ac : Option Addr) (cap cac V : Nat) (css : List (List Int)) (d : Bool) (c : List Int) (hg : GridN N w a css) (han : a = none → cap = 0) (hcap : css.length ≤ cap) (hcm : cap ≤ maxLen) (hl : css.length ≤ 900) (hr : RowN N w ac c) (hlc : c.length ≤ 4096) (hc : cnfB V css = true) (hm : mayB c 1048576 = true) :
    Calls Tryz.prog 18 #[.agg #[.int .i64 V, .slice a css.length cap], .agg #[.bool d, .slice ac c.length cac]] w (DocQ N w V css d c) := by
  cases d with
  | true => exact refDoQ_del a ac cap cac V css c w hNN hg han hcap hcm hl hr hlc hc hm
  | false =>
    by_cases hno : (refU css c || refF css c) = true
    · exact refDoQ_add a ac cap cac V css c w hNN hg han hl hr hlc hc hm hno
    · exact refDoQ_bad a ac cap cac V css c w hNN hg han hcap hcm hl hr hlc hc hm (by simpa using hno)

/-- The formula that is kept, in its box. -/
structure RfP (w : World) (n : Nat) (l : List StD) (r : Int × Int) (i : Nat) (wr : World) (V : Nat) (css : List (List Int)) (a : Option Addr) (cap : Nat) : Prop where
  bel : Below w.heap.size w wr
  box : wr.heap[w.heap.size]? = some (.cells #[.int .i64 (V : Int), .slice a css.length cap] 24 (0, 0))
  grid : GridN w.heap.size wr a css
  nil : a = none → cap = 0
  cap : css.length ≤ cap ∧ cap ≤ maxLen
  len : css.length ≤ n + i
  cnf : cnfB V css = true
  rest : provesP V css (l.drop i) (i : Int) = r
/-- What a step tells, in a box of its own. -/
structure NxP (w wr : World) (V : Nat) (css : List (List Int)) (X : Nat) (av : Option Addr) (cv : Nat) (x : World) : Prop where
  bel : Below wr.heap.size wr x
  box : x.heap[X]? = some (.cells #[.int .i64 (V : Int), .slice av css.length cv] 24 (0, 0))
  grid : GridN w.heap.size x av css
  nil : av = none → cv = 0
  cap : css.length ≤ cv ∧ cv ≤ maxLen
  lo : wr.heap.size ≤ X
theorem docC_le (css : List (List Int)) (d : Bool) (c : List Int) : (docC css d c).length ≤ css.length + 1 := by
  unfold docC
  split
  · have := remO_le c css; omega
  · split <;> simp
theorem nx_new {w wr x : World} {V : Nat} {css : List (List Int)} {av : Option Addr} {cv : Nat} (hb : Below wr.heap.size wr x) (hg : GridN w.heap.size x av css) (hn : av = none → cv = 0) (hc : css.length ≤ cv ∧ cv ≤ maxLen) (hw : w.heap.size ≤ wr.heap.size) :
    NxP w wr V css x.heap.size av cv (x.alloc (.cells #[.int .i64 (V : Int), .slice av css.length cv] 24)) :=
  ⟨hb.alloc hb.size _, heap_alloc_new x _, hg.below (below_alloc x _) (Nat.le_trans hw hb.size), hn, hc, hb.size⟩
theorem nx_old {w wr x : World} {V : Nat} {css : List (List Int)} {av : Option Addr} {cv X : Nat} (hb : Below wr.heap.size wr x) (hg : GridN w.heap.size x av css) (hn : av = none → cv = 0) (hc : css.length ≤ cv ∧ cv ≤ maxLen) (hw : w.heap.size ≤ wr.heap.size) (hX : wr.heap.size ≤ X) (hx : x.heap[X]? = some boxO) :
    NxP w wr V css X av cv ((x.setCell ⟨X, 0, none⟩ (.int .i64 (V : Int))).setCell ⟨X, 1, none⟩ (.slice av css.length cv)) := by
  obtain ⟨o1, o2⟩ := setOff x X 0 (.int .i64 (V : Int))
  obtain ⟨p1, p2⟩ := setOff (x.setCell ⟨X, 0, none⟩ (.int .i64 (V : Int))) X 1 (.slice av css.length cv)
  have oth : ∀ b, b ≠ X → ((x.setCell ⟨X, 0, none⟩ (.int .i64 (V : Int))).setCell ⟨X, 1, none⟩ (.slice av css.length cv)).heap[b]? = x.heap[b]? := fun b hb => (p1 b hb).trans (o1 b hb)
  refine ⟨(hb.setCell hX _).setCell hX _, ?_, hg.stay (fun b hl => oth b (by omega)) (fun b cur hc => oth b ?_) (by rw [p2, o2]; exact Nat.le_refl _), hn, hc, hX⟩
  · have h1 := setBlk (i := 0) hx (.int .i64 (V : Int))
    have h2 := setBlk (i := 1) h1 (.slice av css.length cv)
    rw [h2]; simp
  · rintro rfl
    rw [hx] at hc
    cases hc
theorem boxKq {Q : Prop} {x W : World} {N k : Nat} (hb : Below N x W) (h : x.heap[k]? = some boxO) (hk : k < N) (K : W.heap[k]? = some boxO → W.cell? ⟨k, 0, none⟩ = some (.int .i64 0) → W.cell? ⟨k, 1, none⟩ = some (.slice none 0 0) → W.frozen? ⟨k, 0, none⟩ = false → W.frozen? ⟨k, 1, none⟩ = false → Q) : Q := by
  have e := (hb.block k hk).trans h
  exact K e (cell_of_block e rfl) (cell_of_block (i := 1) e rfl) (by simp [World.frozen?, e]) (by simp [World.frozen?, e])

theorem keep4 {x : World} {k N b o1 o2 : Nat} {u1 u2 v0 v1 v2 v3 : Value} (h0 : x.cell? ⟨N, 0, none⟩ = some v0) (h1 : x.cell? ⟨N, 1, none⟩ = some v1) (h2 : x.cell? ⟨b, o1, none⟩ = some v2) (h3 : x.cell? ⟨b, o2, none⟩ = some v3) (n0 : N ≠ k) (n1 : b ≠ k) :
    ((x.setCell ⟨k, 0, none⟩ u1).setCell ⟨k, 1, none⟩ u2).cell? ⟨N, 0, none⟩ = some v0 ∧ ((x.setCell ⟨k, 0, none⟩ u1).setCell ⟨k, 1, none⟩ u2).cell? ⟨N, 1, none⟩ = some v1 ∧ ((x.setCell ⟨k, 0, none⟩ u1).setCell ⟨k, 1, none⟩ u2).cell? ⟨b, o1, none⟩ = some v2 ∧ ((x.setCell ⟨k, 0, none⟩ u1).setCell ⟨k, 1, none⟩ u2).cell? ⟨b, o2, none⟩ = some v3 := by
  have e : ∀ q o, q ≠ k → ((x.setCell ⟨k, 0, none⟩ u1).setCell ⟨k, 1, none⟩ u2).cell? ⟨q, o, none⟩ = x.cell? ⟨q, o, none⟩ := fun q o hq => World.cell?_of_block (a := ⟨q, o, none⟩) ((hd_far hq).trans (hd_far hq))
  exact ⟨(e _ _ n0).trans h0, (e _ _ n0).trans h1, (e _ _ n1).trans h2, (e _ _ n1).trans h3⟩

set_option maxHeartbeats 4000000 in
set_option maxRecDepth 100000 in
theorem refProves_any (a al : Option Addr) (cap cal : Nat) (V : Nat) (css : List (List Int)) (l : List StD) (w : World) (hg : Grid w a css) (han : a = none → cap = 0) (hcap : css.length ≤ cap) (hcm : cap ≤ maxLen) (hl : css.length ≤ 800) (hs : Sts w al l) (hll : l.length ≤ 30) (hlx : ∀ x ∈ l, x.c.length ≤ 4096) (hc : cnfB V css = true) (hp : proofB l = true) :
    Calls Tryz.prog 22 #[.agg #[.int .i64 V, .slice a css.length cap], .slice al l.length cal] w fun e w' => e = .returned (.tuple #[.int .i64 (provesP V css l 0).1, .int .i64 (provesP V css l 0).2]) ∧ Below w.heap.size w w' := by
  have HS := hide hs
  have HLX := hide hlx
  have HMY : Hid (∀ x ∈ l, mayB x.c 1048576 = true) := fun x hx => by
    unfold proofB at hp
    rw [List.all_eq_true] at hp
    exact hp x hx
  have HP0 : Hid (RfP w css.length l (provesP V css l 0) 0 (w.alloc (.cells #[.int .i64 (V : Int), .slice a css.length cap] 24)) V css a cap) :=
    ⟨below_alloc w _, heap_alloc_new w _, (grid_N hg).below (below_alloc w _) (Nat.le_refl _), han, ⟨hcap, hcm⟩, by omega, hc, rfl⟩
  clear hg hs hc hp hlx han hcap hcm
  generalize hr : provesP V css l 0 = r at *
  clear hr
  go_enter Tryz.func22, Tryz.ntmps22
  go_wp2_with fail
  go_loopw [6] (fun j wr => ∃ (i V' : Nat) (css' : List (List Int)) (a' : Option Addr) (cap' : Nat), i ≤ l.length ∧ j = .int .i64 (i : Int) ∧ Hid (RfP w css.length l r i wr V' css' a' cap')) (fun j _ => l.length - (intOf j).toNat)
  case atStart => exact ⟨0, V, css, a, cap, Nat.zero_le _, rfl, HP0⟩
  case round =>
    clear HP0
    obtain ⟨i, V', css', a', cap', hi, rfl, HP⟩ := hrel
    by_cases hlt : i < l.length
    · have hii : (i : Int) < l.length := by omega
      obtain ⟨b, off, ai, ci, rfl, hb, hst⟩ := HS.out i hlt
      have hws : w.heap.size ≤ wr.heap.size := HP.out.bel.size
      have hst2 := hst.below HP.out.bel hb
      have hbw : b < wr.heap.size := by omega
      have hc0 := hst2.c0
      have hc1 := hst2.c1
      have f0 : wr.cell? ⟨w.heap.size, 0, none⟩ = some (.int .i64 (V' : Int)) := cell_of_block HP.out.box rfl
      have f1 : wr.cell? ⟨w.heap.size, 1, none⟩ = some (.slice a' css'.length cap') := cell_of_block HP.out.box rfl
      have hnw : w.heap.size < wr.heap.size := lt_of_block HP.out.box
      have hrest := HP.out.rest
      rw [List.drop_eq_getElem_cons hlt] at hrest
      have DO : Hid (∀ x, Below wr.heap.size wr x → Calls Tryz.prog 18 #[.agg #[.int .i64 (V' : Int), .slice a' css'.length cap'], .agg #[.bool l[i].d, .slice ai l[i].c.length ci]] x fun e w1 => ∃ av cv, e = .returned (.tuple #[.agg #[.int .i64 (docX V' css' l[i].d l[i].c : Nat), .slice av (docC css' l[i].d l[i].c).length cv], .int .i64 (docE css' l[i].d l[i].c)]) ∧ Below x.heap.size x w1 ∧ Hid (Below wr.heap.size wr w1 ∧ GridN w.heap.size w1 av (docC css' l[i].d l[i].c) ∧ (av = none → cv = 0) ∧ (docC css' l[i].d l[i].c).length ≤ cv ∧ cv ≤ maxLen) ∧ w1.cell? ⟨w.heap.size, 0, none⟩ = some (.int .i64 (V' : Int)) ∧ w1.cell? ⟨w.heap.size, 1, none⟩ = some (.slice a' css'.length cap') ∧ w1.cell? ⟨b, off + i * 2, none⟩ = some (.bool l[i].d) ∧ w1.cell? ⟨b, off + i * 2 + 1, none⟩ = some (.slice ai l[i].c.length ci)) := by
        intro x hx
        have hrow : RowN w.heap.size x ai l[i].c := ((row_N hst.row).below HP.out.bel (Nat.le_refl _)).below hx hws
        refine (refDoQ_any (Nat.le_trans hws hx.size) a' ai cap' ci V' css' l[i].d l[i].c (HP.out.grid.below hx hws) HP.out.nil HP.out.cap.1 HP.out.cap.2 (by have := HP.out.len; omega) hrow (HLX.out _ (List.getElem_mem hlt)) HP.out.cnf (HMY.out _ (List.getElem_mem hlt))).mono ?_
        rintro e w1 ⟨av, cv, rfl, h1, h2, h3, h4, h5⟩
        have hb1 := hx.trans (h2.mono hx.size)
        exact ⟨av, cv, rfl, h2, ⟨hb1, h1, h3, h4, h5⟩, (hb1.cell (p := ⟨w.heap.size, _, none⟩) hnw).trans f0, (hb1.cell (p := ⟨w.heap.size, _, none⟩) hnw).trans f1, (hb1.cell (p := ⟨b, _, none⟩) hbw).trans hc0, (hb1.cell (p := ⟨b, _, none⟩) hbw).trans hc1⟩
      have HCS : Hid (∀ x X av cv, NxP w wr (docX V' css' l[i].d l[i].c) (docC css' l[i].d l[i].c) X av cv x → docE css' l[i].d l[i].c = 0 → ¬(l[i].d = false ∧ l[i].c = []) → RfP w css.length l r (i + 1) ((x.setCell ⟨w.heap.size, 0, none⟩ (.int .i64 (docX V' css' l[i].d l[i].c : Nat))).setCell ⟨w.heap.size, 1, none⟩ (.slice av (docC css' l[i].d l[i].c).length cv)) (docX V' css' l[i].d l[i].c) (docC css' l[i].d l[i].c) av cv) := by
        intro x X av cv hN h0 hne
        have hbx : x.heap[w.heap.size]? = some (.cells #[.int .i64 (V' : Int), .slice a' css'.length cap'] 24 (0, 0)) := (hN.bel.block _ hnw).trans HP.out.box
        obtain ⟨o1, o2⟩ := setOff x w.heap.size 0 (.int .i64 ((docX V' css' l[i].d l[i].c : Nat) : Int))
        obtain ⟨p1, p2⟩ := setOff (x.setCell ⟨w.heap.size, 0, none⟩ (.int .i64 ((docX V' css' l[i].d l[i].c : Nat) : Int))) w.heap.size 1 (.slice av (docC css' l[i].d l[i].c).length cv)
        have oth : ∀ q, q ≠ w.heap.size → _ := fun q hq => (p1 q hq).trans (o1 q hq)
        have hcnf : cnfB (docX V' css' l[i].d l[i].c : Nat) (docC css' l[i].d l[i].c) = true := by
          have hm := HMY.out _ (List.getElem_mem hlt)
          have hlen := HP.out.len
          have hV := HP.out.cnf
          unfold docX docC
          cases hd : l[i].d with
          | true => simp only [if_true]; exact cnf_rem hV _
          | false =>
            simp only [Bool.false_eq_true, if_false]
            split
            · refine cnf_snoc (T0 := 1048576) (d := false) hV ⟨hm, HLX.out _ (List.getElem_mem hlt), gtN_le (fun x hx => ?_)⟩ (by omega) (Nat.le_refl _)
              have := may_lits hm x hx
              omega
            · exact hV
        refine ⟨((HP.out.bel.trans (hN.bel.mono hws)).setCell (Nat.le_refl _) _).setCell (Nat.le_refl _) _, ?_, hN.grid.stay (fun q hl => oth q (by omega)) (fun q cur hc => oth q ?_) (by rw [p2, o2]; exact Nat.le_refl _), hN.nil, hN.cap, by have := docC_le css' l[i].d l[i].c; have := HP.out.len; omega, hcnf, ?_⟩
        · have h1 := setBlk (i := 0) hbx (.int .i64 ((docX V' css' l[i].d l[i].c : Nat) : Int))
          have h2 := setBlk (i := 1) h1 (.slice av (docC css' l[i].d l[i].c).length cv)
          rw [h2]; simp
        · rintro rfl
          rw [hbx] at hc
          cases hc
        · rw [← hrest, provesP_cons, if_neg (by simp [h0]), if_neg hne, Int.natCast_succ]
      have hend7 : docE css' l[i].d l[i].c = 7 → r = ((i : Int), 7) := fun h7 => by
        rw [← hrest, provesP_cons, if_pos (by simp [h7])]
        simp [h7]
      have hend0 : docE css' l[i].d l[i].c = 0 → l[i].d = false → l[i].c = [] → r = ((i : Int), 0) := fun h0 h1 h2 => by
        rw [← hrest, provesP_cons, if_neg (by simp [h0]), if_pos ⟨h1, h2⟩]
      have HE7 := hide hend7
      have HE0 := hide hend0
      have HE := hide (docE_cases css' l[i].d l[i].c)
      have HBW := hide HP.out.bel
      have HBO : Hid (∀ x, Below wr.heap.size wr x → x.heap[w.heap.size]? = some (.cells #[.int .i64 (V' : Int), .slice a' css'.length cap'] 24 (0, 0))) := fun x hx => (hx.block _ hnw).trans HP.out.box
      clear hend7 hend0 hrest hst hst2 HP
      generalize hdd : l[i].d = d at *
      generalize hccc : l[i].c = c at *
      clear hdd hccc
      generalize hCC : docC css' d c = CC at *
      generalize hXX : docX V' css' d c = XX at *
      generalize hEE : docE css' d c = EE at *
      clear hCC hXX hEE
      have HWS := hide hws
      go_upto_region 4 with fail
      go_cut [7, 8] from 15 to 23 (fun p e wx => ∃ X av cv, p = .pointer (some ⟨X, 0, none⟩) ∧ e = .int .i64 EE ∧ Hid (NxP w wr XX CC X av cv wx) ∧ wx.cell? ⟨b, off + i * 2, none⟩ = some (.bool d) ∧ wx.cell? ⟨b, off + i * 2 + 1, none⟩ = some (.slice ai c.length ci))
      case first =>
        clear HCS HE7 HE0 HE HBO
        generalize hNW : w.heap.size = NW at *
        go_region_held3 (fun q => q.cell? ⟨NW, 0, none⟩ = some (.int .i64 (V' : Int)) ∧ q.cell? ⟨NW, 1, none⟩ = some (.slice a' css'.length cap') ∧ q.cell? ⟨b, off + i * 2, none⟩ = some (.bool d) ∧ q.cell? ⟨b, off + i * 2 + 1, none⟩ = some (.slice ai c.length ci)) (first | exact ⟨by assumption, by assumption, by assumption, by assumption⟩ | exact keep4 n0 n1 d0 d1 (by omega) (by omega) | go_keep) (first
          | (go_at_call 18; refine (DO.out _ (by first | exact Below.refl _ _ | exact (Below.refl _ _).drew | exact belA (Below.refl _ _) (Nat.le_refl _) | exact (belA (Below.refl _ _) (Nat.le_refl _)).drew | exact belA (Below.refl _ _).drew (Nat.le_refl _))).mono ?_; rintro e w1 ⟨av, cv, rfl, hb1, HN, n0, n1, d0, d1⟩; try (refine boxKq hb1 (newAt rfl) (by simp) ?_; intro q0 y0 y1 z0 z1)))
        all_goals
          go_wp2_with fail
          go_meet
          case rel =>
            subst hNW
            first
              | (have hnx := nx_new (w := w) HN.out.1 HN.out.2.1 HN.out.2.2.1 HN.out.2.2.2 HWS.out (V := XX)
                 exact ⟨_, av, cv, rfl, rfl, hnx, (hnx.bel.cell (p := ⟨b, _, none⟩) hbw).trans hc0, (hnx.bel.cell (p := ⟨b, _, none⟩) hbw).trans hc1⟩)
              | (have hnx := nx_old (w := w) HN.out.1 HN.out.2.1 HN.out.2.2.1 HN.out.2.2.2 HWS.out (Nat.le_refl _) q0 (V := XX)
                 exact ⟨_, av, cv, rfl, rfl, hnx, (hnx.bel.cell (p := ⟨b, _, none⟩) hbw).trans hc0, (hnx.bel.cell (p := ⟨b, _, none⟩) hbw).trans hc1⟩)
      case rest =>
        obtain ⟨X, av, cv, rfl, rfl, HX, x0, x1⟩ := hcut
        have HBX : Hid (Below w.heap.size w wc) := HBW.out.trans (HX.out.bel.mono HWS.out)
        clear hc0 hc1 f0 f1 DO HBW
        have e0 : wc.cell? ⟨X, 0, none⟩ = some (.int .i64 (XX : Int)) := cell_of_block HX.out.box rfl
        have e1 : wc.cell? ⟨X, 1, none⟩ = some (.slice av CC.length cv) := cell_of_block HX.out.box rfl
        have hXw : w.heap.size ≠ X := by have := HX.out.lo; omega
        have b0 : wc.cell? ⟨w.heap.size, 0, none⟩ = some (.int .i64 (V' : Int)) := cell_of_block (HBO.out wc HX.out.bel) rfl
        have b1 : wc.cell? ⟨w.heap.size, 1, none⟩ = some (.slice a' css'.length cap') := cell_of_block (i := 1) (HBO.out wc HX.out.bel) rfl
        have z0 : wc.frozen? ⟨w.heap.size, 0, none⟩ = false := frz_of_block (HBO.out wc HX.out.bel)
        have z1 : wc.frozen? ⟨w.heap.size, 1, none⟩ = false := frz_of_block (HBO.out wc HX.out.bel)
        rcases HE.out with h7 | h7
        · subst h7
          cases d with
          | true =>
            have HN := hide (HCS.out wc X av cv HX.out rfl (by simp))
            clear HCS HE0 HE7 HE HBO
            go_wp2_with fail
            go_roundw
            case rel => exact ⟨i + 1, _, _, av, cv, by omega, by go_num, HN⟩
            case measure => simp [intOf]; omega
          | false =>
            by_cases hcn : c = []
            · have hl0 : ((c.length : Int) == 0) = true := by rw [hcn]; rfl
              have HR : Hid (r = ((i : Int), 0)) := HE0.out rfl rfl hcn
              clear HCS HE0 HE7 HE HBO hcn
              generalize c.length = cl at *
              go_wp2_with fail
              go_ret2
              rw [HR.out]
              exact ⟨rfl, HBX.out⟩
            · have hl0 : ((c.length : Int) == 0) = false := by simp; exact hcn
              have HN := hide (HCS.out wc X av cv HX.out rfl (fun h => hcn h.2))
              clear HCS HE0 HE7 HE HBO hcn
              generalize c.length = cl at *
              go_wp2_with fail
              go_roundw
              case rel => exact ⟨i + 1, _, _, av, cv, by omega, by go_num, HN⟩
              case measure => simp [intOf]; omega
        · have HR : Hid (r = ((i : Int), 7)) := HE7.out h7
          subst h7
          clear HCS HE0 HE7 HE HBO
          go_wp2_with fail
          go_ret2
          rw [HR.out]
          exact ⟨rfl, HBX.out⟩
    · obtain rfl : i = l.length := by omega
      have hrest := HP.out.rest
      rw [List.drop_length] at hrest
      have HB := hide HP.out.bel
      have HR : Hid (r = ((l.length : Int), 4)) := hrest.symm
      clear hrest HP
      go_wp2_with fail
      go_ret2
      rw [HR.out]
      exact ⟨rfl, HB.out⟩
end Go.Proofs.YtlmbgaconjcaiaaGreat

namespace Go.Proofs.YtlmbgaconjcaiaaGreat
open Go.RowKit

/-- The formula's box. -/
structure Bq (w : World) (n : Int) (f : Value) (x : World) : Prop where
  bel : Below w.heap.size w x
  b0 : x.heap[w.heap.size]? = some (.cells #[.int .i64 n, f] 24 (0, 0))
section
variable {w x x' : World} {n : Int} {f : Value}
theorem Bq.below (h : Bq w n f x) (hb : Below x.heap.size x x') : Bq w n f x' :=
  ⟨h.bel.trans (hb.mono h.bel.size), (hb.block _ (lt_of_block h.b0)).trans h.b0⟩
theorem bq_of (w : World) (n : Int) (f : Value) : Bq w n f (w.alloc (.cells #[.int .i64 n, f] 24)) := ⟨below_alloc w _, heap_alloc_new w _⟩
theorem Bq.f0 (h : Bq w n f x) : x.cell? ⟨w.heap.size, 0, none⟩ = some (.int .i64 n) := cell_of_block h.b0 rfl
theorem Bq.f1 (h : Bq w n f x) : x.cell? ⟨w.heap.size, 1, none⟩ = some f := cell_of_block h.b0 rfl
end

set_option maxHeartbeats 4000000 in
set_option maxRecDepth 100000 in
theorem proves_any (w : World) (a al : Option Addr) (cap cal : Nat) (n : Int) (css : List (List Int)) (l : List StD) (hg : GridC w a css) (hl : css.length ≤ maxLen) (han : a = none → cap = 0) (hcap : css.length ≤ cap) (hcm : cap ≤ maxLen) (hs : Sts w al l) (hll : l.length ≤ maxLen) :
    Calls Tryz.prog 5 #[.agg #[.int .i64 n, .slice a css.length cap], .slice al l.length cal] w fun e w' => e = .returned (.bool true) ∧ Below w.heap.size w w' := by
  have B0 := bq_of w n (.slice a css.length cap)
  have G1 := small_any a cap n css _ (hg.grid.below B0.bel) hl
  have GL : Hid (∀ W, Bq w n (.slice a css.length cap) W → Calls Tryz.prog 19 #[.slice al l.length cal] W fun e w' => (∃ r : Bool, e = .returned (.bool r)) ∧ w' = W) := fun W hW => lightS_any W al cal l (hs.below hW.bel) hll
  have GA : Hid (∀ W, Calls Tryz.prog 8 #[] W fun e w' => e = .returned (.bool true) ∧ Below W.heap.size W w') := fun W => rupAwake_any W
  have HG := hide hg
  have HS := hide hs
  have HB0 := hide B0
  clear hg hs B0
  cases hsm : (lightB css && decide (css.length ≤ 40)) with
  | false =>
    rw [hsm] at G1
    replace G1 := hide G1
    clear GL hsm
    go_enter Tryz.func5, Tryz.ntmps5
    go_wp2_with (first | (go_at_call 6; refine (unhide G1).mono ?_; rintro e w1 ⟨rfl, hb1⟩) | (go_at_call 8; refine (unhide GA _).mono ?_; rintro e w2 ⟨rfl, hb2⟩))
    go_ret
    have h1 := (HB0.out.below hb1).below hb2
    exact ⟨rfl, h1.bel⟩
  | true =>
    rw [hsm] at G1
    replace G1 := hide G1
    have hcss : css.length ≤ 40 := by simp at hsm; exact hsm.2
    clear hsm
    go_enter Tryz.func5, Tryz.ntmps5
    go_upto_region 1 with fail
    go_cut [21] from 9 to 21 (fun y wx => ∃ r : Bool, y = .bool r ∧ Hid (Bq w n (.slice a css.length cap) wx) ∧ (r = false → l.length ≤ 30))
    case first =>
      by_cases h30 : l.length ≤ 30
      · have h30' : ¬ (30 : Int) < l.length := by omega
        go_wp2_with (first
          | (go_at_call 6; refine (unhide G1).mono ?_; rintro e w1 ⟨rfl, hb1⟩; have B1 := hide (HB0.out.below hb1); clear hb1)
          | (go_at_call 19; refine (GL.out _ B1.out).mono ?_; rintro e w2 ⟨⟨r, rfl⟩, hw2⟩; subst w2; cases r))
        all_goals
          go_meet
          case rel => exact ⟨_, rfl, B1, fun _ => h30⟩
      · have h30' : (30 : Int) < l.length := by omega
        go_wp2_with (first
          | (go_at_call 6; refine (unhide G1).mono ?_; rintro e w1 ⟨rfl, hb1⟩; have B1 := hide (HB0.out.below hb1); clear hb1)
          | (go_at_call 19; refine (GL.out _ B1.out).mono ?_; rintro e w2 ⟨⟨r, rfl⟩, hw2⟩; subst w2; cases r))
        all_goals
          go_meet
          case rel => exact ⟨true, rfl, B1, fun h => by cases h⟩
    case rest =>
    obtain ⟨r, rfl, B1, h30⟩ := hcut
    clear G1 GL HB0
    cases r with
    | true =>
      clear h30
      go_wp2_with (go_at_call 8; refine (unhide GA _).mono ?_; rintro e w2 ⟨rfl, hb2⟩)
      go_ret
      exact ⟨rfl, (B1.out.below hb2).bel⟩
    | false =>
      have hl30 := h30 rfl
      clear h30
      have GC : ∀ W, Below w.heap.size w W → Calls Tryz.prog 9 #[.agg #[.int .i64 n, .slice a css.length cap]] W fun e w' => e = .returned (.bool (cnfB n css)) ∧ Below W.heap.size W w' := fun W hW => refCnf_any a cap n css W ((HG.out.below hW).grid) hl
      have GM : ∀ W, Below w.heap.size w W → Calls Tryz.prog 21 #[.slice al l.length cal] W fun e w' => e = .returned (.bool (proofB l)) ∧ w' = W := fun W hW => mayS_any al cal l W (HS.out.below hW) (by omega)
      have x0 := B1.out.f0
      have x1 := B1.out.f1
      by_cases hyes : cnfB n css = true ∧ proofB l = true
      · obtain ⟨h1, h2⟩ := hyes
        rw [h1] at GC
        rw [h2] at GM
        replace GC := hide GC
        replace GM := hide GM
        obtain ⟨V, rfl⟩ : ∃ V : Nat, n = (V : Int) := ⟨n.toNat, by unfold cnfB at h1; simp only [Bool.and_eq_true, decide_eq_true_eq] at h1; omega⟩
        have hlx : ∀ x ∈ l, x.c.length ≤ 4096 := fun x hx => by
          have h3 := h2
          unfold proofB at h3
          rw [List.all_eq_true] at h3
          have := h3 x hx
          unfold mayB at this
          simp only [Bool.and_eq_true, decide_eq_true_eq] at this
          exact this.1
        have GP : Hid (∀ W, Bq w V (.slice a css.length cap) W → Calls Tryz.prog 20 #[.agg #[.int .i64 V, .slice a css.length cap], .slice al l.length cal] W fun e w' => e = .returned (.tuple #[.int .i64 (provesP V css l 0).1, .int .i64 (provesP V css l 0).2]) ∧ Below W.heap.size W w') := fun W hW => rupProves_yes a al cap cal V css l W (HG.out.below hW.bel) (by omega) (HS.out.below hW.bel) hl30 hlx h1 h2
        have GD : Hid (∀ W, Bq w V (.slice a css.length cap) W → Calls Tryz.prog 22 #[.agg #[.int .i64 V, .slice a css.length cap], .slice al l.length cal] W fun e w' => e = .returned (.tuple #[.int .i64 (provesP V css l 0).1, .int .i64 (provesP V css l 0).2]) ∧ Below W.heap.size W w') := fun W hW => refProves_any a al cap cal V css l W ((HG.out.below hW.bel).grid) han hcap hcm (by omega) (HS.out.below hW.bel) hl30 hlx h1 h2
        clear h1 h2 hlx
        generalize provesP V css l 0 = r at *
        obtain ⟨r1, r2⟩ := r
        simp only at GP GD
        have e1 : (r1 == r1) = true := by simp
        have e2 : (r2 == r2) = true := by simp
        go_upto_region 4 with (go_at_call 20; refine (GP.out _ B1.out).mono ?_; rintro e w2 ⟨rfl, hb2⟩; have B2 := hide (B1.out.below hb2); clear hb2)
        clear x0 x1 GP B1
        have x0 := B2.out.f0
        have x1 := B2.out.f1
        go_wp2_with (first
          | (go_at_call 9; refine (GC.out _ B2.out.bel).mono ?_; rintro e w3 ⟨rfl, hb3⟩; have B3 := hide (B2.out.below hb3); have v0 := B3.out.f0; have v1 := B3.out.f1; clear hb3)
          | (go_at_call 21; refine (GM.out _ B3.out.bel).mono ?_; rintro e w0 ⟨rfl, hw0⟩; subst w0)
          | (go_at_call 22; refine (GD.out _ B3.out).mono ?_; rintro e w4 ⟨rfl, hb4⟩; have B4 := hide (B3.out.below hb4); clear hb4)
          | (go_at_call 8; refine (unhide GA _).mono ?_; rintro e w5 ⟨rfl, hb5⟩))
        go_ret
        exact ⟨rfl, (B4.out.below hb5).bel⟩
      · have hno : cnfB n css = false ∨ (cnfB n css = true ∧ proofB l = false) := by
          cases h1 : cnfB n css
          · exact .inl rfl
          · cases h2 : proofB l
            · exact .inr ⟨rfl, rfl⟩
            · exact absurd ⟨h1, h2⟩ hyes
        have GP : Hid (∀ W, Bq w n (.slice a css.length cap) W → Calls Tryz.prog 20 #[.agg #[.int .i64 n, .slice a css.length cap], .slice al l.length cal] W fun e w' => e = .returned (.tuple #[.int .i64 0, .int .i64 1]) ∧ Below W.heap.size W w') := fun W hW => rupProves_no a al cap cal n css l W ((HG.out.below hW.bel).grid) hl (HS.out.below hW.bel) hl30 hno
        go_upto_region 4 with (go_at_call 20; refine (GP.out _ B1.out).mono ?_; rintro e w2 ⟨rfl, hb2⟩; have B2 := hide (B1.out.below hb2); clear hb2)
        clear x0 x1 GP B1 hyes
        have x0 := B2.out.f0
        have x1 := B2.out.f1
        rcases hno with h1 | ⟨h1, h2⟩
        · rw [h1] at GC
          replace GC := hide GC
          clear h1 GM
          go_wp2_with (first
            | (go_at_call 9; refine (GC.out _ B2.out.bel).mono ?_; rintro e w3 ⟨rfl, hb3⟩; have B3 := hide (B2.out.below hb3); clear hb3)
            | (go_at_call 8; refine (unhide GA _).mono ?_; rintro e w5 ⟨rfl, hb5⟩))
          go_ret
          exact ⟨rfl, (B3.out.below hb5).bel⟩
        · rw [h1] at GC
          rw [h2] at GM
          replace GC := hide GC
          replace GM := hide GM
          clear h1 h2
          go_wp2_with (first
            | (go_at_call 9; refine (GC.out _ B2.out.bel).mono ?_; rintro e w3 ⟨rfl, hb3⟩; have B3 := hide (B2.out.below hb3); clear hb3)
            | (go_at_call 21; refine (GM.out _ B3.out.bel).mono ?_; rintro e w0 ⟨rfl, hw0⟩; subst w0)
            | (go_at_call 8; refine (unhide GA _).mono ?_; rintro e w5 ⟨rfl, hb5⟩))
          go_ret
          exact ⟨rfl, (B3.out.below hb5).bel⟩
end Go.Proofs.YtlmbgaconjcaiaaGreat
