/- Steps in memory; contracts: the law's own small case; whether proofs are alike (the document's way). -/
import Derived.Test.YtgklollpajhmlaaDoorWalkG
import Derived.Lib.SlBytesConst
set_option linter.unusedVariables false
set_option linter.unusedSimpArgs false
namespace Go.Proofs.YtgklollpajhmlaaDoor
open Go.RowKit Go.Maps

attribute [local go_sem ↓] Go.wp_at_zero Go.wp_at_succ

/-- Steps behind a slice. -/
def Steps (w : World) (a : Option Addr) (l : List Stp) : Prop :=
  ∀ i (h : i < l.length), ∃ b off ai ci, a = some ⟨b, off, none⟩ ∧ b < w.heap.size ∧ w.cell? ⟨b, off + i * 2, none⟩ = some (.bool l[i].1) ∧ w.cell? ⟨b, off + i * 2 + 1, none⟩ = some (.slice ai l[i].2.length ci) ∧ Row w ai l[i].2 ∧ l[i].2.length ≤ maxLen

theorem Steps.below {w w' : World} {a : Option Addr} {l : List Stp} (h : Steps w a l) (hb : Below w.heap.size w w') : Steps w' a l := by
  intro i hi
  obtain ⟨b, off, ai, ci, e, hlt, h1, h2, h3, h4⟩ := h i hi
  exact ⟨b, off, ai, ci, e, Nat.lt_of_lt_of_le hlt hb.size, (hb.cell (p := ⟨b, off + i * 2, none⟩) hlt).trans h1, (hb.cell (p := ⟨b, off + i * 2 + 1, none⟩) hlt).trans h2, h3.below hb, h4⟩

theorem Steps.drewN {w : World} {a : Option Addr} {l : List Stp} (h : Steps w a l) (n : Nat) : Steps (w.drewN n) a l := h

theorem OSt.steps {base : Nat} {w : World} {v : Value} {l : List Stp} (h : OSt base w v l) : ∃ a cap, v = .slice a l.length cap ∧ Steps w a l ∧ l.length ≤ maxLen ∧ l.length ≤ cap := by
  obtain ⟨cells, h1, h2⟩ := h
  rcases h1.2 with ⟨rfl, h0⟩ | ⟨g, cap, cur, rfl, hb, hg, hn, hm, hs, ht⟩
  · refine ⟨none, 0, by rw [h0], fun i hi => by omega, by rw [h0]; exact Nat.zero_le _, by omega⟩
  · refine ⟨_, cap, rfl, fun i hi => ?_, Nat.le_trans hn hm, hn⟩
    obtain ⟨u, e0, e, ho⟩ := h2 i hi
    obtain ⟨ai, ci, rfl, hr, hlen, _⟩ := ho.row
    have hcell : ∀ j x, cells[j]? = some x → w.cell? ⟨g, 0 + j, none⟩ = some x := fun j x hx => by
      have := h1.cells (g := g) rfl j x hx
      rw [Addr.add_lit] at this
      exact this
    exact ⟨g, 0, ai, ci, rfl, (Array.getElem?_eq_some_iff.1 hg).1, hcell _ _ e0, by rw [Nat.add_assoc]; exact hcell _ _ e, hr, hlen⟩

/-- 1 -2 0 d 1 0 -/
def awakeT : List UInt8 := [49, 32, 45, 50, 32, 48, 32, 100, 32, 49, 32, 48]

theorem awake_text : readP Rs.zero 0 [] awakeT = (0, 0, [(false, [1, -2]), (true, [1])]) := by decide

theorem txt_block {w : World} {N : Nat} {cs : Array Value} {fr : Nat × Nat} {t : List UInt8} (h : w.heap[N]? = some (.cells cs 5 fr)) (hc : ∀ i (h : i < t.length), cs[i]? = some (.int .u8 (t[i].toNat : Int))) : Txt (N + 1) w (some ⟨N, 0, none⟩) t := by
  intro i hi
  refine ⟨N, 0, rfl, by omega, ?_⟩
  rw [Nat.zero_add]
  simp [World.cell?, h]
  exact hc i hi

/-- A text's bytes, as cells. -/
def byteCells (t : List UInt8) : Array Value := (t.map fun c => Value.int .u8 (c.toNat : Int)).toArray

theorem txt_new (w : World) (t : List UInt8) (fr : Nat × Nat) : Txt (w.heap.size + 1) (w.alloc (.cells (byteCells t) 5 fr)) (some ⟨w.heap.size, 0, none⟩) t :=
  txt_block (heap_alloc_new w (.cells (byteCells t) 5 fr)) (fun i hi => by simp [byteCells, hi])

theorem quiet_shift2 {P : Program} {f : FuncId} {args : Array Value} {w : World} {n k : Nat} {v : Value}
    (h : Calls P f args (w.drewN (n + k)) fun e w' => e = .returned v ∧ ∃ j, w' = (w.drewN (n + k)).drewN j) : Calls P f args (w.drewN (n + k)) fun e w'' => e = .returned v ∧ ∃ m, w'' = w.drewN (n + m) :=
  h.mono fun _ _ ⟨he, j, hm⟩ => ⟨he, k + j, by rw [hm, World.drewN_drewN, Nat.add_assoc]⟩

/-- Whether proofs are alike. -/
def sameB (a b : List Stp) : Bool := decide (a = b)

theorem takeS_snoc {a b : List Stp} {k : Nat} (h1 : k < a.length) (h2 : k < b.length) (h : a.take k = b.take k) (he : a[k] = b[k]) : a.take (k + 1) = b.take (k + 1) := by
  rw [List.take_succ_eq_append_getElem h1, List.take_succ_eq_append_getElem h2, h, he]

theorem same_no {a b : List Stp} {k : Nat} (h1 : k < a.length) (h2 : k < b.length) (h : a[k] ≠ b[k]) : sameB a b = false := by
  unfold sameB; rw [decide_eq_false_iff_not]; intro e; apply h; simp only [e]

set_option maxHeartbeats 2000000 in
theorem refSame_any (a b : Option Addr) (ca cb : Nat) (l m : List Stp) (w : World) (hr : Steps w a l) (hs : Steps w b m) (hl : l.length ≤ maxLen) (hm : m.length ≤ maxLen) :
    Calls Tryd.prog 10 #[.slice a l.length ca, .slice b m.length cb] w fun e w' => e = .returned (.bool (sameB l m)) ∧ ∃ n, w' = w.drewN n := by
  unfold maxLen at hl hm
  by_cases hne : (l.length : Int) = m.length
  case neg =>
    have hb : ((l.length : Int) != m.length) = true := by rw [bne_iff_ne]; exact hne
    clear hr hs
    go_enter Tryd.func10, Tryd.ntmps10
    go_wp2
    go_ret
    exact ⟨ret_bool (by simp only [sameB]; symm; rw [decide_eq_false_iff_not]; intro h; apply hne; rw [h]), 0, rfl⟩
  have hb : ((l.length : Int) != m.length) = false := by simp [hne]
  have hyl : l.length ≤ m.length := by omega
  have HE : Hid (l.length = m.length) := by show l.length = m.length; omega
  clear hne
  go_enter Tryd.func10, Tryd.ntmps10
  go_wp2
  go_loopw [5] (fun i wr => ∃ k n : Nat, k ≤ l.length ∧ i = .int .i64 k ∧ l.take k = m.take k ∧ wr = w.drewN n) (fun i _ => l.length - (intOf i).toNat)
  case atStart => exact ⟨0, 0, Nat.zero_le _, rfl, rfl, rfl⟩
  case round =>
    obtain ⟨k, n, hk, rfl, hno, rfl⟩ := hrel
    have HN := hide hno
    clear hno
    by_cases hlt : k < l.length
    · obtain ⟨b1, off1, a1, c1, rfl, hb1, hx1, hy1, hr1, hm1⟩ := hr k hlt
      obtain ⟨b2, off2, a2, c2, rfl, hb2, hx2, hy2, hr2, hm2⟩ := hs k (by omega)
      have CI : Hid (∀ n, Calls Tryd.prog 18 #[.slice a1 l[k].2.length c1, .slice a2 m[k].2.length c2] (w.drewN n) fun e w' => e = .returned (.bool (intsB l[k].2 m[k].2)) ∧ ∃ n', w' = (w.drewN n).drewN n') := fun n => ints_any a1 a2 c1 c2 l[k].2 m[k].2 (w.drewN n) (hr1.drewN n) (hr2.drewN n) hm1 hm2
      clear hr hs hb hr1 hr2
      unfold maxLen at hm1 hm2
      have hlt' : (k : Int) < l.length := by omega
      have hlt2 : (k : Int) < m.length := by omega
      have hltn : k < m.length := by omega
      have HX : Hid (l[k].1 = m[k].1 → l[k].2 = m[k].2 → l[k] = m[k]) := fun a b => Prod.ext a b
      have HY : Hid (l[k].1 ≠ m[k].1 → l[k] ≠ m[k]) := fun a b => a (by rw [b])
      have HZ : Hid (l[k].2 ≠ m[k].2 → l[k] ≠ m[k]) := fun a b => a (by rw [b])
      cases d1 : l[k].1 <;> cases d2 : m[k].1
      all_goals
        rw [d1] at hx1 HX HY
        rw [d2] at hx2 HX HY
        clear d1 d2
        first
          | (have HF := hide (same_no hlt (by omega) (HY.out (by decide)))
             clear HX HY HZ CI
             generalize l[k].2.length = n1 at *
             generalize m[k].2.length = n2 at *
             go_wp2
             go_quiet (fail)
             go_wp2
             go_ret
             exact ⟨ret_bool HF.out.symm, _, by first | rfl | exact World.drewN_drewN _ _ _⟩)
          | (by_cases hi : l[k].2 = m[k].2
             · have hib : intsB l[k].2 m[k].2 = true := by simp [intsB, hi]
               rw [hib] at CI
               have HQ := hide (HX.out rfl hi)
               clear HX HY HZ hi hib
               generalize l[k].2.length = n1 at *
               generalize m[k].2.length = n2 at *
               go_wp2
               go_quiet ((go_at_call 18; exact quiet_shift2 (unhide CI _)))
               go_wp2
               go_roundw
               case rel => exact ⟨k + 1, _, by omega, by go_num, takeS_snoc hlt (by omega) HN.out HQ.out, by first | rfl | exact World.drewN_drewN _ _ _⟩
               case measure => simp [intOf]; omega
             · have hib : intsB l[k].2 m[k].2 = false := by simp [intsB, hi]
               rw [hib] at CI
               have HF := hide (same_no hlt (by omega) (HZ.out hi))
               clear HX HY HZ hi hib
               generalize l[k].2.length = n1 at *
               generalize m[k].2.length = n2 at *
               go_wp2
               go_quiet ((go_at_call 18; exact quiet_shift2 (unhide CI _)))
               go_wp2
               go_ret
               exact ⟨ret_bool HF.out.symm, _, by first | rfl | exact World.drewN_drewN _ _ _⟩)
    · have hz : l.length ≤ k := by omega
      clear hr hs
      go_wp2
      go_ret
      refine ⟨ret_bool ?_, _, rfl⟩
      have h := HN.out
      rw [List.take_of_length_le hz, List.take_of_length_le (by have := HE.out; omega)] at h
      simp [sameB, h]

end Go.Proofs.YtgklollpajhmlaaDoor
