/- The statement on places, for all acts in memory and every place. -/
import Derived.Test.YtbibbdkijgaoeaaWalkT
import Derived.Test.YtbibbdkijgaoeaaWalkV
set_option linter.unusedVariables false
set_option linter.unusedSimpArgs false
namespace Go.Proofs.Ytbibbdkijgaoeaa
open Go.RowKit Go.Maps

/-- What both answer at a place. -/
theorem Two.any {base : Nat} {F : Nat → Prop} {x : World} {B M : Nat} {rv : Value} {a : Option Addr} {cap : Nat} {L : List Itm} (h : Two base F x B M rv a cap L) {p : Int} (hp : (Lit.int .i64 p).wf = true) :
    ∃ (c : List Int) (ok : Bool), Hid (Calls Try.prog 10 #[.pointer (some ⟨B, 0, none⟩), .int .i64 p] x fun e z => ∃ u d, e = .returned (.tuple #[.slice u c.length d, .bool ok]) ∧ Own x.heap.size z (.slice u c.length d) c ∧ Below x.heap.size x z) ∧
      Hid (∀ y, Below x.heap.size x y → Calls Try.prog 11 #[.agg #[.slice a L.length cap], .int .i64 p] y fun e z => ∃ u d, e = .returned (.tuple #[.slice u c.length d, .bool ok]) ∧ Row z u c ∧ Below y.heap.size y z) ∧ c.length ≤ 20000 := by
  by_cases hin : p ∈ plF 0 L
  · obtain ⟨c, G10, G11, hc⟩ := h.gets hin
    refine ⟨c, true, ?_, fun y hy => (G11.out y hy).mono ?_, hc⟩
    · refine (G10.out x (Below.refl _ _)).mono ?_
      rintro e z ⟨v, rfl, ho, hb⟩
      obtain ⟨u, d, rfl, _⟩ := ho.row
      exact ⟨u, d, rfl, ho, hb⟩
    · rintro e z ⟨v, rfl, ⟨u, d, rfl, hr, _⟩, hb⟩
      exact ⟨u, d, rfl, hr.row, hb⟩
  · refine ⟨[], false, ?_, fun y hy => (refGet_no F y a cap L p (h.below hy).ref h.wd hin).mono ?_, by simp⟩
    · refine (get_no base x B M rv L p h.arn hp hin).mono ?_
      rintro e z ⟨rfl, hb⟩
      exact ⟨none, 0, rfl, World.ownsRow_nil _ _ _ _, hb⟩
    · rintro e z ⟨rfl, hb⟩
      exact ⟨none, 0, rfl, fun i hi => by simp at hi, hb⟩

theorem ints_true {base : Nat} {x : World} {u u2 : Option Addr} {d d2 : Nat} {c : List Int} (ho : Own base x (.slice u c.length d) c) (hr : Row x u2 c) : Calls Try.prog 12 #[.slice u c.length d, .slice u2 c.length d2] x fun e z => e = .returned (.bool true) ∧ Below x.heap.size x z := by
  obtain ⟨u1', d1', e1, r1, m1, _⟩ := ho.row
  simp only [Value.slice.injEq, true_and] at e1
  obtain ⟨rfl, rfl⟩ := e1
  refine (ints_any _ _ _ _ c c x r1 hr m1 m1).mono ?_
  rintro e z ⟨rfl, n, rfl⟩
  exact ⟨by rw [intsB_self], ⟨rfl, rfl, rfl, Nat.le_refl _, fun _ _ => rfl⟩⟩

set_option maxRecDepth 100000 in
set_option maxHeartbeats 6400000 in
theorem gets_any (w : World) (a : Option Addr) (cap : Nat) (l : List ActD) (p : Int) (hA : Acts w a l) (hl : l.length ≤ maxLen) (hp : (Lit.int .i64 p).wf = true) :
    Calls Try.prog 4 #[.slice a l.length cap, .int .i64 p] w fun e w' => e = .returned (.bool true) ∧ Below w.heap.size w w' := by
  have G1 := hide (light_any w a cap l hA hl)
  have G2 := hide (awake_any w)
  cases hlight : lightB l
  · rw [hlight] at G1
    clear hA
    go_enter Try.func4, Try.ntmps4
    go_wp2_with (first
      | (go_at_call 6; refine (unhide G1).mono ?_; rintro e w0 ⟨rfl, hw0⟩; subst w0)
      | (go_at_call 7; refine (unhide G2).mono ?_; rintro e w1 ⟨rfl, hb1⟩))
    go_ret
    exact ⟨rfl, hb1⟩
  · rw [hlight] at G1
    have G3 := hide (play_any w a cap l hA hl hlight)
    have HP := hide hp
    clear hA hlight G2 hp
    go_enter Try.func4, Try.ntmps4
    go_wp2_with (first
      | (go_at_call 6; refine (unhide G1).mono ?_; rintro e w0 ⟨rfl, hw0⟩; subst w0)
      | (go_at_call 8; refine (unhide G3).mono ?_; rintro e w1 ⟨B, M, Wc, rv, ra, rc, L, rfl, hAr, hRf, hwd, hb1⟩; have hT := hide (Two.below ⟨hAr, hRf, hwd⟩ ((Below.refl _ _).alloc (Nat.le_refl _) (.cells #[.slice ra L.length rc] 28))); obtain ⟨c, ok, C10, C11, hclen⟩ := hT.out.any HP.out; clear hAr hRf)
      | (go_at_call 10; refine (unhide C10).mono ?_; rintro e w2 ⟨u1, d1, rfl, ho1, hb2⟩; have cW : w2.cell? ⟨w1.heap.size, 0, none⟩ = some (.slice ra L.length rc) := cell_of_one ((hb2.block _ (by simp)).trans (heap_alloc_new w1 _)))
      | (go_at_call 11; refine (unhide C11 _ hb2).mono ?_; rintro e w3 ⟨u2, d2, rfl, hr2, hb3⟩; have C12 := hide (ints_true (d2 := d2) (ho1.below hb3) hr2))
      | (go_at_call 12; refine (unhide C12).mono ?_; rintro e w4 ⟨rfl, hb4⟩))
    have hsA : (w1.alloc (.cells #[.slice ra L.length rc] 28)).heap.size = w1.heap.size + 1 := by simp
    rw [hsA] at ho1 hb2
    have hB4 : Below (w1.heap.size + 1) (w1.alloc (.cells #[.slice ra L.length rc] 28)) w4 := (hb2.trans (hb3.mono (by have := hb2.size; omega))).trans (hb4.mono (by have := hb2.size; have := hb3.size; omega))
    have hO4 : w4.ownsRow (w1.heap.size + 1) 3 1 (.slice u1 c.length d1) c.length (c.map (Value.int .i64)) := (ho1.below hb3).below hb4
    have HB4 := hide hB4
    have HO4 := hide hO4
    have HCELL : Hid (∀ x, Below (w1.heap.size + 1) (w1.alloc (.cells #[.slice ra L.length rc] 28)) x → x.cell? ⟨w1.heap.size, 0, none⟩ = some (.slice ra L.length rc)) := fun x hx => cell_of_one ((hx.block _ (by omega)).trans (heap_alloc_new w1 _))
    have HTW : Hid (∀ x, Below (w1.heap.size + 1) (w1.alloc (.cells #[.slice ra L.length rc] 28)) x → Two w.heap.size (Off w B M Wc rv) x B M rv ra rc L) := fun x hx => hT.out.below (by rw [hsA]; exact hx)
    have HB1 := hide hb1
    clear hb1 hb2 hb3 hb4 ho1 hr2 hT hB4 hO4 C10 C11 C12 cW hsA
    go_loopw [12] (fun i x => ∃ (k : Nat) (ys : List Int), k ≤ c.length ∧ i = .int .i64 k ∧ ys.length = c.length ∧ x.ownsRow (w1.heap.size + 1) 3 1 (.slice u1 c.length d1) c.length (ys.map (Value.int .i64)) ∧ Below (w1.heap.size + 1) (w1.alloc (.cells #[.slice ra L.length rc] 28)) x) (fun i _ => c.length - (intOf i).toNat)
    case atStart => exact ⟨0, c, Nat.zero_le _, rfl, rfl, HO4.out, HB4.out⟩
    case round =>
      clear HB4 HO4
      obtain ⟨k, ys, hk, rfl, hyl, ho, hbx⟩ := hrel
      by_cases hlt : k < c.length
      · obtain ⟨g, cp, hu, hg1, hg2⟩ := ho.form (by omega)
        simp only [Value.slice.injEq, true_and] at hu
        obtain ⟨rfl, rfl⟩ := hu
        obtain ⟨q1, q2⟩ := own_cell ho (j := k) (u := .int .i64 (ys[k]'(by omega))) (by rw [List.getElem?_map, List.getElem?_eq_getElem (by omega)]; rfl)
        generalize ys[k]'(by omega) = yk at q1
        have hon := ownsRow_setS ho (g := g) (i := k) rfl (.int .i64 77)
        rw [← List.map_set] at hon
        have hbn := hbx.setCell (p := ⟨g, k, none⟩) hg1 (.int .i64 77)
        have HON := hide hon
        have HBN := hide hbn
        have HYL := hide hyl
        clear ho hbx hon hbn hyl
        go_wp2
        go_roundw
        case rel => exact ⟨k + 1, ys.set k 77, by omega, by go_num, by rw [List.length_set]; exact HYL.out, HON.out, HBN.out⟩
        case measure => simp [intOf]; omega
      · have cX := HCELL.out _ hbx
        have C9 := hide (like_any w.heap.size _ wr B M rv ra rc L (HTW.out _ hbx))
        have HBX := hide hbx
        clear ho hbx hyl
        go_wp2_with (first
          | (go_at_call 9; refine (unhide C9).mono ?_; rintro e w5 ⟨rfl, hb5⟩; have C7 := hide (awake_any w5))
          | (go_at_call 7; refine (unhide C7).mono ?_; rintro e w6 ⟨rfl, hb6⟩))
        go_ret
        have h1 : Below w.heap.size w wr := ((HB1.out.alloc HB1.out.size _).trans (HBX.out.mono (by have := HB1.out.size; omega)))
        have h2 := h1.trans (hb5.mono h1.size)
        exact ⟨rfl, h2.trans (hb6.mono h2.size)⟩

end Go.Proofs.Ytbibbdkijgaoeaa
