/- Contract: an arena is as it must be. -/
import Derived.Test.YtbibbdkijgaoeaaWalkR
set_option linter.unusedVariables false
set_option linter.unusedSimpArgs false
namespace Go.Proofs.Ytbibbdkijgaoeaa
open Go.RowKit Go.Maps

theorem intsB_self (xs : List Int) : intsB xs xs = true := by simp [intsB]

theorem own_ints {base base' : Nat} {x : World} {u v : Value} {xs : List Int} (h1 : Own base x u xs) (h2 : Own base' x v xs) :
    ∃ a c b d, u = .slice a xs.length c ∧ v = .slice b xs.length d ∧ Calls Try.prog 12 #[.slice a xs.length c, .slice b xs.length d] x fun e w' => e = .returned (.bool true) ∧ Below x.heap.size x w' := by
  obtain ⟨a, c, e1, r1, m1, _⟩ := h1.row
  obtain ⟨b, d, e2, r2, m2, _⟩ := h2.row
  refine ⟨a, c, b, d, e1, e2, (ints_any a b c d xs xs x r1 r2 m1 m2).mono ?_⟩
  rintro e w' ⟨rfl, n, rfl⟩
  exact ⟨by rw [intsB_self], ⟨rfl, rfl, rfl, Nat.le_refl _, fun _ _ => rfl⟩⟩

/-- Both arenas, as they are. -/
structure Two (base : Nat) (F : Nat → Prop) (x : World) (B M : Nat) (rv : Value) (a : Option Addr) (cap : Nat) (L : List Itm) : Prop where
  arn : Arn base x B M rv L
  ref : Ref F x a cap L
  wd : words L ≤ 20000

theorem Two.below {base : Nat} {F : Nat → Prop} {x y : World} {B M : Nat} {rv : Value} {a : Option Addr} {cap : Nat} {L : List Itm} (h : Two base F x B M rv a cap L) (hb : Below x.heap.size x y) : Two base F y B M rv a cap L := ⟨h.arn.below hb, h.ref.below hb, h.wd⟩

/-- A clause got from both. -/
theorem Two.gets {base : Nat} {F : Nat → Prop} {x : World} {B M : Nat} {rv : Value} {a : Option Addr} {cap : Nat} {L : List Itm} (h : Two base F x B M rv a cap L) {p : Int} (hin : p ∈ plF 0 L) :
    ∃ c : List Int, Hid (∀ y, Below x.heap.size x y → Calls Try.prog 10 #[.pointer (some ⟨B, 0, none⟩), .int .i64 p] y fun e z => ∃ v, e = .returned (.tuple #[v, .bool true]) ∧ Own y.heap.size z v c ∧ Below y.heap.size y z) ∧
      Hid (∀ y, Below x.heap.size x y → Calls Try.prog 11 #[.agg #[.slice a L.length cap], .int .i64 p] y fun e z => ∃ v, e = .returned (.tuple #[v, .bool true]) ∧ Cl F z v c ∧ Below y.heap.size y z) ∧ c.length ≤ 20000 := by
  obtain ⟨A, it, R, rfl, hit, rfl⟩ := plF_split L 0 p hin
  rw [Nat.zero_add]
  refine ⟨it.1, fun y hy => get_yes base y B M rv A R it (h.below hy).arn h.wd hit, fun y hy => (refGet_yes F y a cap A R it (h.below hy).ref h.wd hit).mono ?_, ?_⟩
  · rintro e z ⟨⟨v, rfl, hc⟩, hb⟩
    exact ⟨v, rfl, hc, hb⟩
  · have := words_le_of_mem (L := A ++ it :: R) (it := it) (by simp); have := h.wd; omega

set_option maxRecDepth 100000 in
set_option maxHeartbeats 6400000 in
theorem like_any (base : Nat) (F : Nat → Prop) (w : World) (B M : Nat) (rv : Value) (a : Option Addr) (cap : Nat) (L : List Itm) (hT : Two base F w B M rv a cap L) :
    Calls Try.prog 9 #[.pointer (some ⟨B, 0, none⟩), .agg #[.slice a L.length cap]] w fun e w' => e = .returned (.bool true) ∧ Below w.heap.size w w' := by
  have hpl := plF_len_le L 0
  have hlw := len_le_words L
  have hwd := hT.wd
  have D0 : Hid (∀ y, Below w.heap.size w y → Calls Try.prog 25 #[.agg #[.slice a L.length cap]] y fun e z => ∃ v, e = .returned v ∧ Own y.heap.size z v (plF 0 L) ∧ Below y.heap.size y z) := fun y hy => refPlaces_any F y a cap L (hT.below hy).ref hwd
  have D1 : Hid (∀ y, Below w.heap.size w y → Calls Try.prog 26 #[.pointer (some ⟨B, 0, none⟩)] y fun e z => ∃ v, e = .returned v ∧ Own y.heap.size z v (plF 0 L) ∧ Below y.heap.size y z) := fun y hy => places_any base y B M rv L (hT.below hy).arn hwd
  have D2 : Hid (∀ y, Below w.heap.size w y → Calls Try.prog 13 #[.pointer (some ⟨B, 0, none⟩)] y fun e z => e = .returned (.int .i64 (plF 0 L).length) ∧ z = y) := fun y hy => count_any base y B M rv L (hT.below hy).arn
  have D3 : Hid (∀ y, Below w.heap.size w y → Calls Try.prog 18 #[.pointer (some ⟨B, 0, none⟩)] y fun e z => e = .returned (.int .i64 (words L)) ∧ z = y) := fun y hy => words_any base y B M rv L (hT.below hy).arn
  have D4 : Hid (∀ y, Below w.heap.size w y → Calls Try.prog 27 #[.agg #[.slice a L.length cap]] y fun e z => e = .returned (.int .i64 (words L)) ∧ Below y.heap.size y z) := fun y hy => (refWords_any F y a cap L (hT.below hy).ref hwd).mono (by rintro e z ⟨rfl, rfl⟩; exact ⟨rfl, (Below.refl _ _).alloc (Nat.le_refl _) _⟩)
  have D5 : Hid (∀ y, Below w.heap.size w y → Calls Try.prog 15 #[.pointer (some ⟨B, 0, none⟩)] y fun e z => e = .returned (.int .i64 (waste L)) ∧ z = y) := fun y hy => waste_any base y B M rv L (hT.below hy).arn
  have D6 : Hid (∀ y, Below w.heap.size w y → Calls Try.prog 28 #[.agg #[.slice a L.length cap]] y fun e z => e = .returned (.int .i64 (waste L)) ∧ Below y.heap.size y z) := fun y hy => (refWaste_any F y a cap L (hT.below hy).ref hwd).mono (by rintro e z ⟨rfl, rfl⟩; exact ⟨rfl, (Below.refl _ _).alloc (Nat.le_refl _) _⟩)
  have HT := hide hT
  clear hT
  go_enter Try.func9, Try.ntmps9
  go_wp2_with (go_at_call 25; refine ((unhide D0) _ ((Below.refl _ _).alloc (Nat.le_refl _) _)).mono ?_; rintro e w1 ⟨pv, rfl, hpv, hb1⟩; obtain ⟨pa, pc, hpe, hprow, hpm, _⟩ := hpv.row; subst hpe)
  have hW1 : Below w.heap.size w w1 := ((Below.refl _ _).alloc (Nat.le_refl _) _).trans (hb1.mono (by simp))
  have hs1 := hb1.size
  simp at hs1
  have b0 : w1.heap[w.heap.size]? = some (.cells #[.slice a L.length cap] 28 (0, 0)) := (hb1.block _ (by simp)).trans (heap_alloc_new w _)
  have c0 := cell_of_one b0
  have HI : Hid (∀ y, Below w1.heap.size w1 y → y.cell? ⟨w.heap.size, 0, none⟩ = some (.slice a L.length cap)) := fun y hy => (hy.cell (p := ⟨w.heap.size, 0, none⟩) (by show w.heap.size < _; omega)).trans c0
  have E12 : Hid (∀ y u c, Below w1.heap.size w1 y → Own w1.heap.size y (.slice u (plF 0 L).length c) (plF 0 L) → Calls Try.prog 12 #[.slice u (plF 0 L).length c, .slice pa (plF 0 L).length pc] y fun e z => e = .returned (.bool true) ∧ Below y.heap.size y z) := by
    intro y u c hy ho
    obtain ⟨a1, c1, a2, c2, e1, e2, hC⟩ := own_ints ho (World.ownsRow.kept (w := w1) hpv (row := none) ⟨hy.os, hy.tape, hy.output, hy.size, fun k hk _ => hy.block k hk⟩ (by cases (Value.slice pa (plF 0 L).length pc).ownBlock <;> simp))
    simp only [Value.slice.injEq, true_and] at e1 e2
    obtain ⟨rfl, rfl⟩ := e1
    obtain ⟨rfl, rfl⟩ := e2
    exact hC
  have HW1 := hide hW1
  have HPR := hide hprow
  clear hb1 b0 hprow hpv D0
  unfold maxLen at hpm
  have W1 : ∀ y, Below w1.heap.size w1 y → Below w.heap.size w y := fun y hy => HW1.out.trans (hy.mono HW1.out.size)
  have E26 : Hid (∀ y, Below w1.heap.size w1 y → Calls Try.prog 26 #[.pointer (some ⟨B, 0, none⟩)] y fun e z => ∃ u c, e = .returned (.slice u (plF 0 L).length c) ∧ Own w1.heap.size z (.slice u (plF 0 L).length c) (plF 0 L) ∧ Below w1.heap.size w1 z) := fun y hy => (unhide D1 y (W1 y hy)).mono (by
    rintro e z ⟨v, rfl, ho, hb⟩
    have ho' : Own w1.heap.size z v (plF 0 L) := ownsRow_base ho hy.size
    obtain ⟨u, c, rfl, _⟩ := ho'.row
    exact ⟨u, c, rfl, ho', hy.trans (hb.mono hy.size)⟩)
  have E12' : Hid (∀ y u c, Below w1.heap.size w1 y → Own w1.heap.size y (.slice u (plF 0 L).length c) (plF 0 L) → Calls Try.prog 12 #[.slice u (plF 0 L).length c, .slice pa (plF 0 L).length pc] y fun e z => e = .returned (.bool true) ∧ Below w1.heap.size w1 z) := fun y u c hy ho => (unhide E12 y u c hy ho).mono (by
    rintro e z ⟨rfl, hb⟩; exact ⟨rfl, hy.trans (hb.mono hy.size)⟩)
  have E13 : Hid (∀ y, Below w1.heap.size w1 y → Calls Try.prog 13 #[.pointer (some ⟨B, 0, none⟩)] y fun e z => e = .returned (.int .i64 (plF 0 L).length) ∧ Below w1.heap.size w1 z) := fun y hy => (unhide D2 y (W1 y hy)).mono (by rintro e z ⟨rfl, rfl⟩; exact ⟨rfl, hy⟩)
  have E18 : Hid (∀ y, Below w1.heap.size w1 y → Calls Try.prog 18 #[.pointer (some ⟨B, 0, none⟩)] y fun e z => e = .returned (.int .i64 (words L)) ∧ Below w1.heap.size w1 z) := fun y hy => (unhide D3 y (W1 y hy)).mono (by rintro e z ⟨rfl, rfl⟩; exact ⟨rfl, hy⟩)
  have E27 : Hid (∀ y, Below w1.heap.size w1 y → Calls Try.prog 27 #[.agg #[.slice a L.length cap]] y fun e z => e = .returned (.int .i64 (words L)) ∧ Below w1.heap.size w1 z) := fun y hy => (unhide D4 y (W1 y hy)).mono (by rintro e z ⟨rfl, hb⟩; exact ⟨rfl, hy.trans (hb.mono hy.size)⟩)
  have E15 : Hid (∀ y, Below w1.heap.size w1 y → Calls Try.prog 15 #[.pointer (some ⟨B, 0, none⟩)] y fun e z => e = .returned (.int .i64 (waste L)) ∧ Below w1.heap.size w1 z) := fun y hy => (unhide D5 y (W1 y hy)).mono (by rintro e z ⟨rfl, rfl⟩; exact ⟨rfl, hy⟩)
  have E28 : Hid (∀ y, Below w1.heap.size w1 y → Calls Try.prog 28 #[.agg #[.slice a L.length cap]] y fun e z => e = .returned (.int .i64 (waste L)) ∧ Below w1.heap.size w1 z) := fun y hy => (unhide D6 y (W1 y hy)).mono (by rintro e z ⟨rfl, hb⟩; exact ⟨rfl, hy.trans (hb.mono hy.size)⟩)
  have q1 : (((plF 0 L).length : Int) != ((plF 0 L).length : Int)) = false := by simp
  have q2 : ((words L : Int) != (words L : Int)) = false := by simp
  have q3 : ((waste L : Int) != (waste L : Int)) = false := by simp
  have hb1 : Below w1.heap.size w1 w1 := Below.refl _ _
  have HW := hide W1
  have hW1' := hide hW1
  have bb : ∀ {y : World}, Below w1.heap.size w1 y → Below w1.heap.size w1 y := fun h => h
  clear W1 hW1 D1 D2 D3 D4 D5 D6 E12
  go_region_held3 (fun x => (x.cell? ⟨w.heap.size, 0, none⟩ = some (.slice a L.length cap)) ∧ Below w1.heap.size w1 x)
    (first | exact ⟨c0, hb1⟩ | exact ⟨c0, hb1.drew⟩ | exact ⟨HI.out _ (by assumption), by assumption⟩)
    (first
      | (go_at_call 26; refine (unhide E26 _ ?_).mono ?_; (simp [*]); rintro e x3 ⟨u3, k3, rfl, ho3, hb3⟩)
      | (go_at_call 12; refine (unhide E12' _ _ _ hb3 ho3).mono ?_; rintro e x4 ⟨rfl, hb4⟩)
      | (go_at_call 13; refine (unhide E13 _ ?_).mono ?_; (simp [*]); rintro e x5 ⟨rfl, hb5⟩)
      | (go_at_call 18; refine (unhide E18 _ ?_).mono ?_; (simp [*]); rintro e x6 ⟨rfl, hb6⟩)
      | (go_at_call 27; refine (unhide E27 _ ?_).mono ?_; (simp [*]); rintro e x7 ⟨rfl, hb7⟩)
      | (go_at_call 15; refine (unhide E15 _ ?_).mono ?_; (simp [*]); rintro e x8 ⟨rfl, hb8⟩)
      | (go_at_call 28; refine (unhide E28 _ ?_).mono ?_; (simp [*]); rintro e x9 ⟨rfl, hb9⟩))
  have HB9 := hide hb9
  clear hb3 hb4 hb5 hb6 hb7 hb8 hb9 ho3 E26 E12' E13 E18 E27 E15 E28 q1 q2 q3 c0
  go_wp2_with fail
  go_loopw [6] (fun i y => ∃ k : Nat, k ≤ (plF 0 L).length ∧ i = .int .i64 k ∧ Below w1.heap.size w1 y) (fun i _ => (plF 0 L).length - (intOf i).toNat)
  case atStart => exact ⟨0, Nat.zero_le _, rfl, HB9.out⟩
  case round =>
    clear HB9
    obtain ⟨k, hk, rfl, hby⟩ := hrel
    have cy := HI.out _ hby
    by_cases hlt : k < (plF 0 L).length
    · obtain ⟨pb, po, rfl, hpb, hpcell⟩ := HPR.out k hlt
      obtain ⟨c, G10, G11, hclen⟩ := (HT.out.below hW1'.out).gets (p := (plF 0 L)[k]) (List.getElem_mem hlt)
      have HP : Hid (∀ y, Below w1.heap.size w1 y → y.cell? ⟨pb, po + k, none⟩ = some (.int .i64 (plF 0 L)[k])) := fun y hy => (hy.cell (p := ⟨pb, po + k, none⟩) hpb).trans hpcell
      have py := HP.out _ hby
      generalize (plF 0 L)[k] = pk at *
      have C10 : Hid (Calls Try.prog 10 #[.pointer (some ⟨B, 0, none⟩), .int .i64 pk] wr fun e z => ∃ u d, e = .returned (.tuple #[.slice u c.length d, .bool true]) ∧ Own wr.heap.size z (.slice u c.length d) c ∧ Below w1.heap.size w1 z) := (unhide G10 _ (bb hby)).mono (by
        rintro e z ⟨v, rfl, ho, hb⟩
        obtain ⟨u, d, rfl, _⟩ := ho.row
        exact ⟨u, d, rfl, ho, hby.trans (hb.mono hby.size)⟩)
      have C11 : Hid (∀ y, Below w1.heap.size w1 y → Calls Try.prog 11 #[.agg #[.slice a L.length cap], .int .i64 pk] y fun e z => ∃ u d, e = .returned (.tuple #[.slice u c.length d, .bool true]) ∧ Row z u c ∧ Below y.heap.size y z) := fun y hy => (unhide G11 y (bb hy)).mono (by
        rintro e z ⟨v, rfl, ⟨u, d, rfl, hr, _⟩, hb⟩
        exact ⟨u, d, rfl, hr.row, hb⟩)
      clear G10 G11 hpcell HPR
      go_wp2_with (go_at_call 10; refine (unhide C10).mono ?_; rintro e y1 ⟨u1, d1, rfl, ho1, hb1'⟩; have c1 := HI.out _ hb1'; have p1 := HP.out _ hb1')
      have hb11 : Below y1.heap.size y1 y1 := Below.refl _ _
      have HI1 : Hid (∀ z, Below y1.heap.size y1 z → z.cell? ⟨w.heap.size, 0, none⟩ = some (.slice a L.length cap) ∧ z.cell? ⟨pb, po + k, none⟩ = some (.int .i64 pk)) := fun z hz => ⟨HI.out _ (hb1'.trans (hz.mono hb1'.size)), HP.out _ (hb1'.trans (hz.mono hb1'.size))⟩
      have C11' : Hid (∀ y, Below y1.heap.size y1 y → Calls Try.prog 11 #[.agg #[.slice a L.length cap], .int .i64 pk] y fun e z => ∃ u d, e = .returned (.tuple #[.slice u c.length d, .bool true]) ∧ Row z u c ∧ Below y1.heap.size y1 z) := fun y hy => (unhide C11 y (hb1'.trans (hy.mono hb1'.size))).mono (by
        rintro e z ⟨u, d, rfl, hr, hb⟩
        exact ⟨u, d, rfl, hr, hy.trans (hb.mono hy.size)⟩)
      have HO1 := hide ho1
      have HB1 := hide hb1'
      clear C10 C11 ho1 cy py hby hb1'
      go_region_held3 (fun z => (z.cell? ⟨w.heap.size, 0, none⟩ = some (.slice a L.length cap) ∧ z.cell? ⟨pb, po + k, none⟩ = some (.int .i64 pk)) ∧ Below y1.heap.size y1 z)
        (first | exact ⟨⟨c1, p1⟩, hb11⟩ | exact ⟨⟨c1, p1⟩, hb11.drew⟩ | exact ⟨HI1.out _ (by assumption), by assumption⟩)
        (first
          | (go_at_call 11; refine (unhide C11' _ ?_).mono ?_; (simp [*]); rintro e y2 ⟨u2, d2, rfl, hr2, hb2⟩))
      have C12 : Hid (Calls Try.prog 12 #[.slice u1 c.length d1, .slice u2 c.length d2] y2 fun e z => e = .returned (.bool true) ∧ Below w1.heap.size w1 z) := by
        obtain ⟨u1', d1', e1, r1, m1, _⟩ := (HO1.out.below hb2).row
        simp only [Value.slice.injEq, true_and] at e1
        obtain ⟨rfl, rfl⟩ := e1
        refine (ints_any _ _ _ _ c c y2 r1 hr2 m1 m1).mono ?_
        rintro e z ⟨rfl, n, rfl⟩
        exact ⟨by rw [intsB_self], HB1.out.trans ((Below.mono hb2 HB1.out.size).trans ⟨rfl, rfl, rfl, Nat.le_refl _, fun _ _ => rfl⟩)⟩
      clear C11' hr2 hb2 HI1 c1 p1 hb11
      go_wp2_with (go_at_call 12; refine (unhide C12).mono ?_; rintro e y3 ⟨rfl, hb3⟩)
      go_roundw
      case rel => exact ⟨k + 1, by omega, by go_num, hb3⟩
      case measure => simp [intOf]; omega
    · go_wp2
      go_ret
      exact ⟨rfl, HW.out _ hby⟩

end Go.Proofs.Ytbibbdkijgaoeaa
