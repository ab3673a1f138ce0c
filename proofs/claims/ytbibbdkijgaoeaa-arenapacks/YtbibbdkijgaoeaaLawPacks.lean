/- The statement on packing, for all acts in memory. -/
import Derived.Test.YtbibbdkijgaoeaaWalkT
import Derived.Test.YtbibbdkijgaoeaaWalkV
set_option linter.unusedVariables false
set_option linter.unusedSimpArgs false
namespace Go.Proofs.Ytbibbdkijgaoeaa
open Go.RowKit Go.Maps

theorem zip_at (L : List Itm) : ∀ (n n' i : Nat) (m : Int × Int), ((plF n L).zip (plF n' (keepL L)))[i]? = some m → ∃ A it R, L = A ++ it :: R ∧ it.2 = false ∧ m = (((n + words A : Nat) : Int), ((n' + words (keepL A) : Nat) : Int)) := by
  induction L with
  | nil => intro n n' i m h; simp [plF] at h
  | cons a L ih =>
    intro n n' i m h
    cases ha : a.2
    · have hk : keepL (a :: L) = a :: keepL L := by simp [keepL, ha]
      rw [hk] at h
      simp only [plF, ha, Bool.false_eq_true, if_false, List.zip_cons_cons] at h
      cases i with
      | zero =>
        simp at h
        exact ⟨[], a, L, rfl, ha, by rw [← h]; simp [words, keepL]⟩
      | succ i =>
        simp only [List.getElem?_cons_succ] at h
        obtain ⟨A, it, R, rfl, hit, rfl⟩ := ih _ _ _ _ h
        refine ⟨a :: A, it, R, rfl, hit, ?_⟩
        have hk2 : keepL (a :: A) = a :: keepL A := by simp [keepL, ha]
        rw [hk2]
        simp only [words, Nat.add_assoc]
    · have hk : keepL (a :: L) = keepL L := by simp [keepL, ha]
      rw [hk] at h
      simp only [plF, ha, if_true] at h
      obtain ⟨A, it, R, rfl, hit, rfl⟩ := ih _ _ _ _ h
      refine ⟨a :: A, it, R, rfl, hit, ?_⟩
      have hk2 : keepL (a :: A) = keepL A := by simp [keepL, ha]
      rw [hk2]
      simp only [words, Nat.add_assoc]

theorem mvs_at {L : List Itm} {i : Nat} (hi : i < (mvs L).length) : ∃ A it R, L = A ++ it :: R ∧ it.2 = false ∧ (mvs L)[i] = ((words A : Int), (words (keepL A) : Int)) := by
  obtain ⟨A, it, R, h1, h2, h3⟩ := zip_at L 0 0 i (mvs L)[i] (by rw [← List.getElem?_eq_getElem hi]; rfl)
  exact ⟨A, it, R, h1, h2, by rw [h3]; simp⟩

theorem mvs_same {L : List Itm} {i : Nat} (hi : i < (mvs (keepL L)).length) : (mvs (keepL L))[i].1 = (mvs (keepL L))[i].2 := by
  have h : mvs (keepL L) = (plF 0 (keepL L)).zip (plF 0 (keepL L)) := by unfold mvs; rw [keepL_idem]
  simp only [h, List.getElem_zip]

theorem mvs_keep_len (L : List Itm) : (mvs (keepL L)).length = (plF 0 L).length := by
  rw [mvs_len, plF_len, keepL_idem, ← plF_len L 0]

theorem kp_below {w x y : World} {B M : Nat} {rv : Value} {L : List Itm} (hb : Below w.heap.size w x) (hA : Arn w.heap.size x B M rv L) (hK : Kp (Mine B M rv) x y) : Below w.heap.size w y :=
  ⟨hK.os.trans hb.os, hK.tape.trans hb.tape, hK.output.trans hb.output, Nat.le_trans hb.size hK.size, fun k hk => (hK.block k (by have := hb.size; omega) (fun hm => by have := (hA.lt k hm).1; omega)).trans (hb.block k hk)⟩

/-- A clause where it stood, and where it stands. -/
theorem packed_gets {base : Nat} {F : Nat → Prop} {x : World} {B M : Nat} {rv : Value} {a : Option Addr} {cap : Nat} {L : List Itm} (hA : Arn base x B M rv (keepL L)) (hR : Ref F x a cap L) (hl : words L ≤ 20000) {i : Nat} (hi : i < (mvs L).length) :
    ∃ (c : List Int) (o n : Int), (mvs L)[i] = (o, n) ∧ ¬ o < n ∧ c.length ≤ 20000 ∧
      Hid (∀ y, Below x.heap.size x y → Calls Try.prog 10 #[.pointer (some ⟨B, 0, none⟩), .int .i64 n] y fun e z => ∃ u d, e = .returned (.tuple #[.slice u c.length d, .bool true]) ∧ Own y.heap.size z (.slice u c.length d) c ∧ Below x.heap.size x z) ∧
      Hid (∀ y, Below x.heap.size x y → Calls Try.prog 11 #[.agg #[.slice a L.length cap], .int .i64 o] y fun e z => ∃ u d, e = .returned (.tuple #[.slice u c.length d, .bool true]) ∧ Row z u c ∧ Below y.heap.size y z) := by
  obtain ⟨A, it, R, rfl, hit, hm⟩ := mvs_at hi
  have hk : keepL (A ++ it :: R) = keepL A ++ it :: keepL R := by rw [keepL_append]; simp [keepL, hit]
  rw [hk] at hA
  have hle := keepL_le A
  have hwk : words (keepL A ++ it :: keepL R) ≤ 20000 := by rw [← hk]; exact Nat.le_trans (keepL_le _) hl
  refine ⟨it.1, _, _, hm, by omega, by have := words_le_of_mem (L := A ++ it :: R) (it := it) (by simp); omega, fun y hy => (get_yes base y B M rv (keepL A) (keepL R) it (hA.below hy) hwk hit).mono ?_, fun y hy => (refGet_yes F y a cap A R it (hR.below hy) hl hit).mono ?_⟩
  · rintro e z ⟨v, rfl, ho, hb⟩
    obtain ⟨u, d, rfl, _⟩ := ho.row
    exact ⟨u, d, rfl, ho, hy.trans (hb.mono hy.size)⟩
  · rintro e z ⟨⟨v, rfl, u, d, rfl, hr, _⟩, hb⟩
    exact ⟨u, d, rfl, hr.row, hb⟩

set_option maxRecDepth 100000 in
set_option maxHeartbeats 6400000 in
theorem packs_any (w : World) (a : Option Addr) (cap : Nat) (l : List ActD) (hA : Acts w a l) (hl : l.length ≤ maxLen) :
    Calls Try.prog 5 #[.slice a l.length cap] w fun e w' => e = .returned (.bool true) ∧ Below w.heap.size w w' := by
  have G1 := hide (light_any w a cap l hA hl)
  have G2 := hide (awake_any w)
  cases hlight : lightB l
  · rw [hlight] at G1
    clear hA
    go_enter Try.func5, Try.ntmps5
    go_wp2_with (first
      | (go_at_call 6; refine (unhide G1).mono ?_; rintro e w0 ⟨rfl, hw0⟩; subst w0)
      | (go_at_call 7; refine (unhide G2).mono ?_; rintro e w1 ⟨rfl, hb1⟩))
    go_ret
    exact ⟨rfl, hb1⟩
  · rw [hlight] at G1
    have G3 := hide (play_any w a cap l hA hl hlight)
    clear hA hlight G2
    go_enter Try.func5, Try.ntmps5
    go_wp2_with (first
      | (go_at_call 6; refine (unhide G1).mono ?_; rintro e w0 ⟨rfl, hw0⟩; subst w0)
      | (go_at_call 8; refine (unhide G3).mono ?_; rintro e w1 ⟨B, M, Wc, rv, ra, rc, L, rfl, hAr, hRf, hwd, hb1⟩; have hAa := hide (hAr.alloc (.cells #[.slice ra L.length rc] 28)); have C13 := hide (count_any w.heap.size _ B M rv L hAa.out); have C14 := hide (pack_any w.heap.size _ B M rv L hAa.out hwd (by have := hb1.size; simp; omega)))
      | (go_at_call_of 13 (Value.pointer (some ⟨B, 0, none⟩)); refine (unhide C13).mono ?_; rintro e w0 ⟨rfl, hw0⟩; subst w0)
      | (go_at_call 14; refine (unhide C14).mono ?_; rintro e x2 ⟨v2, rfl, hM2, ⟨rv2, hA2, hrv2⟩, hK2⟩; obtain ⟨ma, mc, hme, hml, hmat⟩ := hM2.at; rw [mvs_len] at hme; subst hme; have C15 := hide (waste_any w.heap.size x2 B M rv2 _ hA2); have C13' := hide (count_any w.heap.size x2 B M rv2 _ hA2); rw [waste_keepL] at C15; rw [plF_len (keepL L) 0, keepL_idem, ← plF_len L 0] at C13')
      | (go_at_call 15; refine (unhide C15).mono ?_; rintro e w0 ⟨rfl, hw0⟩; subst w0)
      | (go_at_call 13; refine (unhide C13').mono ?_; rintro e w0 ⟨rfl, hw0⟩; subst w0))
    have hR2 : Ref (fun _ => True) x2 ra rc L := (hRf.alloc (.cells #[.slice ra L.length rc] 28)).kept (fun k hk hF => ⟨hK2.block k hk hF.1, trivial⟩) hK2.size
    have hB2 : Below w.heap.size w x2 := kp_below (hb1.alloc hb1.size _) hAa.out hK2
    have cW2 : x2.cell? ⟨w1.heap.size, 0, none⟩ = some (.slice ra L.length rc) := cell_of_one ((hK2.block _ (by simp) (fun hm => by have := (hAr.lt _ hm).2; omega)).trans (heap_alloc_new w1 _))
    have hltW : w1.heap.size < x2.heap.size := by have := hK2.size; simp at this; omega
    have HR2 := hide hR2
    have HB2 := hide hB2
    have HA2 := hide hA2
    have HMAT := hide hmat
    have hpl := plF_len_le L 0
    have hlw := len_le_words L
    have HCW : Hid (∀ y, Below x2.heap.size x2 y → y.cell? ⟨w1.heap.size, 0, none⟩ = some (.slice ra L.length rc)) := fun y hy => (hy.cell (p := ⟨w1.heap.size, 0, none⟩) hltW).trans cW2
    clear hR2 hB2 hA2 hmat hM2 hK2 hrv2 hAr hRf hb1 hAa C13 C14 C15 C13' cW2 hml
    go_loopw [8] (fun i y => ∃ k : Nat, k ≤ (plF 0 L).length ∧ i = .int .i64 k ∧ Below x2.heap.size x2 y) (fun i _ => (plF 0 L).length - (intOf i).toNat)
    case atStart => exact ⟨0, Nat.zero_le _, rfl, Below.refl _ _⟩
    case round =>
      obtain ⟨k, hk, rfl, hby⟩ := hrel
      by_cases hlt : k < (plF 0 L).length
      · have hkm : k < (mvs L).length := by rw [mvs_len]; exact hlt
        obtain ⟨mb, rfl, hmb0, hmb, m1, m2⟩ := HMAT.out k hkm
        obtain ⟨c, o, n, hmo, hon, hclen, G10, G11⟩ := packed_gets HA2.out HR2.out hwd hkm
        rw [hmo] at m1 m2
        simp only at m1 m2
        have HM : Hid (∀ y, Below x2.heap.size x2 y → y.cell? ⟨mb, k * 2, none⟩ = some (.int .i64 o) ∧ y.cell? ⟨mb, k * 2 + 1, none⟩ = some (.int .i64 n)) := fun y hy => ⟨(hy.cell (p := ⟨mb, k * 2, none⟩) hmb).trans m1, (hy.cell (p := ⟨mb, k * 2 + 1, none⟩) hmb).trans m2⟩
        obtain ⟨p1, p2⟩ := HM.out _ hby
        have C10 := hide (unhide G10 _ hby)
        clear G10 m1 m2 HMAT HA2 HR2 hmo hkm
        go_wp2_with (go_at_call 10; refine (unhide C10).mono ?_; rintro e y1 ⟨u1, d1, rfl, ho1, hb1'⟩; have c1 := HCW.out _ hb1'; obtain ⟨q1, q2⟩ := HM.out _ hb1')
        have hb11 : Below y1.heap.size y1 y1 := Below.refl _ _
        have HI1 : Hid (∀ z, Below y1.heap.size y1 z → z.cell? ⟨w1.heap.size, 0, none⟩ = some (.slice ra L.length rc) ∧ z.cell? ⟨mb, k * 2, none⟩ = some (.int .i64 o)) := fun z hz => ⟨HCW.out _ (hb1'.trans (hz.mono hb1'.size)), (HM.out _ (hb1'.trans (hz.mono hb1'.size))).1⟩
        have C11' : Hid (∀ y, Below y1.heap.size y1 y → Calls Try.prog 11 #[.agg #[.slice ra L.length rc], .int .i64 o] y fun e z => ∃ u d, e = .returned (.tuple #[.slice u c.length d, .bool true]) ∧ Row z u c ∧ Below y1.heap.size y1 z) := fun y hy => (unhide G11 y (hb1'.trans (hy.mono hb1'.size))).mono (by
          rintro e z ⟨u, d, rfl, hr, hb⟩
          exact ⟨u, d, rfl, hr, hy.trans (hb.mono hy.size)⟩)
        have HO1 := hide ho1
        have HB1 := hide hb1'
        clear C10 G11 ho1 p1 p2 hby hb1'
        go_region_held3 (fun z => (z.cell? ⟨w1.heap.size, 0, none⟩ = some (.slice ra L.length rc) ∧ z.cell? ⟨mb, k * 2, none⟩ = some (.int .i64 o)) ∧ Below y1.heap.size y1 z)
          (first | exact ⟨⟨c1, q1⟩, hb11⟩ | exact ⟨⟨c1, q1⟩, hb11.drew⟩ | exact ⟨HI1.out _ (by assumption), by assumption⟩)
          (first
            | (go_at_call 11; refine (unhide C11' _ ?_).mono ?_; (simp [*]); rintro e y2 ⟨u2, d2, rfl, hr2, hb2⟩))
        have hB2' : Below x2.heap.size x2 y2 := HB1.out.trans (hb2.mono HB1.out.size)
        have C12 : Hid (∀ y, Below y2.heap.size y2 y → Calls Try.prog 12 #[.slice u1 c.length d1, .slice u2 c.length d2] y fun e z => e = .returned (.bool true) ∧ Below y2.heap.size y2 z) := by
          intro y hy
          obtain ⟨u1', d1', e1, r1, m1, _⟩ := ((HO1.out.below hb2).below hy).row
          simp only [Value.slice.injEq, true_and] at e1
          obtain ⟨rfl, rfl⟩ := e1
          refine (ints_any _ _ _ _ c c y r1 (hr2.kp (Kp.of_below (S := fun _ => False) hy) (fun _ _ _ _ h => h)) m1 m1).mono ?_
          rintro e z ⟨rfl, nn, rfl⟩
          exact ⟨by rw [intsB_self], hy.trans ⟨rfl, rfl, rfl, Nat.le_refl _, fun _ _ => rfl⟩⟩
        have HI2 : Hid (∀ z, Below y2.heap.size y2 z → z.cell? ⟨mb, k * 2, none⟩ = some (.int .i64 o) ∧ z.cell? ⟨mb, k * 2 + 1, none⟩ = some (.int .i64 n)) := fun z hz => HM.out _ (hB2'.trans (hz.mono hB2'.size))
        obtain ⟨r1, r2⟩ := HI2.out _ (Below.refl _ _)
        have hb22 : Below y2.heap.size y2 y2 := Below.refl _ _
        have hgt : decide (o < n) = false := decide_eq_false (by omega)
        have HBX := hide hB2'
        clear C11' hr2 hb2 HI1 c1 q1 q2 hb11 hB2' HM
        go_wp2_with fail
        go_region_held3 (fun z => (z.cell? ⟨mb, k * 2, none⟩ = some (.int .i64 o) ∧ z.cell? ⟨mb, k * 2 + 1, none⟩ = some (.int .i64 n)) ∧ Below y2.heap.size y2 z)
          (first | exact ⟨⟨r1, r2⟩, hb22⟩ | exact ⟨⟨r1, r2⟩, hb22.drew⟩ | exact ⟨HI2.out _ (by assumption), by assumption⟩)
          (first
            | (go_at_call 12; refine (unhide C12 _ ?_).mono ?_; (simp [*]); rintro e y3 ⟨rfl, hb3⟩))
        clear r1 r2 hb22 C12 HI2
        go_wp2
        go_roundw
        case rel => exact ⟨k + 1, by omega, by go_num, HBX.out.trans (hb3.mono HBX.out.size)⟩
        case measure => simp [intOf]; omega
      · have hA3 := HA2.out.below hby
        have hBw := HB2.out.trans (hby.mono HB2.out.size)
        have C14 := hide (pack_any w.heap.size wr B M rv2 (keepL L) hA3 (Nat.le_trans (keepL_le L) hwd) hBw.size)
        have HA3 := hide hA3
        have HBW := hide hBw
        clear hA3 hBw HMAT HA2 HR2 HCW HB2 hby
        go_wp2_with (go_at_call 14; refine (unhide C14).mono ?_; rintro e x4 ⟨v4, rfl, hM4, ⟨rv4, hA4, hrv4⟩, hK4⟩; obtain ⟨na, nc, hne, hnl, hnat⟩ := hM4.at; rw [mvs_keep_len] at hne; subst hne)
        have HB4 := hide (kp_below HBW.out HA3.out hK4)
        have HNAT := hide hnat
        clear hnat hM4 hA4 hrv4 hK4 hnl C14 HA3 HBW
        have C7 : Hid (∀ y, Below w.heap.size w y → Calls Try.prog 7 #[] y fun e z => e = .returned (.bool true) ∧ Below w.heap.size w z) := fun y hy => (awake_any y).mono (by rintro e z ⟨rfl, hb⟩; exact ⟨rfl, hy.trans (hb.mono hy.size)⟩)
        go_loopw [14] (fun j y => ∃ (m nn : Nat), m ≤ (plF 0 L).length ∧ j = .int .i64 m ∧ y = x4.drewN nn) (fun j _ => (plF 0 L).length - (intOf j).toNat)
        case atStart => exact ⟨0, 0, Nat.zero_le _, rfl, rfl⟩
        case round =>
          obtain ⟨m, nn, hm, rfl, rfl⟩ := hrel
          by_cases hmlt : m < (plF 0 L).length
          · have hmm : m < (mvs (keepL L)).length := by rw [mvs_keep_len]; exact hmlt
            obtain ⟨nb, rfl, hnb0, hnb, n1, n2⟩ := HNAT.out m hmm
            rw [← mvs_same hmm] at n2
            generalize (mvs (keepL L))[m].1 = oo at n1 n2
            clear HNAT hmm C7 HB4
            go_wp2
            go_quiet (fail)
            go_wp2
            go_roundw
            case rel => exact ⟨m + 1, _, by omega, by go_num, rfl⟩
            case measure => simp [intOf]; omega
          · have hme : m = (plF 0 L).length := by omega
            have hB4d : Below w.heap.size w (x4.drewN nn) := HB4.out.trans ⟨rfl, rfl, rfl, Nat.le_refl _, fun _ _ => rfl⟩
            have C7' := hide (unhide C7 _ hB4d)
            clear HNAT hB4d C7
            go_wp2_with (go_at_call 7; refine (unhide C7').mono ?_; rintro e w9 ⟨rfl, hb9⟩)
            go_ret
            exact ⟨rfl, hb9⟩

end Go.Proofs.Ytbibbdkijgaoeaa
