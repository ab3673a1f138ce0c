/- The document's And behind its first rule. -/
import Derived.Test.YtjfjigpmaeaopaaWalkT
set_option linter.unusedVariables false
set_option linter.unusedSimpArgs false
namespace Go.Proofs.Ytjfjigpmaeaopaa
open Go.RowKit Go.Maps

/-- The box of the two orders. -/
structure Box4 (w W : World) (S : Nat) (a b : Int) : Prop where
  bel : Below w.heap.size w W
  c0 : W.cell? ⟨S, 0, none⟩ = some (.int .i64 a)
  c1 : W.cell? ⟨S, 1, none⟩ = some (.int .i64 b)
  c2 : W.cell? ⟨S, 2, none⟩ = some (.int .i64 b)
  c3 : W.cell? ⟨S, 3, none⟩ = some (.int .i64 a)
theorem Box4.drewN {w W : World} {S : Nat} {a b : Int} (h : Box4 w W S a b) (n : Nat) : Box4 w (W.drewN n) S a b := ⟨below_drewN h.bel n, h.c0, h.c1, h.c2, h.c3⟩
theorem box4 (w : World) (a b : Int) (t : TypeId) : Box4 w (w.alloc (.cells #[.int .i64 a, .int .i64 b, .int .i64 b, .int .i64 a] t)) w.heap.size a b := by
  have h := (MapKept.heap_alloc w (.cells #[.int .i64 a, .int .i64 b, .int .i64 b, .int .i64 a] t)).1
  refine ⟨below_alloc w _, ?_, ?_, ?_, ?_⟩ <;> (simp only [World.cell?, h]; rfl)

/-- No match by the second rule. -/
def NM1 (a m c d : Int) (o : Bool) : Prop := o = true → ¬ (a = c ∨ a = d) ∧ ¬ (m = c ∨ m = d)
/-- No match by the third rule. -/
def NM2 (a m c d : Int) (o : Bool) : Prop := o = true → ¬ (m = c ∨ m = d) ∧ ¬ a = c ∧ ¬ a = d

set_option maxHeartbeats 8000000 in
set_option maxRecDepth 100000 in
theorem refAnd_mid (w : World) (q off cap : Nat) (g : List Gt) (a b m mb : Int) (Z : List Gt × Int) (hl : g.length ≤ 999) (hgt : ¬ b < a)
    (IS : Hid (∀ W l, Calls Try.prog 42 #[.slice (some ⟨q, off, none⟩) g.length cap, .int .i64 l] W fun e w' => e = .returned (.bool (isB g l)) ∧ w' = W)) (h0 : isB g a = true) (hb : isB g b = true)
    (NT : Hid (∀ W l, 0 ≤ l → l ≤ 5000000 → Calls Try.prog 43 #[.int .i64 l] W fun e w' => e = .returned (.int .i64 (notI l)) ∧ w' = W))
    (hna : 0 ≤ a ∧ a ≤ 5000000) (hnb : 0 ≤ b ∧ b ≤ 5000000) (em : notI a = m) (emb : notI b = mb)
    (e1 : (a == 0) = false) (e2 : (b == m) = false) (e3 : (a == 1) = false) (e4 : (a == b) = false)
    (KC : Hid (∀ W l neg, Below w.heap.size w W → isB g l = true → Calls Try.prog 44 #[.slice (some ⟨q, off, none⟩) g.length cap, .int .i64 l, .bool neg] W fun e w' => e = .returned (.tuple #[.int .i64 (kidsF g l neg).1, .int .i64 (kidsF g l neg).2.1, .bool (kidsF g l neg).2.2]) ∧ ∃ n, w' = W.drewN n))
    (c1 d1 c2 d2 c3 d3 c4 d4 : Int) (o1 o2 o3 o4 : Bool) (k1 : kidsF g b false = (c1, d1, o1)) (k2 : kidsF g a false = (c2, d2, o2)) (k3 : kidsF g b true = (c3, d3, o3)) (k4 : kidsF g a true = (c4, d4, o4))
    (n2 : Hid (o2 = true → b ≠ c2 ∧ b ≠ d2 ∧ mb ≠ c2 ∧ mb ≠ d2)) (n4 : Hid (o4 = true → b ≠ c4 ∧ b ≠ d4 ∧ mb ≠ c4 ∧ mb ≠ d4))
    (Z1 : Hid (o1 = true → (a = c1 ∨ a = d1) → ∀ W, Below w.heap.size w W → RefP w q Z (.returned (.tuple #[.slice (some ⟨q, off, none⟩) g.length cap, .int .i64 b])) W))
    (Z2 : Hid (o1 = true → ¬ (a = c1 ∨ a = d1) → (m = c1 ∨ m = d1) → ∀ W, Below w.heap.size w W → RefP w q Z (.returned (.tuple #[.slice (some ⟨q, off, none⟩) g.length cap, .int .i64 0])) W))
    (Z3 : Hid (NM1 a m c1 d1 o1 → o3 = true → (m = c3 ∨ m = d3) → ∀ W, Below w.heap.size w W → RefP w q Z (.returned (.tuple #[.slice (some ⟨q, off, none⟩) g.length cap, .int .i64 a])) W))
    (Z4 : Hid (NM1 a m c1 d1 o1 → o3 = true → ¬ (m = c3 ∨ m = d3) → a = c3 → (0 ≤ d3 ∧ d3 ≤ 5000000) ∧ ∀ W, Below w.heap.size w W → Calls Try.prog 21 #[.slice (some ⟨q, off, none⟩) g.length cap, .int .i64 a, .int .i64 (notI d3)] W (RefP w q Z)))
    (Z5 : Hid (NM1 a m c1 d1 o1 → o3 = true → ¬ (m = c3 ∨ m = d3) → ¬ a = c3 → a = d3 → (0 ≤ c3 ∧ c3 ≤ 5000000) ∧ ∀ W, Below w.heap.size w W → Calls Try.prog 21 #[.slice (some ⟨q, off, none⟩) g.length cap, .int .i64 a, .int .i64 (notI c3)] W (RefP w q Z)))
    (Z6 : Hid (NM1 a m c1 d1 o1 → NM2 a m c3 d3 o3 → Z = nodeF g a b)) (hord : Hid (Ord g)) (hs : Hid (GS w (some ⟨q, off, none⟩) g)) :
    Calls Try.prog 21 #[.slice (some ⟨q, off, none⟩) g.length cap, .int .i64 a, .int .i64 b] w (RefP w q Z) := by
  have e1' : decide (a = 0) = false := e1
  have e2' : decide (b = m) = false := e2
  have e3' : decide (a = 1) = false := e3
  have e4' : decide (a = b) = false := e4
  have HB0 := hide (box4 w a b 67)
  go_enter Try.func21, Try.ntmps21
  go_upto_region 11 with (first | (go_at_call 42; refine (unhide IS _ _).mono ?_; rintro e w0 ⟨rfl, hw0⟩; subst w0) | (go_at_call 43; refine (unhide NT _ _ hna.1 hna.2).mono ?_; rintro e w0 ⟨rfl, hw0⟩; subst w0))
  generalize w.heap.size = S at HB0 ⊢
  go_loopw [9] (fun i W => ∃ k : Nat, k ≤ 2 ∧ i = .int .i64 (k : Int) ∧ Hid (1 ≤ k → NM1 a m c1 d1 o1) ∧ Hid (Box4 w W S a b)) (fun i _ => (2 - (intOf i)).toNat)
  case atStart => exact ⟨0, Nat.zero_le _, rfl, (fun h => by omega), HB0⟩
  case round =>
    clear HB0
    obtain ⟨k, hk, rfl, HN, HB⟩ := hrel
    have x0 := HB.out.c0
    have x1 := HB.out.c1
    have x2 := HB.out.c2
    have x3 := HB.out.c3
    by_cases hk0 : k = 0
    · subst hk0
      go_wp2
      go_quiet (fail)
      go_upto_region 15 with (first | (go_at_call 44; refine (unhide KC _ _ _ (below_drewN HB.out.bel _) hb).mono ?_; rintro e w1 ⟨rfl, nk, hw1⟩; subst w1))
      refine forget (P := fun W => Code.wp Try.prog _ _ _ W) (fun W => Hid (Box4 w W S a b)) (HB.out.drewN _) ?_
      clear HB x0 x1 x2 x3 HN
      rintro W HB
      cases o1 with
      | false =>
        go_wp2
        go_roundw
        case rel => exact ⟨1, by omega, by go_num, (fun _ h => by cases h), HB⟩
        case measure => simp [intOf]
      | true =>
        by_cases y1 : a = c1
        · have y1' : (a == c1) = true := by simpa using y1
          have HZ := hide (Z1.out rfl (.inl y1))
          clear y1 Z1 Z2
          go_wp2
          all_goals exact bodyPost_ret (v := .tuple #[.slice (some ⟨q, off, none⟩) g.length cap, .int .i64 b]) (by simp [results, Try.results21, go_sem]) rfl (HZ.out _ HB.out.bel)
        · have y1' : (a == c1) = false := by simpa using y1
          by_cases y2 : a = d1
          · have y2' : (a == d1) = true := by simpa using y2
            have HZ := hide (Z1.out rfl (.inr y2))
            clear y1 y2 Z1 Z2
            go_wp2
            all_goals exact bodyPost_ret (v := .tuple #[.slice (some ⟨q, off, none⟩) g.length cap, .int .i64 b]) (by simp [results, Try.results21, go_sem]) rfl (HZ.out _ HB.out.bel)
          · have y2' : (a == d1) = false := by simpa using y2
            have hno : ¬ (a = c1 ∨ a = d1) := by rintro (h | h); exact y1 h; exact y2 h
            by_cases y3 : m = c1
            · have y3' : (m == c1) = true := by simpa using y3
              have HZ := hide (Z2.out rfl hno (.inl y3))
              clear y1 y2 y3 hno Z1 Z2
              go_wp2_with (first | (go_at_call 43; refine (unhide NT _ _ hna.1 hna.2).mono ?_; rintro e w0 ⟨rfl, hw0⟩; subst w0))
              all_goals exact bodyPost_ret (v := .tuple #[.slice (some ⟨q, off, none⟩) g.length cap, .int .i64 0]) (by simp [results, Try.results21, go_sem]) rfl (HZ.out _ HB.out.bel)
            · have y3' : (m == c1) = false := by simpa using y3
              by_cases y4 : m = d1
              · have y4' : (m == d1) = true := by simpa using y4
                have HZ := hide (Z2.out rfl hno (.inr y4))
                clear y1 y2 y3 y4 hno Z1 Z2
                go_wp2_with (first | (go_at_call 43; refine (unhide NT _ _ hna.1 hna.2).mono ?_; rintro e w0 ⟨rfl, hw0⟩; subst w0))
                all_goals exact bodyPost_ret (v := .tuple #[.slice (some ⟨q, off, none⟩) g.length cap, .int .i64 0]) (by simp [results, Try.results21, go_sem]) rfl (HZ.out _ HB.out.bel)
              · have y4' : (m == d1) = false := by simpa using y4
                have HNM : Hid (NM1 a m c1 d1 true) := fun _ => ⟨hno, by rintro (h | h); exact y3 h; exact y4 h⟩
                clear y1 y2 y3 y4 hno Z1 Z2
                go_wp2_with (first | (go_at_call 43; refine (unhide NT _ _ hna.1 hna.2).mono ?_; rintro e w0 ⟨rfl, hw0⟩; subst w0))
                go_roundw
                case rel => exact ⟨1, by omega, by go_num, (fun _ => HNM.out), HB⟩
                case measure => simp [intOf]
    · by_cases hk1 : k = 1
      · subst hk1
        have HNM := hide (HN.out (Nat.le_refl _))
        go_wp2
        go_quiet (fail)
        go_upto_region 15 with (first | (go_at_call 44; refine (unhide KC _ _ _ (below_drewN HB.out.bel _) h0).mono ?_; rintro e w1 ⟨rfl, nk, hw1⟩; subst w1))
        refine forget (P := fun W => Code.wp Try.prog _ _ _ W) (fun W => Hid (Box4 w W S a b)) (HB.out.drewN _) ?_
        clear HB x0 x1 x2 x3 HN
        rintro W HB
        cases o2 with
        | false =>
          go_wp2
          go_roundw
          case rel => exact ⟨2, by omega, by go_num, (fun _ => HNM.out), HB⟩
          case measure => simp [intOf]
        | true =>
          obtain ⟨t1, t2, t3, t4⟩ := n2.out rfl
          have y1' : (b == c2) = false := by simpa using t1
          have y2' : (b == d2) = false := by simpa using t2
          have y3' : (mb == c2) = false := by simpa using t3
          have y4' : (mb == d2) = false := by simpa using t4
          clear t1 t2 t3 t4
          go_wp2_with (first | (go_at_call 43; refine (unhide NT _ _ hnb.1 hnb.2).mono ?_; rintro e w0 ⟨rfl, hw0⟩; subst w0))
          go_roundw
          case rel => exact ⟨2, by omega, by go_num, (fun _ => HNM.out), HB⟩
          case measure => simp [intOf]
      · have hkk : ¬ (k : Int) < 2 := by omega
        have HNM := hide (HN.out (by omega))
        clear HN x0 x1 x2 x3 Z1 Z2 n2 hk hk0 hk1
        go_upto_region 20 with fail
        go_loopw [15] (fun i W => ∃ k : Nat, k ≤ 2 ∧ i = .int .i64 (k : Int) ∧ Hid (1 ≤ k → NM2 a m c3 d3 o3) ∧ Hid (Box4 w W S a b)) (fun i _ => (2 - (intOf i)).toNat)
        case atStart => exact ⟨0, Nat.zero_le _, rfl, (fun h => by omega), HB⟩
        case round =>
          clear HB
          obtain ⟨k, hk, rfl, HN, HB⟩ := hrel
          have x0 := HB.out.c0
          have x1 := HB.out.c1
          have x2 := HB.out.c2
          have x3 := HB.out.c3
          by_cases hk0 : k = 0
          · subst hk0
            go_wp2
            go_quiet (fail)
            go_upto_region 24 with (first | (go_at_call 44; refine (unhide KC _ _ _ (below_drewN HB.out.bel _) hb).mono ?_; rintro e w1 ⟨rfl, nk, hw1⟩; subst w1))
            refine forget (P := fun W => Code.wp Try.prog _ _ _ W) (fun W => Hid (Box4 w W S a b)) (HB.out.drewN _) ?_
            clear HB x0 x1 x2 x3 HN
            rintro W HB
            cases o3 with
            | false =>
              go_wp2
              go_roundw
              case rel => exact ⟨1, by omega, by go_num, (fun _ h => by cases h), HB⟩
              case measure => simp [intOf]
            | true =>
              by_cases y1 : m = c3
              · have y1' : (m == c3) = true := by simpa using y1
                have HZ := hide (Z3.out HNM.out rfl (.inl y1))
                clear y1 Z3 Z4 Z5 Z6
                go_wp2_with (first | (go_at_call 43; refine (unhide NT _ _ hna.1 hna.2).mono ?_; rintro e w0 ⟨rfl, hw0⟩; subst w0))
                all_goals exact bodyPost_ret (v := .tuple #[.slice (some ⟨q, off, none⟩) g.length cap, .int .i64 a]) (by simp [results, Try.results21, go_sem]) rfl (HZ.out _ HB.out.bel)
              · have y1' : (m == c3) = false := by simpa using y1
                by_cases y2 : m = d3
                · have y2' : (m == d3) = true := by simpa using y2
                  have HZ := hide (Z3.out HNM.out rfl (.inr y2))
                  clear y1 y2 Z3 Z4 Z5 Z6
                  go_wp2_with (first | (go_at_call 43; refine (unhide NT _ _ hna.1 hna.2).mono ?_; rintro e w0 ⟨rfl, hw0⟩; subst w0))
                  all_goals exact bodyPost_ret (v := .tuple #[.slice (some ⟨q, off, none⟩) g.length cap, .int .i64 a]) (by simp [results, Try.results21, go_sem]) rfl (HZ.out _ HB.out.bel)
                · have y2' : (m == d3) = false := by simpa using y2
                  have hno : ¬ (m = c3 ∨ m = d3) := by rintro (h | h); exact y1 h; exact y2 h
                  by_cases y3 : a = c3
                  · obtain ⟨⟨g1, g2⟩, hcall⟩ := Z4.out HNM.out rfl hno y3
                    have HCALL := hide hcall
                    have y3' : (a == c3) = true := by simpa using y3
                    clear y1 y2 y3 hno Z3 Z4 Z5 Z6 hcall
                    go_upto_region 26 with (first | (go_at_call 43; refine (unhide NT _ _ hna.1 hna.2).mono ?_; rintro e w0 ⟨rfl, hw0⟩; subst w0))
                    clear hna hnb
                    go_wp2_with (first
                      | (go_at_call 43; refine (unhide NT _ _ g1 g2).mono ?_; rintro e w0 ⟨rfl, hw0⟩; subst w0)
                      | (go_at_call 21; refine (unhide HCALL _ HB.out.bel).mono ?_; rintro e w1 ⟨q', off', cap', rfl, s1, s2, s3⟩))
                    all_goals exact bodyPost_ret (v := .tuple #[.slice (some ⟨q', off', none⟩) Z.1.length cap', .int .i64 Z.2]) (by simp [results, Try.results21, go_sem]) rfl ⟨q', off', cap', rfl, s1, s2, s3⟩
                  · have y3' : (a == c3) = false := by simpa using y3
                    by_cases y4 : a = d3
                    · obtain ⟨⟨g1, g2⟩, hcall⟩ := Z5.out HNM.out rfl hno y3 y4
                      have HCALL := hide hcall
                      have y4' : (a == d3) = true := by simpa using y4
                      clear y1 y2 y3 y4 hno Z3 Z4 Z5 Z6 hcall
                      go_upto_region 26 with (first | (go_at_call 43; refine (unhide NT _ _ hna.1 hna.2).mono ?_; rintro e w0 ⟨rfl, hw0⟩; subst w0))
                      clear hna hnb
                      go_wp2_with (first
                        | (go_at_call 43; refine (unhide NT _ _ g1 g2).mono ?_; rintro e w0 ⟨rfl, hw0⟩; subst w0)
                        | (go_at_call 21; refine (unhide HCALL _ HB.out.bel).mono ?_; rintro e w1 ⟨q', off', cap', rfl, s1, s2, s3⟩))
                      all_goals exact bodyPost_ret (v := .tuple #[.slice (some ⟨q', off', none⟩) Z.1.length cap', .int .i64 Z.2]) (by simp [results, Try.results21, go_sem]) rfl ⟨q', off', cap', rfl, s1, s2, s3⟩
                    · have y4' : (a == d3) = false := by simpa using y4
                      have HN2 : Hid (NM2 a m c3 d3 true) := fun _ => ⟨hno, y3, y4⟩
                      clear y1 y2 y3 y4 hno Z3 Z4 Z5
                      go_wp2_with (first | (go_at_call 43; refine (unhide NT _ _ hna.1 hna.2).mono ?_; rintro e w0 ⟨rfl, hw0⟩; subst w0))
                      go_roundw
                      case rel => exact ⟨1, by omega, by go_num, (fun _ => HN2.out), HB⟩
                      case measure => simp [intOf]
          · by_cases hk1 : k = 1
            · subst hk1
              have HN2 := hide (HN.out (Nat.le_refl _))
              go_wp2
              go_quiet (fail)
              go_upto_region 24 with (first | (go_at_call 44; refine (unhide KC _ _ _ (below_drewN HB.out.bel _) h0).mono ?_; rintro e w1 ⟨rfl, nk, hw1⟩; subst w1))
              refine forget (P := fun W => Code.wp Try.prog _ _ _ W) (fun W => Hid (Box4 w W S a b)) (HB.out.drewN _) ?_
              clear HB x0 x1 x2 x3 HN Z3 Z4 Z5
              rintro W HB
              cases o4 with
              | false =>
                go_wp2
                go_roundw
                case rel => exact ⟨2, by omega, by go_num, (fun _ => HN2.out), HB⟩
                case measure => simp [intOf]
              | true =>
                obtain ⟨t1, t2, t3, t4⟩ := n4.out rfl
                have y1' : (b == c4) = false := by simpa using t1
                have y2' : (b == d4) = false := by simpa using t2
                have y3' : (mb == c4) = false := by simpa using t3
                have y4' : (mb == d4) = false := by simpa using t4
                clear t1 t2 t3 t4
                go_wp2_with (first | (go_at_call 43; refine (unhide NT _ _ hnb.1 hnb.2).mono ?_; rintro e w0 ⟨rfl, hw0⟩; subst w0))
                go_roundw
                case rel => exact ⟨2, by omega, by go_num, (fun _ => HN2.out), HB⟩
                case measure => simp [intOf]
            · have hkk2 : ¬ (k : Int) < 2 := by omega
              have HN2 := hide (HN.out (by omega))
              have hZ := Z6.out HNM.out HN2.out
              have HZ := hide hZ
              have HBEL := hide HB.out.bel
              clear HN x0 x1 x2 x3 Z3 Z4 Z5 Z6 n4 hk hk0 hk1 hZ HNM HN2 NT KC k1 k2 k3 k4 hna hnb IS
              go_upto_region 31 with fail
              have hln : (0 : Int) ≤ g.length := by omega
              go_loopw [21] (fun i W => ∃ n : Nat, n ≤ g.length ∧ i = .int .i64 (n : Int) ∧ Hid (∀ j (hj : j < n) (hg : j < g.length), g[j] ≠ (a, b)) ∧ Hid (Below w.heap.size w W)) (fun i _ => g.length - (intOf i).toNat)
              case atStart => exact ⟨0, Nat.zero_le _, rfl, (fun j hj => by omega), HBEL⟩
              case round =>
                clear HBEL HB
                obtain ⟨n, hn, rfl, HNO, HBE⟩ := hrel
                by_cases hlt : n < g.length
                · obtain ⟨q0, off0, eq, hq, z0, z1⟩ := (hs.out.below HBE.out) n hlt
                  cases eq
                  by_cases hh : g[n] = (a, b)
                  · have hff := find_at hord.out hlt hh (fun j hj => HNO.out j hj (by omega))
                    have hzz : Z = (g, 2 * ((n : Int) + 1)) := by
                      rw [HZ.out]; unfold nodeF; rw [hff]
                    have HE := hide (refq_same (cap := cap) hzz hs.out HBE.out)
                    rw [hh] at z0 z1
                    dsimp only at z0 z1
                    clear hff hzz hh
                    go_wp2
                    all_goals exact bodyPost_ret (v := .tuple #[.slice (some ⟨q, off, none⟩) g.length cap, .int .i64 (2 * ((n : Int) + 1))]) (by simp [results, Try.results21, go_sem]; try omega) rfl HE.out
                  · have HNO2 : Hid (∀ j (hj : j < n + 1) (hg : j < g.length), g[j] ≠ (a, b)) := by
                      intro j hj hg
                      by_cases e : j = n
                      · subst e; exact hh
                      · exact HNO.out j (by omega) hg
                    have hcd : ¬ (g[n].1 = a ∧ g[n].2 = b) := fun h => hh (Prod.ext h.1 h.2)
                    generalize g[n].1 = c at *
                    generalize g[n].2 = d at *
                    clear hh HNO
                    by_cases w1 : c = a
                    · have w1' : (c == a) = true := by simpa using w1
                      have w2 : ¬ d = b := fun h => hcd ⟨w1, h⟩
                      have w2' : (d == b) = false := by simpa using w2
                      clear hcd w1 w2
                      go_wp2
                      go_roundw
                      case rel => exact ⟨n + 1, by omega, by go_num, HNO2, HBE⟩
                      case measure => simp [intOf]; omega
                    · have w1' : (c == a) = false := by simpa using w1
                      clear hcd w1
                      go_wp2
                      go_roundw
                      case rel => exact ⟨n + 1, by omega, by go_num, HNO2, HBE⟩
                      case measure => simp [intOf]; omega
                · have hff := find_no hord.out (fun j hj => HNO.out j (by omega) hj)
                  have hzz : Z = (g ++ [(a, b)], 2 * ((g.length : Int) + 1)) := by
                    rw [HZ.out]; unfold nodeF; rw [hff]
                  have HZZ := hide hzz
                  have HGS := hide (hs.out.below HBE.out)
                  clear hff hzz HNO HZ hs
                  have hge : ¬ (1048576 : Int) ≤ g.length := by omega
                  go_upto_region 37 with fail
                  obtain ⟨i0, hi0, hz0, hz1, hz2⟩ := info_parts Try.info53
                  have HNEWS := hide ((HGS.out.below (below_alloc wr (.cells #[] 53))).src rfl)
                  have HL := hide (gcl_len g)
                  clear HGS
                  go_wp2_with (first
                    | (at_builtin; refine wpList_append_own_at _ rfl _ _ 24 rfl wr.heap.size 53 i0 (.agg #[.int .i64 0, .int .i64 0]) 2 16 Try.underlying24 hi0 hz0 hz1 hz2 rfl (by decide) (.slice (some ⟨q1, 0, none⟩) g.length cc1) g.length _ rfl (hown1.alloc _) ⟨w1.heap.size, 0, none⟩ 1 1 [.int .i64 a, .int .i64 b] rfl rfl (pair_src w1 a b) (gcl_one _ _) (by unfold maxLen; omega) (by omega) (by have := hgrow1.size; simp at this ⊢; omega) ?_; intro v2 w2 hown2 hgrow2 hnil2 hat2; obtain ⟨q2, cc2, rfl⟩ := own_form2 hown2 (fun e => by have := (hnil2.1 e).1; cases this))
                    | (at_builtin; refine wpList_append_own_at _ rfl _ _ 24 rfl wr.heap.size 53 i0 (.agg #[.int .i64 0, .int .i64 0]) 2 16 Try.underlying24 hi0 hz0 hz1 hz2 rfl (by decide) (.slice (some ⟨wr.heap.size, 0, none⟩) 0 0) 0 [] rfl (lit0 wr 53 2) ⟨q, off, none⟩ g.length cap (gcl g) rfl HL.out HNEWS.out (gcl_cell g) (by unfold maxLen; omega) (by omega) (by simp) ?_; intro v1 w1 hown1 hgrow1 hnil1 hat1; simp only [List.nil_append, Nat.zero_add] at hown1; obtain ⟨q1, cc1, rfl⟩ := own_form2 hown1 (fun e => by have := (hnil1.1 e).1; cases this)))
                  obtain ⟨x1, x2⟩ := two_appends (t := (a, b)) hgrow1 (by intro b e; cases e; exact Nat.le_refl _) hgrow2 (own_new hat1) hown2
                  rw [HZZ.out]
                  refine bodyPost_ret (v := .tuple #[.slice (some ⟨q2, 0, none⟩) (g.length + 1) cc2, .int .i64 (2 * ((g.length : Int) + 1))]) (by simp [results, Try.results21, go_sem]; try omega) rfl ⟨q2, 0, cc2, by simp, x1, HBE.out.trans (x2.mono HBE.out.size), .inr ⟨Nat.le_trans HBE.out.size (own_new2 hat1 hat2 hgrow1.size), gs_lt x1 (by simp)⟩⟩
end Go.Proofs.Ytjfjigpmaeaopaa
