/- Contract: acts are played. -/
import Derived.Test.YtbibbdkijgaoeaaWalkU
set_option linter.unusedVariables false
set_option linter.unusedSimpArgs false
namespace Go.Proofs.Ytbibbdkijgaoeaa
open Go.RowKit Go.Maps

theorem ActAt.below {w x : World} {b o : Nat} {t : ActD} {ai : Option Addr} {ci : Nat} (h : ActAt w b o t ai ci) (hb : Below w.heap.size w x) (hlt : b < w.heap.size) : x.cell? ⟨b, o, none⟩ = some (.int .i64 t.d) ∧ x.cell? ⟨b, o + 1, none⟩ = some (.slice ai t.c.length ci) ∧ x.cell? ⟨b, o + 2, none⟩ = some (.int .i64 t.p) ∧ x.cell? ⟨b, o + 3, none⟩ = some (.int .i64 t.i) ∧ x.cell? ⟨b, o + 4, none⟩ = some (.int .i64 t.j) :=
  ⟨(hb.cell (p := ⟨b, o, none⟩) hlt).trans h.c0, (hb.cell (p := ⟨b, o + 1, none⟩) hlt).trans h.c1, (hb.cell (p := ⟨b, o + 2, none⟩) hlt).trans h.c2, (hb.cell (p := ⟨b, o + 3, none⟩) hlt).trans h.c3, (hb.cell (p := ⟨b, o + 4, none⟩) hlt).trans h.c4⟩

theorem cells5 {w : World} {b : Nat} {v0 v1 v2 v3 v4 : Value} {t : TypeId} (h : w.heap[b]? = some (.cells #[v0, v1, v2, v3, v4] t (0, 0))) : w.cell? ⟨b, 0, none⟩ = some v0 ∧ w.cell? ⟨b, 1, none⟩ = some v1 ∧ w.cell? ⟨b, 2, none⟩ = some v2 ∧ w.cell? ⟨b, 3, none⟩ = some v3 ∧ w.cell? ⟨b, 4, none⟩ = some v4 := by
  refine ⟨?_, ?_, ?_, ?_, ?_⟩ <;> simp [World.cell?, h]

theorem play_start {w w1 : World} (hA : Arn (w.heap.size + 1) w1 (w.heap.size + 2) (w.heap.size + 1) (.slice none 0 0) []) (hb : Below (w.heap.size + 1) (w.alloc (.cells #[.slice none 0 0] 28)) w1) :
    St w (w1.alloc (.cells #[.slice none 0 0] 28)) (w.heap.size + 2) (w.heap.size + 1) w1.heap.size (.slice none 0 0) none 0 [] [] := by
  have hs := hb.size
  simp at hs
  refine ⟨hA.alloc _, ⟨[], trivial, .inl ⟨rfl, rfl, rfl⟩⟩, heap_alloc_new w1 _, fun hm => by have := (hA.lt _ hm).2; omega, by omega, ?_, ?_⟩
  · rw [heap_alloc_old _ _ (by omega), hb.block _ (by omega)]; exact heap_alloc_new w _
  · exact (((Below.refl _ _).alloc (Nat.le_refl _) _).trans (hb.mono (by omega))).alloc (by omega) _

theorem play_end {w x : World} {B M Wc : Nat} {rv : Value} {a : Option Addr} {cap : Nat} {L : List Itm} (h : St w x B M Wc rv a cap L L) (v : Value) :
    Arn w.heap.size (x.setCell ⟨w.heap.size, 0, none⟩ v).drew B M rv L ∧ Ref (Off w B M Wc rv) (x.setCell ⟨w.heap.size, 0, none⟩ v).drew a cap L ∧ Below w.heap.size w (x.setCell ⟨w.heap.size, 0, none⟩ v).drew := by
  have hblk : ∀ k, k ≠ w.heap.size → (x.setCell ⟨w.heap.size, 0, none⟩ v).drew.heap[k]? = x.heap[k]? := fun k hk => Below.heap_setCell _ _ _ _ hk
  have hA := h.arn.same (w' := (x.setCell ⟨w.heap.size, 0, none⟩ v).drew) (fun k hm => hblk k (fun e => by have := (h.arn.lt k hm).1; omega))
  exact ⟨⟨by have := hA.lB; omega, by have := hA.lM; omega, hA.head, ownsRow_base hA.row (by omega), hA.pls⟩, h.ref.kept (fun k hk hF => ⟨hblk k hF.2.2, hF⟩) (by show _ ≤ (x.setCell _ _).heap.size; rw [size_setCell]; exact Nat.le_refl _), (h.bel.setCell (p := ⟨w.heap.size, 0, none⟩) (Nat.le_refl _) v).drew⟩

/-- Both lists of moves, behind the store of what was packed. -/
theorem moves_at {X x1 x2 : World} {v1 v2 : Value} {ms : List (Int × Int)} {Wc : Nat} {u : Value} {o : Obj} (h1 : Mvs X.heap.size x1 v1 ms) (h2 : Mvs (x1.alloc o).heap.size x2 v2 ms) (hb : Below (x1.alloc o).heap.size (x1.alloc o) x2) (hW : Wc < X.heap.size) (hX : Wc < x1.heap.size) :
    ∃ a1 c1 a2 c2, v1 = .slice a1 ms.length c1 ∧ v2 = .slice a2 ms.length c2 ∧ ∀ i (hi : i < ms.length), ∃ b1 b2, a1 = some ⟨b1, 0, none⟩ ∧ a2 = some ⟨b2, 0, none⟩ ∧ (x2.setCell ⟨Wc, 0, none⟩ u).cell? ⟨b1, i * 2, none⟩ = some (.int .i64 ms[i].1) ∧ (x2.setCell ⟨Wc, 0, none⟩ u).cell? ⟨b1, i * 2 + 1, none⟩ = some (.int .i64 ms[i].2) ∧
      (x2.setCell ⟨Wc, 0, none⟩ u).cell? ⟨b2, i * 2, none⟩ = some (.int .i64 ms[i].1) ∧ (x2.setCell ⟨Wc, 0, none⟩ u).cell? ⟨b2, i * 2 + 1, none⟩ = some (.int .i64 ms[i].2) ∧ b1 < x2.heap.size ∧ b2 < x2.heap.size := by
  obtain ⟨a1, c1, e1, _, g1⟩ := h1.at
  obtain ⟨a2, c2, e2, _, g2⟩ := h2.at
  have hs := hb.size
  have hsa : (x1.alloc o).heap.size = x1.heap.size + 1 := by simp
  refine ⟨a1, c1, a2, c2, e1, e2, fun i hi => ?_⟩
  obtain ⟨b1, f1, l1, l1', p1, q1⟩ := g1 i hi
  obtain ⟨b2, f2, l2, l2', p2, q2⟩ := g2 i hi
  have k1 : (x2.setCell ⟨Wc, 0, none⟩ u).heap[b1]? = x1.heap[b1]? := by
    rw [Below.heap_setCell _ _ _ _ (by show b1 ≠ Wc; omega), hb.block b1 (by omega), heap_alloc_old _ _ l1']
  have k2 : (x2.setCell ⟨Wc, 0, none⟩ u).heap[b2]? = x2.heap[b2]? := Below.heap_setCell _ _ _ _ (by show b2 ≠ Wc; omega)
  exact ⟨b1, b2, f1, f2, (World.cell?_of_block k1).trans p1, (World.cell?_of_block k1).trans q1, (World.cell?_of_block k2).trans p2, (World.cell?_of_block k2).trans q2, by omega, l2'⟩

set_option maxRecDepth 100000 in
set_option maxHeartbeats 6400000 in
theorem play_any (w : World) (a : Option Addr) (cap : Nat) (l : List ActD) (hA : Acts w a l) (hl : l.length ≤ maxLen) (hlight : lightB l = true) :
    Calls Try.prog 8 #[.slice a l.length cap] w fun e w' => ∃ B M Wc rv a' cap' L, e = .returned (.tuple #[.pointer (some ⟨B, 0, none⟩), .agg #[.slice a' L.length cap'], .bool true]) ∧ Arn w.heap.size w' B M rv L ∧ Ref (Off w B M Wc rv) w' a' cap' L ∧ words L ≤ 20000 ∧ Below w.heap.size w w' := by
  unfold maxLen at hl
  have G : Hid (Calls Try.prog 16 #[] (w.alloc (.cells #[.slice none 0 0] 28)) fun e w' => e = .returned (.pointer (some ⟨w.heap.size + 2, 0, none⟩)) ∧ Arn (w.heap.size + 1) w' (w.heap.size + 2) (w.heap.size + 1) (.slice none 0 0) [] ∧ Below (w.heap.size + 1) (w.alloc (.cells #[.slice none 0 0] 28)) w') := by
    have := new_any (w.alloc (.cells #[.slice none 0 0] 28))
    rw [show (w.alloc (.cells #[.slice none 0 0] 28)).heap.size = w.heap.size + 1 by simp] at this
    exact this
  have HA := hide hA
  clear hA
  go_enter Try.func8, Try.ntmps8
  go_wp2_with (go_at_call 16; refine (unhide G).mono ?_; rintro e w1 ⟨rfl, hA1, hb1⟩)
  have HS := hide (play_start hA1 hb1)
  have hs1 := hb1.size
  simp at hs1
  clear hA1 hb1 G
  go_loopw [7] (fun i x => ∃ (k : Nat) (rv : Value) (ra : Option Addr) (rc : Nat) (L : List Itm), k ≤ l.length ∧ k ≤ 40 ∧ i = .int .i64 k ∧ St w x (w.heap.size + 2) (w.heap.size + 1) w1.heap.size rv ra rc L L ∧ words L ≤ 302 * k) (fun i _ => l.length - (intOf i).toNat)
  case atStart => exact ⟨0, _, _, _, _, Nat.zero_le _, Nat.zero_le _, rfl, HS.out, Nat.zero_le _⟩
  case round =>
    clear HS
    obtain ⟨k, rv, ra, rc, L, hk, hk40, rfl, hS, hw⟩ := hrel
    obtain ⟨z1, z2, z3, z4⟩ := hS.cells
    have hltW := hS.ltW
    have hltN := hS.ltN
    have HST0 := hide hS
    by_cases hlt : k < l.length
    · by_cases h40 : k < 40
      · obtain ⟨b, off, ai, ci, rfl, hb, hat⟩ := HA.out k hlt
        obtain ⟨y0, y1, y2, y3, y4⟩ := hat.below hS.bel hb
        have hclen := lightB_at hlight hlt h40
        have HAT := hide hat
        have HST := hide hS
        have hX := hide (hS.below ((Below.refl _ _).alloc (Nat.le_refl _) (.cells #[.int .i64 l[k].d, .slice ai l[k].c.length ci, .int .i64 l[k].p, .int .i64 l[k].i, .int .i64 l[k].j] 44)))
        clear hat hS
        generalize hdd : l[k].d = dd at *
        generalize hpp : l[k].p = pp at *
        generalize hii : l[k].i = ii at *
        generalize hjj : l[k].j = jj at *
        generalize hcc : l[k].c = cc at *
        clear hdd hii hjj
        have hrow : Row w ai cc := by have := HAT.out.row; rw [hcc] at this; exact this
        have hnil := HAT.out.nil
        have hwp : (Lit.int .i64 pp).wf = true := by have := HAT.out.wp; rw [hpp] at this; exact this
        have HROW := hide hrow
        have HNIL := hide hnil
        have HWP := hide hwp
        have hwl : words L ≤ 20000 := by omega
        clear hcc hpp hlight HAT hrow hnil hwp
        by_cases d0 : dd = 0
        · subst d0
          obtain ⟨D, q, r, n2, hwD, C1, C2⟩ := u_add hX.out hwl (cc := ci) HROW.out hclen HNIL.out
          go_wp2_with (first
            | (go_at_call 17; refine (unhide C1).mono ?_; rintro e x1 ⟨rfl, hK1, rv1, hS1⟩; obtain ⟨t1, t2, t3, t4⟩ := hS1.cells; obtain ⟨p0, p1, p2, p3, p4⟩ := cells5 (HST.out.kept hK1))
            | (go_at_call 19; refine ((unhide C2) _ _ hS1).mono ?_; rintro e x2 ⟨a2, cap2, rfl, hS2a, hS2⟩; obtain ⟨u1, u2, u3, u4⟩ := hS2a.cells))
          go_roundw
          case rel => exact ⟨k + 1, _, _, _, _, by omega, by omega, by go_num, hS2, by omega⟩
          case measure => simp [intOf]; omega
        by_cases d1 : dd = 1
        · subst d1
          obtain ⟨D, r, hwD, C1, C2⟩ := u_drop hX.out hwl HWP.out
          go_wp2_with (first
            | (go_at_call 20; refine (unhide C1).mono ?_; rintro e x1 ⟨rfl, hK1, hS1⟩; obtain ⟨t1, t2, t3, t4⟩ := hS1.cells; obtain ⟨p0, p1, p2, p3, p4⟩ := cells5 (HST.out.kept hK1))
            | (go_at_call 21; refine ((unhide C2) _ hS1).mono ?_; rintro e x2 ⟨a2, cap2, rfl, hS2a, hS2⟩; obtain ⟨u1, u2, u3, u4⟩ := hS2a.cells))
          go_roundw
          case rel => exact ⟨k + 1, _, _, _, _, by omega, by omega, by go_num, hS2, by omega⟩
          case measure => simp [intOf]; omega
        by_cases d2 : dd = 2
        · subst d2
          obtain ⟨D, r, hwD, C1, C2⟩ := u_swap hX.out hwl ii jj HWP.out
          go_wp2_with (first
            | (go_at_call 22; refine (unhide C1).mono ?_; rintro e x1 ⟨rfl, hK1, hS1⟩; obtain ⟨t1, t2, t3, t4⟩ := hS1.cells; obtain ⟨p0, p1, p2, p3, p4⟩ := cells5 (HST.out.kept hK1))
            | (go_at_call 23; refine ((unhide C2) _ hS1).mono ?_; rintro e x2 ⟨a2, cap2, rfl, hS2a, hS2⟩; obtain ⟨u1, u2, u3, u4⟩ := hS2a.cells))
          go_roundw
          case rel => exact ⟨k + 1, _, _, _, _, by omega, by omega, by go_num, hS2, by omega⟩
          case measure => simp [intOf]; omega
        by_cases d3 : dd = 3
        · subst d3
          obtain ⟨D, ms, n2, hwD, hml, C1, C2⟩ := u_pack hX.out hwl
          go_wp2_with (first
            | (go_at_call 14; refine (unhide C1).mono ?_; rintro e x1 ⟨v1, rfl, hM1, rv1, hS1⟩; have hS1' := hS1.below ((Below.refl _ _).alloc (Nat.le_refl _) (.cells #[] 42)); obtain ⟨t1, t2, t3, t4⟩ := hS1'.cells; obtain ⟨va, vc, hve, _, _⟩ := hM1.at; subst hve)
            | (go_at_call 24; refine ((unhide C2) _ _ hS1').mono ?_; rintro e x2 ⟨a2, cap2, v2, rfl, hM2, hb2, hS2a, hS2⟩; obtain ⟨u1, u2, u3, u4⟩ := hS2a.cells; obtain ⟨va2, vc2, hve2, _, _⟩ := hM2.at; subst hve2))
          obtain ⟨va', vc', va2', vc2', e1, e2, hmv⟩ := moves_at (u := .slice a2 n2 cap2) hM1 hM2 hb2 (Wc := w1.heap.size) (by simp; omega) hS1.ltW
          simp only [Value.slice.injEq, true_and] at e1 e2
          obtain ⟨rfl, rfl⟩ := e1
          obtain ⟨rfl, rfl⟩ := e2
          have hsz3 : (x2.setCell ⟨w1.heap.size, 0, none⟩ (.slice a2 n2 cap2)).heap.size = x2.heap.size := size_setCell _ _ _
          obtain ⟨f1, f2, f3, f4⟩ := hS2.cells
          generalize x2.setCell ⟨w1.heap.size, 0, none⟩ (.slice a2 n2 cap2) = x3 at *
          have HMV := hide hmv
          have HS3 := hide hS2
          have HSZ3 := hide hsz3
          clear hM1 hM2 hb2 hS2 hS2a hS1 hS1' t1 t2 t3 t4 u1 u2 u3 u4 C1 C2 hmv hsz3 y0 y1 y2 y3 y4 z1 z2 z3 z4
          go_loopw [15] (fun j y => ∃ (m n : Nat), m ≤ ms.length ∧ j = .int .i64 m ∧ y = x3.drewN n) (fun j _ => ms.length - (intOf j).toNat)
          case atStart => exact ⟨0, 0, Nat.zero_le _, rfl, rfl⟩
          case round =>
            obtain ⟨m, n, hm, rfl, rfl⟩ := hrel
            by_cases hmlt : m < ms.length
            · obtain ⟨b1, b2, rfl, rfl, g1, g2, g3, g4, g5, g6⟩ := HMV.out m hmlt
              rw [← HSZ3.out] at g5 g6
              clear HMV HSZ3 HS3 HST HST0 hX
              go_wp2
              go_quiet (fail)
              go_wp2
              go_roundw
              case rel => exact ⟨m + 1, _, by omega, by go_num, rfl⟩
              case measure => simp [intOf]; omega
            · go_wp2
              go_roundw
              case rel => exact ⟨k + 1, _, _, _, _, by omega, by omega, by go_num, HS3.out.below ⟨rfl, rfl, rfl, Nat.le_refl _, fun _ _ => rfl⟩, by omega⟩
              case measure => simp [intOf]; omega
        · go_wp2
          go_roundw
          case rel => exact ⟨k + 1, _, _, _, _, by omega, by omega, by go_num, hX.out, by omega⟩
          case measure => simp [intOf]; omega
      · clear HA
        go_wp2_with fail
        go_region
        all_goals
          go_wp2
          obtain ⟨f1, f2, f3⟩ := play_end HST0.out (.slice ra L.length rc)
          exact bodyPost_ret (v := .tuple #[.pointer (some ⟨w.heap.size + 2, 0, none⟩), .agg #[.slice ra L.length rc], .bool true]) (by simp [results, Try.results8, go_sem, z3]) rfl ⟨_, _, _, _, _, _, _, rfl, f1, f2, by omega, f3⟩
    · clear HA
      go_wp2_with fail
      go_region
      all_goals
        go_wp2
        obtain ⟨f1, f2, f3⟩ := play_end HST0.out (.slice ra L.length rc)
        exact bodyPost_ret (v := .tuple #[.pointer (some ⟨w.heap.size + 2, 0, none⟩), .agg #[.slice ra L.length rc], .bool true]) (by simp [results, Try.results8, go_sem, z3]) rfl ⟨_, _, _, _, _, _, _, rfl, f1, f2, by omega, f3⟩

end Go.Proofs.Ytbibbdkijgaoeaa
