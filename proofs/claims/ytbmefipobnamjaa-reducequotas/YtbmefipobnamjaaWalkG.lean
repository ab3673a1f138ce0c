/- Contract: Keep, of learned clauses that may be. -/
import Derived.Test.YtbmefipobnamjaaWalkF
set_option linter.unusedVariables false
set_option linter.unusedSimpArgs false
namespace Go.Proofs.Ytbmefipobnamjaa
open Go.RowKit

theorem ks_start {w W0 W1 W2 W3 : World} {L : List Ln} {S : List Nat} {v : Value} (b01 : Below W0.heap.size W0 W1) (hW0 : W0 = w.alloc (.cells (madeCells #[.bool false] L.length) 4)) (hW2 : W2 = W1.alloc (.cells (madeCells #[.int .i64 0] L.length) 3))
    (hO : OrdP W2 W3 L v S) (hl : L.length ≤ 100) : ∃ o oc, v = .slice (some ⟨o, 0, none⟩) L.length oc ∧ KS w W3 L S w.heap.size o oc (stay L [] []) (.slice (some ⟨W1.heap.size, 0, none⟩) 0 L.length) [] := by
  obtain ⟨o, oc, rfl⟩ := hO.val
  have hs0 : W0.heap.size = w.heap.size + 1 := by rw [hW0]; simp
  have hs2 : W2.heap.size = W1.heap.size + 1 := by rw [hW2]; simp
  have hs1 := b01.size
  have b12 : Below W1.heap.size W1 W2 := by rw [hW2]; exact below_alloc _ _
  have hb0 : Below w.heap.size w W0 := by rw [hW0]; exact below_alloc _ _
  have hbel : Below w.heap.size w W3 := ((hb0.trans (b01.mono (by omega))).trans (b12.mono (by omega))).trans (hO.bel.mono (by omega))
  have hk0 : Bk W0 w.heap.size 4 L.length (fun _ => .bool false) := bk_made (by rw [hW0]; exact heap_alloc_new _ _)
  have hk1 := hk0.same (b01.block _ (by omega))
  have hk2 := hk1.same (b12.block _ (by omega))
  have hk3 := hk2.same (hO.bel.block _ (by omega))
  have hOo := (World.ownsRow.lt hO.own o rfl).1
  have how : W2.ownsRow w.heap.size 3 1 (.slice (some ⟨W1.heap.size, 0, none⟩) 0 L.length) 0 [] := by
    rw [hW2]
    exact World.ownsRow_made W1 _ L.length (by omega) (by unfold maxLen; omega) (by rw [size_madeCells]; omega)
  have how3 : Own w.heap.size W3 (.slice (some ⟨W1.heap.size, 0, none⟩) 0 L.length) [] := Own.far (w := W2) how (hO.bel.block _ (by omega))
  refine ⟨o, oc, rfl, ⟨hbel, hk3.congr (fun i hi => by rw [stay_nil]), Nat.le_refl _, by omega, ?_, ⟨how3, ?_, ?_, _, _, rfl⟩⟩⟩
  · exact ⟨hO.own.1, hO.own.2.imp id fun ⟨g', c', cur, h1, h2, h3⟩ => ⟨g', c', cur, h1, by omega, h3⟩⟩
  · intro e; simp only [Value.ownBlock, Option.some.injEq] at e; omega
  · intro e; simp only [Value.ownBlock, Option.some.injEq] at e; omega

/-- What Keep leaves. -/
structure KeepP (w w' : World) (L : List Ln) (S : List Nat) : Prop where
  bel : Below w.heap.size w w'
  bk : Bk w' w.heap.size 4 L.length (fun i => .bool (keepF L S i))
  srt : Srt L S

set_option maxHeartbeats 4000000 in
set_option maxRecDepth 100000 in
theorem keep_any (w : World) (a : Option Addr) (cap : Nat) (L : List Ln) (h : Lns w a L) (hl : L.length ≤ 100) (hm : mayA L = true) :
    Calls Try.prog 7 #[.slice a L.length cap] w fun e w' => ∃ S, e = .returned (.slice (some ⟨w.heap.size, 0, none⟩) L.length L.length) ∧ KeepP w w' L S := by
  obtain ⟨i0, hi, hz0, hz1, hz2⟩ := info_parts Try.info3
  have mkb : ∀ W : World, (Instr.makeSlice 25 (.int .i64 (L.length : Int)) (.int .i64 (L.length : Int))).run Try.prog W = .ok (.slice (some ⟨W.heap.size, 0, none⟩) L.length L.length) (W.alloc (.cells (madeCells #[.bool false] L.length) 4)) := fun W => run_make_row' 25 4 (.bool false) 1 Try.underlying25 Try.info4 rfl .i64 .i64 L.length (by omega) (by omega) W
  have mki : ∀ W : World, (Instr.makeSlice 35 (.int .i64 0) (.int .i64 (L.length : Int))).run Try.prog W = .ok (.slice (some ⟨W.heap.size, 0, none⟩) 0 L.length) (W.alloc (.cells (madeCells #[.int .i64 0] L.length) 3)) := fun W => by
    have := run_make (P := Try.prog) W 35 3 i0 (.int .i64 0) Try.underlying35 hi hz0 .i64 .i64 0 (L.length : Int) (by omega) (by omega) (by rw [hz2]; omega) (by omega)
    rw [hz1] at this
    simp at this
    exact this
  have CC := check_any (w.alloc (.cells (madeCells #[.bool false] L.length) 4)) a cap L (h.below (below_alloc _ _)) hl
  rw [hm] at CC
  have CO := hide (fun W (hb : Below w.heap.size w W) => order_any W a cap L (h.below hb) hl)
  have HW0 := hide (below_alloc w (.cells (madeCells #[.bool false] L.length) 4))
  have HL := hide h
  replace CC := hide CC
  clear h
  go_enter Try.func7, Try.ntmps7
  go_upto_region 4 with (go_at_call 13; refine (unhide CC).mono ?_; rintro e w1 ⟨rfl, hb1⟩)
  have HB1 := hide hb1
  have CO2 := hide (unhide CO (w1.alloc (.cells (madeCells #[.int .i64 0] L.length) 3)) ((HW0.out.trans (hb1.mono HW0.out.size)).trans ((below_alloc w1 _).mono (by have := HW0.out.size; have := hb1.size; omega))))
  clear hb1 CC mkb
  go_upto_region 6 with (go_at_call 14; refine (unhide CO2).mono ?_; rintro e w3 ⟨v, S, rfl, hO⟩; obtain ⟨o, oc, rfl, hks⟩ := ks_start HB1.out rfl rfl hO hl; have HO := hide hO; have HKS := hide hks; clear hO hks)
  have hsl := HO.out.srt.len
  clear CO CO2 mki HB1 HW0
  go_loopw [4, 6, 22] (fun v _ i wr => ∃ k : Nat, k ≤ L.length ∧ i = .int .i64 k ∧ Hid (KS w wr L S w.heap.size o oc (stay L (S.take k) []) v (oth L (S.take k)))) (fun _ _ i _ => L.length - (intOf i).toNat)
  case atStart => exact ⟨0, Nat.zero_le _, rfl, HKS⟩
  case round =>
    obtain ⟨k, hk, rfl, HK⟩ := hrel
    by_cases hlt : k < L.length
    · have hks : k < S.length := by omega
      have hat := HO.out.srt.lt (List.getElem_mem hks)
      obtain ⟨b, off, rfl, hA0⟩ := HL.out S[k] hat
      have hA := hA0.below HK.out.bel hA0.lt
      have c0 := hA.c0
      have c1 := hA.c1
      have c2 := hA.c2
      have co := HK.out.ord.cell hks
      have CM := fun W => mustStay_any W (nth L S[k])
      have hlt' : (k : Int) < L.length := by omega
      have hat' : ((S[k] : Nat) : Int) < L.length := by omega
      by_cases he : mustL (nth L S[k]) = true
      · rw [he] at CM
        have HN : Hid (∀ W', Below wr.heap.size wr W' → KS w (W'.setCell ⟨w.heap.size, S[k], none⟩ (.bool true)) L S w.heap.size o oc (stay L (S.take (k + 1)) []) u4 (oth L (S.take (k + 1)))) := by
          intro W' hb
          rw [stay_yes hks he, oth_snoc_yes hks he]
          exact (HK.out.grown hb).set hat
        have HC : Hid (∀ W', Below wr.heap.size wr W' → W'.cell? ⟨w.heap.size, S[k], none⟩ = some (.bool (stay L (S.take k) [] S[k])) ∧ W'.frozen? ⟨w.heap.size, S[k], none⟩ = false) := fun W' hb => ⟨(HK.out.grown hb).bk.cell hat, (HK.out.grown hb).bk.fz _⟩
        replace CM := hide CM
        clear hA hA0 he HKS
        generalize stay L (S.take k) [] S[k] = bb at *
        generalize (nth L S[k]).lev = lv at *
        generalize (nth L S[k]).siz = sz at *
        generalize (nth L S[k]).lck = lk at *
        generalize S[k] = p at *
        go_upto_region 9 with (go_at_call 15; refine (unhide CM _).mono ?_; rintro e w4 ⟨rfl, hb4⟩)
        obtain ⟨cs, fs⟩ := HC.out w4 hb4
        have HN4 := hide (HN.out w4 hb4)
        clear hb4 HC HN c0 c1 c2 co CM HK
        go_wp2
        go_roundw
        case rel => exact ⟨k + 1, by omega, by go_num, HN4⟩
        case measure => simp [intOf]; omega
      · have he' : mustL (nth L S[k]) = false := by simpa using he
        rw [he'] at CM
        have HE := hide (oth_snoc_no hks he')
        have HF := hide (stay_no hks he')
        have hol : (oth L (S.take k)).length ≤ 100 := Nat.le_trans (List.length_filter_le _ _) (by simp; omega)
        obtain ⟨g, c, hv⟩ := HK.out.oth.val
        subst hv
        replace CM := hide CM
        clear hA hA0 he he' HKS
        generalize (nth L S[k]).lev = lv at *
        generalize (nth L S[k]).siz = sz at *
        generalize (nth L S[k]).lck = lk at *
        generalize S[k] = p at *
        go_upto_region 10 with (go_at_call 15; refine (unhide CM _).mono ?_; rintro e w4 ⟨rfl, hb4⟩)
        have HK4 := hide (HK.out.grown hb4)
        have hws := HK4.out.bel.size
        clear hb4 c0 c1 c2 co CM HK
        go_wp2_with (at_builtin; (refine wpList_append_own_at _ rfl _ _ 35 rfl w.heap.size 3 i0 (.int .i64 0) 1 8 Try.underlying35 hi hz0 hz1 hz2 rfl (by decide) _ (oth L (S.take k)).length ((oth L (S.take k)).map fun n : Nat => .int .i64 (n : Int)) rfl (World.ownsRow.alloc HK4.out.oth.own _) ⟨w4.heap.size, 0, none⟩ 1 1 [.int .i64 (p : Int)] rfl rfl (cell_one_new _ _ _) (fun x hx => by simp at hx; subst hx; rfl) (by unfold maxLen; omega) (by omega) (by simp; omega) ?_); intro v' w5 hown5 hgrow5 hnil5 hloc5)
        have HN := hide (Keep.app HK4.out hown5 hgrow5 hloc5 hnil5)
        clear hown5 hgrow5 hnil5 hloc5 HK4
        go_wp2
        go_roundw
        case rel => exact ⟨k + 1, by omega, by go_num, by rw [HE.out, HF.out]; exact HN⟩
        case measure => simp [intOf]; omega
    · have hz : S.length ≤ k := by omega
      rw [List.take_of_length_le hz] at HK
      obtain ⟨g, c, hv⟩ := HK.out.oth.val
      subst hv
      have hol : (oth L S).length ≤ 100 := Nat.le_trans (List.length_filter_le _ _) (by omega)
      have hcap : (oth L S).length ≤ c := by
        rcases HK.out.oth.own.2 with ⟨e, _⟩ | ⟨g', c', cur, e, _, _, hn, _⟩
        · cases e
        · cases e; exact hn
      have HLT : Hid (∀ j (hj : j < (oth L S).length), (oth L S)[j] < L.length) := fun j hj => HO.out.srt.lt (List.mem_filter.1 (List.getElem_mem hj)).1
      obtain ⟨m, hm2⟩ : ∃ m : Nat, m = (oth L S).length / 2 := ⟨_, rfl⟩
      have hme : ((oth L S).length : Int) / 2 = (m : Int) := by omega
      have hml : m ≤ (oth L S).length := by omega
      have hmw : IntKind.i64.wrap (m : Int) = m := by rw [IntKind.wrap_i64]; omega
      have HM := hide hm2
      have hnl : ¬ ((k : Int) < L.length) := by omega
      clear HKS hm2 HL
      go_upto_region 13 with fail
      go_loopw [8, 45] (fun _ i wr => ∃ j : Nat, j ≤ m ∧ i = .int .i64 j ∧ Hid (KS w wr L S w.heap.size o oc (stay L S ((oth L S).take j)) (.slice (some ⟨g, 0, none⟩) (oth L S).length c) (oth L S))) (fun _ i _ => m - (intOf i).toNat)
      case atStart => exact ⟨0, Nat.zero_le _, rfl, HK⟩
      case round =>
        obtain ⟨j, hj, rfl, HJ⟩ := hrel
        by_cases hjm : j < m
        · have hjl : j < (oth L S).length := by omega
          have hat := HLT.out j hjl
          have hat' : (((oth L S)[j] : Nat) : Int) < L.length := by omega
          have co := HJ.out.oth.own.cell hjl
          have cs := HJ.out.bk.cell hat
          have fs := HJ.out.bk.fz (oth L S)[j]
          have HN : Hid (KS w (wr.setCell ⟨w.heap.size, (oth L S)[j], none⟩ (.bool true)) L S w.heap.size o oc (stay L S ((oth L S).take (j + 1))) (.slice (some ⟨g, 0, none⟩) (oth L S).length c) (oth L S)) := by
            show KS _ _ _ _ _ _ _ _ _ _
            rw [stay_add hjl]
            exact HJ.out.set hat
          have hjm' : (j : Int) < m := by omega
          clear HJ HK
          generalize (oth L S)[j] = p at *
          go_wp2
          go_roundw
          case rel => exact ⟨j + 1, by omega, by go_num, HN⟩
          case measure => simp [intOf]; omega
        · have hz2 : j = m := by omega
          subst hz2
          have HR : Hid (KeepP w wr L S) := ⟨HJ.out.bel, by unfold keepF; rw [← HM.out]; exact HJ.out.bk, HO.out.srt⟩
          clear HJ HK
          go_wp2
          go_ret
          exact ⟨S, rfl, HR.out⟩

end Go.Proofs.Ytbmefipobnamjaa
