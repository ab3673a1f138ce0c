/- Contracts: an arena is packed. -/
import Derived.Test.YtbibbdkijgaoeaaWalkI
import Derived.Deep.RegionHeld3
set_option linter.unusedVariables false
set_option linter.unusedSimpArgs false
namespace Go.Proofs.Ytbibbdkijgaoeaa
open Go.RowKit Go.Maps

theorem ownsRow_base {w : World} {base base' : Nat} {e : TypeId} {s : Nat} {v : Value} {n : Nat} {xs : List Value} (h : w.ownsRow base e s v n xs) (hb : base' ≤ base) : w.ownsRow base' e s v n xs := by
  refine ⟨h.1, ?_⟩
  rcases h.2 with h0 | ⟨g, cap, cur, rfl, h1, rest⟩
  · exact .inl h0
  · exact .inr ⟨g, cap, cur, rfl, Nat.le_trans hb h1, rest⟩

/-- What packing answers: the moves, in memory of its own. -/
def Mvs (base : Nat) (w : World) (v : Value) (ms : List (Int × Int)) : Prop := w.ownsRow base 42 2 v ms.length (mvCells ms)

theorem all_gone_of {A R : List Itm} (h : (plF 0 (A ++ R)).length ≤ (plF 0 A).length) : ∀ it ∈ R, it.2 = true := by
  rcases first_kept R with hR | ⟨G, it, R', rfl, hG, hit⟩
  · exact hR
  · rw [plF_append, List.length_append, plF_append, List.length_append] at h
    simp [plF, hit] at h
    omega

set_option maxHeartbeats 3200000 in
theorem pack_some (base : Nat) (w : World) (B M g cap : Nat) (L : List Itm) (hA : Arn base w B M (.slice (some ⟨g, 0, none⟩) (words L) cap) L) (hl : words L ≤ 20000) (hbase : base ≤ w.heap.size) :
    Calls Try.prog 14 #[.pointer (some ⟨B, 0, none⟩)] w fun e w' => ∃ v, e = .returned v ∧ Mvs w.heap.size w' v (mvs L) ∧ (∃ rv', Arn base w' B M rv' (keepL L) ∧ rv'.ownBlock = some g) ∧ Kp (Mine B M (.slice (some ⟨g, 0, none⟩) (words L) cap)) w w' := by
  obtain ⟨i0, hi, hz0, hz1, hz2⟩ := info_parts Try.info42
  have c2 := hA.c2
  have G1 := hide (given_any base w B M _ L hA)
  have hpl := plF_len_le L 0
  have hlw := len_le_words L
  obtain ⟨D, hown, hhas, hsize⟩ := hA.pls
  have HS := hide hsize
  clear hhas hsize
  have hlts := hA.lt
  have HL : Hid (∀ k, Mine B M (.slice (some ⟨g, 0, none⟩) (words L) cap) k → k < w.heap.size) := fun k hk => (hlts k hk).2
  clear hlts
  have G2 : Hid (∀ u, Below w.heap.size w u → Calls Try.prog 26 #[.pointer (some ⟨B, 0, none⟩)] u fun e w' => ∃ v, e = .returned v ∧ Own u.heap.size w' v (plF 0 L) ∧ Below u.heap.size u w') :=
    fun u hu => places_any base u B M _ L (hA.below hu) hl
  have HA := hide hA
  clear hA
  go_enter Try.func14, Try.ntmps14
  go_wp2_with (first
    | (go_at_call 32; refine (unhide G1).mono ?_; rintro e w0 ⟨rfl, hw0⟩; subst w0)
    | (at_len; refine wpList_len_own _ rfl _ 66 rfl 3 70 Try.underlying66 _ M _ D rfl hown ?_)
    | (at_make; refine wpList_make_own _ rfl _ _ 39 rfl w.heap.size 42 i0 (.agg #[.int .i64 0, .int .i64 0]) 2 Try.underlying39 hi hz0 hz1 .i64 .i64 _ (plF 0 L).length rfl rfl (by rw [HS.out]) (by rw [hz2]; omega) (by unfold maxLen; omega) (Nat.le_refl _) ?_; intro w1 hown1 hgrow1)
    | (go_at_call 26; refine ((unhide G2) _ (below_of_grown hgrow1)).mono ?_; rintro e w2 ⟨pv, rfl, hpv, hb2⟩; obtain ⟨pa, pc, hpe, hprow, hpm, hpc⟩ := hpv.row; subst hpe; clear hprow))
  have HP : Hid (Pk base w w2 B M g cap L [] L (.slice pa (plF 0 L).length pc) (.slice (some ⟨w.heap.size, 0, none⟩) 0 (plF 0 L).length)) := by
    have hB02 : Below w.heap.size w w2 := (below_of_grown hgrow1).trans (hb2.mono hgrow1.size)
    have hA2 := HA.out.below hB02
    refine ⟨rfl, hA2.head, ⟨[], rfl, by simpa [keepL, rowOf] using hA2.row⟩, by rw [keys_start]; exact hA2.pls, Kp.of_below hB02, ownsRow_base hpv hgrow1.size, ?_⟩
    exact hown1.kept (row := none) ⟨hb2.os, hb2.tape, hb2.output, hb2.size, fun k hk _ => hb2.block k hk⟩ (.inr (by simp [Value.ownBlock]))
  clear hown1 hgrow1 hpv hb2 G1 G2 hown c2
  unfold maxLen at hpm
  go_loopw [3, 4, 20] (fun v q i wr => ∃ A R, Pk base w wr B M g cap L A R (.slice pa (plF 0 L).length pc) v ∧ q = .int .i64 (words (keepL A)) ∧ i = .int .i64 (plF 0 A).length) (fun _ _ i _ => (plF 0 L).length - (intOf i).toNat)
  case atStart => exact ⟨[], L, HP.out, by simp [keepL, words], by simp [plF]⟩
  case round =>
    clear HP
    obtain ⟨A, R, hP, rfl, rfl⟩ := hrel
    have hd := hd_cells (by have := hP.head; unfold headOf at this; exact this)
    obtain ⟨_, c1, c2, c3, f1, f3⟩ := hd
    by_cases hlt : (plF 0 A).length < (plF 0 L).length
    · rcases first_kept R with hR | ⟨G, it, R', rfl, hG, hit⟩
      · exfalso
        have := hP.hL
        rw [this, plF_append, plF_gone R _ hR] at hlt
        simp at hlt
      have hat := pack_place (A := A) (R := R') hG hit
      rw [← hP.hL] at hat
      obtain ⟨cur, mid, hcur, hm, hn, hx, hb, hs, ht⟩ := hP.block
      have hkq := keepL_le A
      have hw : words L = words (A ++ G) + (2 + it.1.length) + words R' := by rw [hP.hL, ← List.append_assoc, words_append (A ++ G)]; simp only [words]; omega
      have hAG : words (A ++ G) = words A + words G := words_append A G
      have hq : words (keepL A) ≤ words (A ++ G) := by omega
      obtain ⟨pa', pc', hpe, hprow, _, _⟩ := hP.ps.row
      simp only [Value.slice.injEq, true_and] at hpe
      obtain ⟨rfl, rfl⟩ := hpe
      obtain ⟨pb, poff, rfl, hpb, hpcell⟩ := hprow.get hat
      clear hprow hat
      have hsrc1 := pk_src hcur hm ht (j := 1) (x := (it.1.length : Int)) (by simp [enc])
      have hEnd : Hid (∀ x : World, x.cell? = wr.cell? → Calls Try.prog 33 #[.pointer (some ⟨B, 0, none⟩), .int .i64 (words (A ++ G))] x fun e w' => e = .returned (.int .i64 (words (A ++ G) + 2 + it.1.length)) ∧ w' = x) :=
        fun x hx => end_cells x B g 0 (words L) cap (words (A ++ G)) it.1.length (by rw [hx]; exact c1) (by rw [hx, Nat.zero_add]; exact hsrc1) (by omega) (by omega) (by omega)
      have hel := enc_len it
      obtain ⟨cs, HCS⟩ : ∃ cs, Hid (cs = (enc it).map (Value.int .i64)) := ⟨_, rfl⟩
      have hcsl : cs.length = 2 + it.1.length := by rw [HCS.out, List.length_map, hel]
      have HSRC : Hid (∀ j v, cs[j]? = some v → wr.cell? ((⟨g, words (A ++ G), none⟩ : Addr).add j) = some v) := by
        intro j v hv
        rw [HCS.out, List.getElem?_map] at hv
        obtain ⟨x, hx, rfl⟩ := Option.map_eq_some_iff.1 hv
        rw [Addr.add_lit]
        exact pk_src hcur hm ht hx
      have HONE : Hid (∀ v ∈ cs, v.oneCell' = true) := by show ∀ v ∈ cs, _; rw [HCS.out]; exact one_ints _
      have HCUR := hide hcur
      have hBlt : B < wr.heap.size := lt_of_block hP.head
      have hBg : some B ≠ some g := fun e => hP.apart.2.1 (by injection e with e; exact e.symm)
      have HT := hide ht
      have HM := hide hm
      have HS2 := hide hs
      have HX := hide hx
      have HPK := hide hP
      have HW := hide hw
      have hn' : words (A ++ G) + 2 + it.1.length ≤ words L := by omega
      have hq1 : words (keepL A) < cap := by omega
      have hp1 : words (A ++ G) < cap := by omega
      have hq2 : words (keepL A) ≤ words L := by omega
      have hq3 : ¬ cap = words (keepL A) := by omega
      have hp3 : ¬ cap = words (A ++ G) := by omega
      have hp4 : words (A ++ G) + 2 + it.1.length ≤ cap := by omega
      have hp5 : words (A ++ G) ≤ words (A ++ G) + 2 + it.1.length := by omega
      have hp6 : (words (A ++ G) : Int) ≤ words (A ++ G) + 2 + it.1.length := by omega
      have hp7 : (words (A ++ G) : Int) + 2 + it.1.length ≤ cap := by omega
      unfold maxLen at hx
      clear hcur ht hm hP hsrc1 hw hAG hkq hel
      go_wp2_with fail
      go_region_held3 (fun x => x.cell? ⟨B, 1, none⟩ = some (.slice (some ⟨g, 0, none⟩) (words L) cap)) (first | go_keep | (rw [World.cell?_of_block (hgr1.block B hBlt hBg)]; exact c1))
        (first
          | (refine step_copy_mine (by rfl) (.tmp 29) (.tmp 38) 32 32 (by rfl) 3 Try.underlying32 size3 g (words (keepL A)) (words L - words (keepL A)) (cap - words (keepL A)) ⟨g, words (A ++ G), none⟩ (2 + it.1.length) (cap - words (A ++ G)) (by simp [Act.eval, Act.put]) (by simp [Act.eval, Act.put]; try omega) cur 3 HCUR.out cs (by rw [hcsl]; exact (Nat.min_eq_left (by omega)).symm) HSRC.out (by omega) HONE.out ?_; intro w1 hg1 hgr1)
          | (go_at_call 33; refine ((unhide hEnd) _ (by rfl)).mono ?_; rintro e w0 ⟨rfl, hw0⟩; subst w0))
      obtain ⟨hPc, hM1⟩ := HPK.out.copied HL.out hG hit HM.out hn HX.out hb HS2.out HT.out (by rw [HCS.out] at hg1; exact hg1) hgr1
      obtain ⟨D1, ho1, hh1, hs1⟩ := HPK.out.pls
      have ho1' := ownsMap_same ho1 hM1
      have hd := hd_cells (by have := hPc.head; unfold headOf at this; exact this)
      obtain ⟨_, _, c12, _, _, _⟩ := hd
      have hap := HPK.out.apart
      have HAP := hide hap
      have HPC := hide hPc
      have hBlt1 := lt_of_block hPc.head
      have HH1 := hide hh1
      have HSZ1 := hide hs1
      have HT1 := hide (ho1.tidy law3)
      have hkl := keysOf_len A (G ++ it :: R')
      have hkd := keys_del (A := A) (R := R') hG hit
      have hkp := keys_put (A := A) (R := R') hG hit
      have HKD := hide hkd
      have HKP := hide hkp
      have hkm : (keysMid A G R' it).length ≤ 20000 := by
        have h1 := hkd.1
        have h2 := congrArg List.length HPK.out.hL
        rw [List.length_append] at h2
        omega
      have hmvl : (mvs A).length ≤ 20000 := by rw [mvs_len]; omega
      have hmM : u3.ownBlock ≠ some M := fun e => by have := (hPc.mv.lt M e).1; have := HL.out M (.inr (.inl rfl)); omega
      have hHs : w.heap.size ≤ w1.heap.size := hPc.kp.size
      clear hPc hh1 hs1 ho1 hap hg1 hM1 hkl hkd hkp c1 c2 c3 f1 f3
      go_wp2_with (first
        | (at_delete; refine wpList_delete_own _ rfl _ _ 66 3 rfl 70 law3 Try.underlying66 _ M _ D1 rfl ho1' _ _ rfl (keyOf_int_mk Try.underlying3 (i64_wf (by omega) (by omega))) ?_; intro w2 ho2 ht2; have hgr2 := ht2.grown; obtain ⟨_, _, c22, _, _, _⟩ := hd_cells (by have := (hgr2.block B hBlt1 (fun e => HAP.out.1 (by injection e))).trans HPC.out.head; unfold headOf at this; exact this); obtain ⟨D2, ho2', hh2, hs2⟩ := pls_del HT1.out HH1.out HSZ1.out (keys_mem hG hit) ho2 HKD.out.1 HKD.out.2; have HH2 := hide hh2; have HSZ2 := hide hs2; clear hh2 hs2 ho2 ht2)
        | (at_mapUpdate; refine wpList_mapUpdate_own _ rfl _ _ _ 66 rfl 3 70 law3 Try.underlying66 _ M _ D2 rfl ho2' (by unfold maxLen; omega) _ _ (.int .i64 (words (keepL A))) rfl rfl (keyOf_int_mk Try.underlying3 (i64_wf (by omega) (by omega))) (.agg []) [] unitElem_mk ?_; intro w3 ho3 hgr3; have hmv3 := (HPC.out.mv.kept hgr2 (.inr hmM)).kept hgr3 (.inr hmM); have hz3 : w.heap.size ≤ w3.heap.size := Nat.le_trans hHs (Nat.le_trans hgr2.size hgr3.size))
        | (at_builtin; refine wpList_append_lies _ rfl _ _ 39 rfl w.heap.size 42 i0 (.agg #[.int .i64 0, .int .i64 0]) 2 16 Try.underlying39 hi hz0 hz1 hz2 rfl (by decide) u3 (mvs A).length (mvCells (mvs A)) rfl (hmv3.alloc _) ⟨w3.heap.size, 0, none⟩ 1 1 [.int .i64 (words (A ++ G)), .int .i64 (words (keepL A))] rfl rfl (lit_two _ _ _ _) (by simp [Value.oneCell']) (by decide) (by unfold maxLen; omega) (by omega) (by simp; omega) (w3.heap.size + 1) (by simp) ?_; intro g4 cap4 w4 ho4 hgr4 hat4 hlt4))
      have hPk4 := HPC.out.ends HPK.out.hL HL.out HAP.out hG hit hgr2 hgr3 (pls_put (ho2'.tidy law3) HH2.out HSZ2.out HKP.out.2.2 ho3 HKP.out.1 HKP.out.2.1) hgr4 ho4
      have hks : words (keepL (A ++ G ++ [it])) = words (keepL A) + (2 + it.1.length) := by rw [keepL_step hG hit, words_append]; simp [words]
      have hpl2 := pack_len (A := A) hG hit
      go_roundw
      case rel => exact ⟨A ++ G ++ [it], R', hPk4, by rw [hks]; simp, by rw [hpl2]; simp⟩
      case measure => simp [intOf]; omega
    · have hR : ∀ it ∈ R, it.2 = true := all_gone_of (by rw [← hP.hL]; omega)
      obtain ⟨hAr, hk, hmv⟩ := hP.done HA.out.lB HA.out.lM hR
      have hkq := keepL_le A
      have hwL : words L = words A + words R := by rw [hP.hL, words_append]
      obtain ⟨cur, mid, hcur, hm, hn, hx, hb, hs, ht⟩ := hP.block
      unfold maxLen at hx
      have HAR := hide hAr
      have HK := hide hk
      have HMV := hide hmv
      have HPK := hide hP
      clear hAr hk hmv hP hcur hm hb hs ht
      go_wp2
      go_ret
      have hnB : u3.ownBlock ≠ some B := fun e => by have := (HPK.out.mv.lt B e).1; have := HL.out B (.inl rfl); omega
      refine ⟨u3, rfl, ?_, ⟨_, HAR.out, rfl⟩, (HPK.out.kp.setCell (.inl rfl) _).setCell (.inl rfl) _⟩
      unfold Mvs
      rw [HMV.out]
      exact ownsRow_setCell_other (ownsRow_setCell_other HPK.out.mv hnB _) hnB _

set_option maxHeartbeats 1600000 in
theorem pack_none (base : Nat) (w : World) (B M : Nat) (hA : Arn base w B M (.slice none 0 0) []) :
    Calls Try.prog 14 #[.pointer (some ⟨B, 0, none⟩)] w fun e w' => ∃ v, e = .returned v ∧ Mvs w.heap.size w' v [] ∧ Arn base w' B M (.slice none 0 0) [] ∧ Kp (Mine B M (.slice none 0 0)) w w' := by
  obtain ⟨i0, hi, hz0, hz1, hz2⟩ := info_parts Try.info42
  have c2 := hA.c2
  have G1 := hide (given_any base w B M _ [] hA)
  obtain ⟨D, hown, hhas, hsize⟩ := hA.pls
  have HS := hide hsize
  clear hhas hsize
  have G2 : Hid (∀ u, Below w.heap.size w u → Calls Try.prog 26 #[.pointer (some ⟨B, 0, none⟩)] u fun e w' => ∃ v, e = .returned v ∧ Own u.heap.size w' v [] ∧ Below u.heap.size u w') :=
    fun u hu => places_any base u B M _ [] (hA.below hu) (by simp [words])
  have HA := hide hA
  clear hA
  go_enter Try.func14, Try.ntmps14
  go_wp2_with (first
    | (go_at_call 32; refine (unhide G1).mono ?_; rintro e w0 ⟨rfl, hw0⟩; subst w0)
    | (at_len; refine wpList_len_own _ rfl _ 66 rfl 3 70 Try.underlying66 _ M _ D rfl hown ?_)
    | (at_make; refine wpList_make_own _ rfl _ _ 39 rfl w.heap.size 42 i0 (.agg #[.int .i64 0, .int .i64 0]) 2 Try.underlying39 hi hz0 hz1 .i64 .i64 _ 0 rfl rfl (by rw [HS.out]; rfl) (by rw [hz2]; omega) (by unfold maxLen; omega) (Nat.le_refl _) ?_; intro w1 hown1 hgrow1)
    | (go_at_call 26; refine ((unhide G2) _ (below_of_grown hgrow1)).mono ?_; rintro e w2 ⟨pv, rfl, hpv, hb2⟩; obtain ⟨pa, pc, hpe, hprow, hpm, hpc⟩ := hpv.row; subst hpe; clear hprow))
  have hB02 : Below w.heap.size w w2 := (below_of_grown hgrow1).trans (hb2.mono hgrow1.size)
  have hm2 : Mvs w.heap.size w2 (.slice (some ⟨w.heap.size, 0, none⟩) 0 0) [] := hown1.kept (row := none) ⟨hb2.os, hb2.tape, hb2.output, hb2.size, fun k hk _ => hb2.block k hk⟩ (.inr (by simp [Value.ownBlock]))
  have hA2 := HA.out.below hB02
  have hltB := HA.out.ltB
  clear hown1 hgrow1 hpv hb2 G1 G2 hown c2
  obtain ⟨_, d1, d2, d3, e1, e3⟩ := hd_cells (by have := hA2.head; unfold headOf at this; exact this)
  have HA2 := hide hA2
  have HM2 := hide hm2
  clear hA2 hm2
  go_loopw [3, 4, 20] (fun v q i wr => wr = w2 ∧ v = .slice (some ⟨w.heap.size, 0, none⟩) 0 0 ∧ q = .int .i64 0 ∧ i = .int .i64 0) (fun _ _ i _ => 0)
  case atStart => exact ⟨rfl, rfl, rfl, rfl⟩
  case round =>
    obtain ⟨rfl, rfl, rfl, rfl⟩ := hrel
    go_wp2
    go_ret
    have hd := HA2.out.head
    have hBM := HA2.out.apart.1
    refine ⟨_, rfl, ownsRow_setCell_other (ownsRow_setCell_other HM2.out (by simp [Value.ownBlock]; omega) _) (by simp [Value.ownBlock]; omega) _, ⟨HA.out.lB, HA.out.lM, ?_, World.ownsRow_nil _ _ _ _, ?_⟩, ((Kp.of_below hB02).setCell (.inl rfl) _).setCell (.inl rfl) _⟩
    · rw [hd_set (hd_set hd)]; simp [headOf, waste]
    · exact (HA2.out.pls.same (Below.heap_setCell _ _ _ _ (Ne.symm hBM))).same (Below.heap_setCell _ _ _ _ (Ne.symm hBM))

theorem pack_any (base : Nat) (w : World) (B M : Nat) (rv : Value) (L : List Itm) (hA : Arn base w B M rv L) (hl : words L ≤ 20000) (hbase : base ≤ w.heap.size) :
    Calls Try.prog 14 #[.pointer (some ⟨B, 0, none⟩)] w fun e w' => ∃ v, e = .returned v ∧ Mvs w.heap.size w' v (mvs L) ∧ (∃ rv', Arn base w' B M rv' (keepL L) ∧ rv'.ownBlock = rv.ownBlock) ∧ Kp (Mine B M rv) w w' := by
  rcases hA.row.2 with ⟨rfl, h0⟩ | ⟨g, cap, cur, rfl, _⟩
  · obtain rfl := words_zero h0
    refine (pack_none base w B M hA).mono ?_
    rintro e w' ⟨v, rfl, h1, h2, h3⟩
    exact ⟨v, rfl, h1, ⟨_, h2, rfl⟩, h3⟩
  · exact pack_some base w B M g cap L hA hl hbase

end Go.Proofs.Ytbibbdkijgaoeaa
