/- Contracts: the document's bytes of a proof; a first step is encoded. -/
import Derived.Test.YtgklollpajhmlaaWalkU
set_option linter.unusedVariables false
set_option linter.unusedSimpArgs false
namespace Go.Proofs.Ytgklollpajhmlaa
open Go.RowKit Go.Maps

attribute [local go_sem ↓] Go.wp_at_zero Go.wp_at_succ

theorem encY_step {l : List Stp} {k : Nat} (h : k < l.length) : encY (l.take k) ++ [hdY l[k].1] ++ litsY l[k].2 ++ [0] = encY (l.take (k + 1)) := by
  rw [encY_snoc h]
  have : stepY l[k] = [hdY l[k].1] ++ litsY l[k].2 ++ [0] := stepY_eq l[k].1 l[k].2
  rw [this]
  simp

set_option maxHeartbeats 8000000 in
set_option maxRecDepth 100000 in
theorem refEncode_any (a : Option Addr) (cap : Nat) (l : List Stp) (w : World) (hA : Steps w a l) (hm : mayL l = true) (h1 : l.length ≤ 300) (h2 : litsN l ≤ 6000) :
    Calls Try.prog 10 #[.slice a l.length cap] w fun e w' => ∃ v, e = .returned v ∧ Br w.heap.size w' v (encY l) ∧ Below w.heap.size w w' := by
  obtain ⟨i0, hi, hz0, hz1, hz2⟩ := info_parts Try.info5
  have HPT := hide (fun k => encY_take h1 h2 k)
  have HMP := hide (mayL_parts hm).2
  have HA := hide hA
  have HBR0 := hide (br_new w w.heap.size (Nat.le_refl _))
  have HBL0 := hide (below_alloc w (.cells #[] 5))
  clear hA hm h2
  go_enter Try.func10, Try.ntmps10
  go_wp2
  generalize hW : w.alloc (.cells #[] 5) = W at *
  clear hW
  go_loopw [3, 4] (fun zv zi wr => ∃ (k g1 n1 c1 : Nat), k ≤ l.length ∧ zi = .int .i64 (k : Int) ∧ zv = .slice (some ⟨g1, 0, none⟩) n1 c1 ∧ Br w.heap.size wr (.slice (some ⟨g1, 0, none⟩) n1 c1) (encY (l.take k)) ∧ Below w.heap.size w wr) (fun _ zi _ => l.length - (intOf zi).toNat)
  case atStart => exact ⟨0, _, _, _, Nat.zero_le _, rfl, rfl, HBR0.out, HBL0.out⟩
  case round =>
    clear HBR0 HBL0
    obtain ⟨k, g1, n1, c1, hk, rfl, rfl, hbr, hB⟩ := hrel
    by_cases hlt : k < l.length
    · obtain ⟨b, off, ai, ci, e, hb, q0, q1, hr, hlen⟩ := HA.out k hlt
      subst e
      have hmk := HMP.out l[k] (List.getElem_mem hlt)
      have HSN := hide (encY_step hlt)
      have hp1 := HPT.out k
      have HML := hide (mayB_lit hmk)
      have hl4 := mayB_len hmk
      have HLY := hide (fun j => litsY_take l[k].2 j)
      have hki : (k : Int) < l.length := by omega
      clear hmk
      generalize hT : encY (l.take k) = T at *
      clear hT
      generalize l[k].1 = d at *
      generalize l[k].2 = c at *
      have HF : Hid (∀ x, Below w.heap.size w x → x.cell? ⟨b, off + k * 2, none⟩ = some (.bool d) ∧ x.cell? ⟨b, off + k * 2 + 1, none⟩ = some (.slice ai c.length ci) ∧ Row x ai c ∧ b < x.heap.size) := fun x hx => ⟨(hx.cell (p := ⟨b, off + k * 2, none⟩) hb).trans q0, (hx.cell (p := ⟨b, off + k * 2 + 1, none⟩) hb).trans q1, hr.below hx, Nat.lt_of_lt_of_le hb hx.size⟩
      obtain ⟨x0, x1, -, x2⟩ := HF.out wr hB
      clear q0 q1 hr
      have hsz := hB.size
      have HBA : Hid (∀ x, Br w.heap.size (wr.alloc (.cells #[.int .u8 x] 5)) (.slice (some ⟨g1, 0, none⟩) n1 c1) T) := fun x => hbr.kept (below_alloc wr _)
      have HBT := hide (fun k hk => (hbr.lt k hk).1)
      have HSRC : Hid (∀ x, ((hdY d).toNat : Int) = x → ∀ j u, (byteL [hdY d])[j]? = some u → (wr.alloc (.cells #[.int .u8 x] 5)).cell? ((⟨wr.heap.size, 0, none⟩ : Addr).add j) = some u) := fun x hx => one_src wr (hdY d) x hx
      have HBL : Hid (∀ x, Below w.heap.size w (wr.alloc (.cells #[.int .u8 x] 5))) := fun x => hB.alloc hsz _
      clear hbr hB
      cases hdd : d
      · rw [hdd] at x0 HSN HSRC HF
        clear hdd
        go_wp2_with (at_builtin; refine wpList_br_slice rfl _ _ 25 rfl w.heap.size Try.underlying25 i0 hi hz0 hz1 hz2 (.slice (some ⟨g1, 0, none⟩) n1 c1) T _ rfl (HBA.out _) (by simp; omega) (by simp; omega) ⟨wr.heap.size, 0, none⟩ 1 1 rfl rfl (HSRC.out _ rfl) ?_; intro v1 w1 hbr1 hgr1; have HB1 := hide ((HBL.out _).grown hgr1 (by simp; omega) HBT.out); have HR1 := hide hbr1; clear hbr1 hgr1; obtain ⟨g2, c2, rfl, -⟩ := HR1.out.shape)
        go_loopw [3, 5] (fun zv zi wr => ∃ (j g1 n1 c1 : Nat), j ≤ c.length ∧ zi = .int .i64 (j : Int) ∧ zv = .slice (some ⟨g1, 0, none⟩) n1 c1 ∧ Br w.heap.size wr (.slice (some ⟨g1, 0, none⟩) n1 c1) (T ++ [hdY false] ++ litsY (c.take j)) ∧ Below w.heap.size w wr) (fun _ zi _ => c.length - (intOf zi).toNat)
        case atStart => exact ⟨0, _, _, _, Nat.zero_le _, rfl, rfl, by simpa [litsY] using HR1.out, HB1.out⟩
        case round =>
          clear HR1 HB1 HBA HBT HSRC HBL x0 x1 x2
          obtain ⟨j, g3, n3, c3, hj, rfl, rfl, hbr, hB⟩ := hrel
          obtain ⟨x0, x1, xr, x2⟩ := HF.out _ hB
          have hjl := HLY.out j
          have hsz3 := hB.size
          by_cases hjt : j < c.length
          · obtain ⟨b4, off4, rfl, hb4, hcell⟩ := xr j hjt
            have hlit := HML.out c[j] (List.getElem_mem hjt)
            have HS := hide (litsY_snoc hjt)
            have CL := hide (refLiteral_any c[j] wr hlit)
            have hji : (j : Int) < c.length := by omega
            have hyl := (bytL_len c[j]).2
            have HBK : Hid (∀ x, Below wr.heap.size wr x → Br w.heap.size x (.slice (some ⟨g3, 0, none⟩) n3 c3) (T ++ [hdY false] ++ litsY (c.take j)) ∧ Below w.heap.size w x) := fun x hx => ⟨hbr.kept hx, hB.trans (hx.mono hsz3)⟩
            have HBT := hide (fun k hk => (hbr.lt k hk).1)
            have HLN : Hid ((T ++ [hdY false] ++ litsY (c.take j)).length + (bytL c[j]).length ≤ 140737488355328) := by show _ ≤ _; simp only [List.length_append, List.length_singleton]; omega
            clear hbr hB hlit hyl
            generalize hY : bytL c[j] = Y at *
            clear hY
            go_wp2_with (first
              | (go_at_call 17; refine (unhide CL).mono ?_; rintro e w5 ⟨v5, rfl, hbr5, hbl5⟩; have HR5 := hide hbr5; obtain ⟨HK5, HB5⟩ := HBK.out _ hbl5; replace HK5 := hide HK5; replace HB5 := hide HB5; have hz5 := hbl5.size; clear hbr5 hbl5; obtain ⟨g5, c5, rfl, -, -, -⟩ := HR5.out.shape)
              | (at_builtin; refine wpList_br_slice rfl _ _ 25 rfl w.heap.size Try.underlying25 i0 hi hz0 hz1 hz2 (.slice (some ⟨g3, 0, none⟩) n3 c3) _ Y rfl HK5.out HLN.out (by omega) ⟨g5, 0, none⟩ Y.length c5 rfl rfl HR5.out.cells ?_; intro v6 w6 hbr6 hgr6))
            obtain ⟨g6, c6, e6, -⟩ := hbr6.shape
            go_roundw
            case rel => exact ⟨j + 1, g6, _, c6, by omega, by go_num, e6, by rw [← e6, HS.out, ← List.append_assoc]; exact hbr6, HB5.out.grown hgr6 (by omega) HBT.out⟩
            case measure => simp [intOf]; omega
          · have hte : c.take j = c := List.take_of_length_le (by omega)
            rw [hte] at hbr hjl
            have hji : ¬ (j : Int) < c.length := by omega
            have HBA2 := hide (hbr.kept (below_alloc wr (.cells #[.int .u8 0] 5)))
            have HBL2 := hide (hB.alloc hsz3 (.cells #[.int .u8 0] 5))
            have HSRC2 := hide (one_src wr 0 0 rfl)
            have HBT := hide (fun k hk => (hbr.lt k hk).1)
            have HLN : Hid ((T ++ [hdY false] ++ litsY c).length + 1 ≤ 140737488355328) := by show _ ≤ _; simp only [List.length_append, List.length_singleton]; omega
            clear hte hbr hB
            go_wp2_with (at_builtin; refine wpList_br_slice rfl _ _ 25 rfl w.heap.size Try.underlying25 i0 hi hz0 hz1 hz2 (.slice (some ⟨g3, 0, none⟩) n3 c3) _ [0] rfl HBA2.out HLN.out (by simp; omega) ⟨wr.heap.size, 0, none⟩ 1 1 rfl rfl HSRC2.out ?_; intro v6 w6 hbr6 hgr6)
            obtain ⟨g6, c6, e6, -⟩ := hbr6.shape
            go_roundw
            case rel => exact ⟨k + 1, g6, _, c6, by omega, by go_num, e6, by rw [← e6, ← HSN.out]; exact hbr6, HBL2.out.grown hgr6 (by simp; omega) HBT.out⟩
            case measure => simp [intOf]; omega
      · rw [hdd] at x0 HSN HSRC HF
        clear hdd
        go_wp2_with (at_builtin; refine wpList_br_slice rfl _ _ 25 rfl w.heap.size Try.underlying25 i0 hi hz0 hz1 hz2 (.slice (some ⟨g1, 0, none⟩) n1 c1) T _ rfl (HBA.out _) (by simp; omega) (by simp; omega) ⟨wr.heap.size, 0, none⟩ 1 1 rfl rfl (HSRC.out _ rfl) ?_; intro v1 w1 hbr1 hgr1; have HB1 := hide ((HBL.out _).grown hgr1 (by simp; omega) HBT.out); have HR1 := hide hbr1; clear hbr1 hgr1; obtain ⟨g2, c2, rfl, -⟩ := HR1.out.shape)
        go_loopw [3, 5] (fun zv zi wr => ∃ (j g1 n1 c1 : Nat), j ≤ c.length ∧ zi = .int .i64 (j : Int) ∧ zv = .slice (some ⟨g1, 0, none⟩) n1 c1 ∧ Br w.heap.size wr (.slice (some ⟨g1, 0, none⟩) n1 c1) (T ++ [hdY true] ++ litsY (c.take j)) ∧ Below w.heap.size w wr) (fun _ zi _ => c.length - (intOf zi).toNat)
        case atStart => exact ⟨0, _, _, _, Nat.zero_le _, rfl, rfl, by simpa [litsY] using HR1.out, HB1.out⟩
        case round =>
          clear HR1 HB1 HBA HBT HSRC HBL x0 x1 x2
          obtain ⟨j, g3, n3, c3, hj, rfl, rfl, hbr, hB⟩ := hrel
          obtain ⟨x0, x1, xr, x2⟩ := HF.out _ hB
          have hjl := HLY.out j
          have hsz3 := hB.size
          by_cases hjt : j < c.length
          · obtain ⟨b4, off4, rfl, hb4, hcell⟩ := xr j hjt
            have hlit := HML.out c[j] (List.getElem_mem hjt)
            have HS := hide (litsY_snoc hjt)
            have CL := hide (refLiteral_any c[j] wr hlit)
            have hji : (j : Int) < c.length := by omega
            have hyl := (bytL_len c[j]).2
            have HBK : Hid (∀ x, Below wr.heap.size wr x → Br w.heap.size x (.slice (some ⟨g3, 0, none⟩) n3 c3) (T ++ [hdY true] ++ litsY (c.take j)) ∧ Below w.heap.size w x) := fun x hx => ⟨hbr.kept hx, hB.trans (hx.mono hsz3)⟩
            have HBT := hide (fun k hk => (hbr.lt k hk).1)
            have HLN : Hid ((T ++ [hdY true] ++ litsY (c.take j)).length + (bytL c[j]).length ≤ 140737488355328) := by show _ ≤ _; simp only [List.length_append, List.length_singleton]; omega
            clear hbr hB hlit hyl
            generalize hY : bytL c[j] = Y at *
            clear hY
            go_wp2_with (first
              | (go_at_call 17; refine (unhide CL).mono ?_; rintro e w5 ⟨v5, rfl, hbr5, hbl5⟩; have HR5 := hide hbr5; obtain ⟨HK5, HB5⟩ := HBK.out _ hbl5; replace HK5 := hide HK5; replace HB5 := hide HB5; have hz5 := hbl5.size; clear hbr5 hbl5; obtain ⟨g5, c5, rfl, -, -, -⟩ := HR5.out.shape)
              | (at_builtin; refine wpList_br_slice rfl _ _ 25 rfl w.heap.size Try.underlying25 i0 hi hz0 hz1 hz2 (.slice (some ⟨g3, 0, none⟩) n3 c3) _ Y rfl HK5.out HLN.out (by omega) ⟨g5, 0, none⟩ Y.length c5 rfl rfl HR5.out.cells ?_; intro v6 w6 hbr6 hgr6))
            obtain ⟨g6, c6, e6, -⟩ := hbr6.shape
            go_roundw
            case rel => exact ⟨j + 1, g6, _, c6, by omega, by go_num, e6, by rw [← e6, HS.out, ← List.append_assoc]; exact hbr6, HB5.out.grown hgr6 (by omega) HBT.out⟩
            case measure => simp [intOf]; omega
          · have hte : c.take j = c := List.take_of_length_le (by omega)
            rw [hte] at hbr hjl
            have hji : ¬ (j : Int) < c.length := by omega
            have HBA2 := hide (hbr.kept (below_alloc wr (.cells #[.int .u8 0] 5)))
            have HBL2 := hide (hB.alloc hsz3 (.cells #[.int .u8 0] 5))
            have HSRC2 := hide (one_src wr 0 0 rfl)
            have HBT := hide (fun k hk => (hbr.lt k hk).1)
            have HLN : Hid ((T ++ [hdY true] ++ litsY c).length + 1 ≤ 140737488355328) := by show _ ≤ _; simp only [List.length_append, List.length_singleton]; omega
            clear hte hbr hB
            go_wp2_with (at_builtin; refine wpList_br_slice rfl _ _ 25 rfl w.heap.size Try.underlying25 i0 hi hz0 hz1 hz2 (.slice (some ⟨g3, 0, none⟩) n3 c3) _ [0] rfl HBA2.out HLN.out (by simp; omega) ⟨wr.heap.size, 0, none⟩ 1 1 rfl rfl HSRC2.out ?_; intro v6 w6 hbr6 hgr6)
            obtain ⟨g6, c6, e6, -⟩ := hbr6.shape
            go_roundw
            case rel => exact ⟨k + 1, g6, _, c6, by omega, by go_num, e6, by rw [← e6, ← HSN.out]; exact hbr6, HBL2.out.grown hgr6 (by simp; omega) HBT.out⟩
            case measure => simp [intOf]; omega
    · have hte : l.take k = l := List.take_of_length_le (by omega)
      rw [hte] at hbr
      have hki : ¬ (k : Int) < l.length := by omega
      have HX := hide hbr
      have HB := hide hB
      clear hte hbr hB
      go_wp2
      go_ret
      exact ⟨_, rfl, HX.out, HB.out⟩

end Go.Proofs.Ytgklollpajhmlaa
