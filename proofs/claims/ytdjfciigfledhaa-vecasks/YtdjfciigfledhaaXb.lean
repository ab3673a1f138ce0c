/- The law of questions. -/
import Derived.Test.YtdjfciigfledhaaXa
set_option linter.unusedVariables false
set_option linter.unusedSimpArgs false
namespace Go.Proofs.Ytdjfciigfledhaa
open Go.RowKit Go.Maps

section
variable (w : World)
set_option maxHeartbeats 4000000 in
set_option maxRecDepth 100000 in
theorem asks_any (a b f u : Nat) (cc : Bool) (ha : a ≤ 65535) (hb : b ≤ 65535) (hf : f ≤ 4294967295) (hu : u ≤ 255) :
    Calls Try.prog 6 #[.agg #[.int .u16 (a : Int), .int .u16 (b : Int), .int .u32 (f : Int)], .int .u8 (u : Int), .bool cc] w fun e w' => e = .returned (.bool true) ∧ Below w.heap.size w w' := by
  obtain ⟨n, hn⟩ : ∃ n, 1 + u % 8 = n := ⟨_, rfl⟩
  have h1 : 1 ≤ n := by omega
  have h8 : n ≤ 8 := by omega
  have hwa : IntKind.i64.wrap (a : Int) = (a : Int) := by rw [IntKind.wrap_i64]; omega
  have hwb : IntKind.i64.wrap (b : Int) = (b : Int) := by rw [IntKind.wrap_i64]; omega
  go_enter Try.func6, Try.ntmps6
  go_upto_region 2 with fail
  rw [show (1 + (u : Int) % 8) = (n : Int) by omega]
  have WS := hide (words_any (w.alloc (.cells #[.int .u16 (a : Int), .int .u16 (b : Int), .int .u32 (f : Int)] 25)) a b f n ha hb hf h1 (by omega))
  have HBX : Hid (Box (w.alloc (.cells #[.int .u16 (a : Int), .int .u16 (b : Int), .int .u32 (f : Int)] 25)) w.heap.size a b f) := heap_alloc_new _ _
  have HBW := hide (below_alloc w (.cells #[.int .u16 (a : Int), .int .u16 (b : Int), .int .u32 (f : Int)] 25))
  clear hn hu
  go_upto_region 3 with (first
    | (go_at_call 9; refine (unhide WS).mono ?_; rintro e w2 ⟨B, M, v, g, pa, ca, pb, cb, la, lb, ai, c, L, rfl, hL, hcnt, hb2, hlo⟩))
  have HBOX := HBX.out.below hb2
  have hsz : (w.alloc (.cells #[.int .u16 (a : Int), .int .u16 (b : Int), .int .u32 (f : Int)] 25)).heap.size = w.heap.size + 1 := by simp
  have HB2 : Below w.heap.size w w2 := HBW.out.trans (hb2.mono (by rw [hsz]; exact Nat.le_succ _))
  rw [hsz] at hlo
  have HL0 := hide (law_start hL HBOX HB2 hlo)
  have HCNT := hide hcnt
  clear hL hb2 hsz hlo hcnt WS HBX HBW HBOX HB2
  have hT := Nat.two_pow_pos n
  have hT8 : 2 ^ n ≤ 256 := Nat.le_trans (Nat.pow_le_pow_right (by omega) h8) (by decide)
  have hx : a % 2 ^ n < 2 ^ n := Nat.mod_lt _ hT
  have hy : b % 2 ^ n < 2 ^ n := Nat.mod_lt _ hT
  have h16 : n ≤ 16 := by omega
  have MD : Hid (∀ (W : World) (z : Int) (r : Nat), inI64 z → z % ((2 ^ n : Nat) : Int) = (r : Int) → Calls Try.prog 10 #[.int .i64 z, .int .i64 (n : Int)] W fun e w' => e = .returned (.int .i64 (r : Int)) ∧ w' = W) := fun W z r hz hr => by
    have h := mod_any W z hz n (by omega)
    rwa [hr] at h
  have M2 : Hid (∀ (W : World) (z : Int) (r : Nat), (z = (a : Int) ∧ r = a % 2 ^ n) ∨ (z = (b : Int) ∧ r = b % 2 ^ n) → Calls Try.prog 10 #[.int .i64 z, .int .i64 (n : Int)] W fun e w' => e = .returned (.int .i64 (r : Int)) ∧ w' = W) := by
    rintro W z r (⟨rfl, rfl⟩ | ⟨rfl, rfl⟩)
    · exact unhide MD W _ _ (by unfold inI64; omega) (by norm_cast)
    · exact unhide MD W _ _ (by unfold inI64; omega) (by norm_cast)
  generalize a % 2 ^ n = x at *
  generalize b % 2 ^ n = y at *
  have c0 := HL0.out.box.c0
  have c1 := HL0.out.box.c1
  go_region_held3 (fun z => z.cell? ⟨w.heap.size, 0, none⟩ = some (.int .u16 (a : Int)) ∧ z.cell? ⟨w.heap.size, 1, none⟩ = some (.int .u16 (b : Int))) (exact ⟨c0, c1⟩)
    (first
      | (go_at_call 10; refine (unhide M2 _ _ _ (by first | exact .inl ⟨rfl, rfl⟩ | exact .inr ⟨rfl, rfl⟩)).mono ?_; rintro e w0 ⟨rfl, hw0⟩; subst w0))
  clear c0 c1 M2 hwa hwb
  have hgl := HL0.out.lw.len
  have hLl : L.length ≤ 32 := by have := cnt_le g 0; have := HCNT.out; omega
  have hg0 := HL0.out.lw.gr
  have IN := hide (inX hg0 (by omega))
  clear hg0
  obtain ⟨i4, hi4, hz4, hy4, hx4⟩ := info_parts Try.info4
  go_upto_region 5 with (first
    | (go_at_call 30; refine (unhide IN).mono ?_; rintro e w1 ⟨y1, v1, g1, rfl, s1, hl1, hc1⟩))
  have HL1 := HL0.out.st s1
  have hlit := hl1.1
  have hval := hl1.2 (L ++ [cc])
  rw [HCNT.out] at hval
  have hval2 : valF (allV (L ++ [cc]) g1) y1 = cc := by rw [hval]; simp
  have HK : Hid (Ln g1 y1 (L ++ [cc]) cc) := ⟨hlit, hval2⟩
  have hbo := HL1.lw.bo
  have hb3 := below_alloc w1 (.cells #[] 4)
  have HB3 := hide hb3
  have hsrc := (hbo.below hb3).src
  have HLX := hide HL1
  have hown3 := lit0 w1 4 1
  clear HL1 hlit hval hval2 hl1 hc1 s1 IN HL0 hbo hb3 HCNT hgl
  have h1c : ∀ u ∈ bcl L, u.oneCell' = true := by
    intro u hu
    obtain ⟨z, _, rfl⟩ := List.mem_map.1 hu
    rfl
  go_upto_region 6 with (first
    | (at_builtin; refine wpList_append_any rfl _ _ 28 rfl w1.heap.size 4 i4 (.bool false) 1 1 Try.underlying28 hi4 hz4 hy4 hx4 rfl (by decide) (.slice (some ⟨w1.heap.size, 0, none⟩) 0 0) 0 [] rfl hown3 (by simp) ai L.length c (bcl L) rfl hsrc h1c (by unfold maxLen; omega) (by omega) (by simp) ?_; intro g4 cap4 w4 hown4 hgrow4 hat4 hlt4; simp only [Nat.zero_add, List.nil_append] at hown4 ⊢; have hg4 := row_base hown4; have hb4 := HB3.out.grown hgrow4 (by simp) (by intro k hk; cases hk; exact Nat.le_refl _); have hzz := hb4.size; have HB4 := hide hb4; clear hb4 hsrc hown3; have HO4 := hide hown4)
    | (at_builtin; refine wpList_append_lies _ rfl _ _ 28 rfl w1.heap.size 4 i4 (.bool false) 1 1 Try.underlying28 hi4 hz4 hy4 hx4 rfl (by decide) (.slice (some ⟨g4, 0, none⟩) L.length cap4) L.length _ rfl (HO4.out.alloc _) ⟨w4.heap.size, 0, none⟩ 1 1 [.bool cc] rfl rfl (bool_src w4 cc) (by simp [Value.oneCell']) (by decide) (by unfold maxLen; omega) (by omega) (by simp; omega) (w4.heap.size + 1) (by simp) ?_; intro p5 cap5 w5 hown5 hgrow5 hat5 hlt5))
  have hb5 := (HB4.out.alloc hzz (.cells #[.bool cc] 4)).grown hgrow5 (by simp; omega) (by intro k hk; cases hk; exact hg4)
  rw [← bcl_snoc] at hown5
  obtain ⟨e1, e2⟩ := bo_own hown5
  have HL5 := (HLX.out.below hb5).ins e2 (by simp; omega)
  have hlen : L.length + 1 = (L ++ [cc]).length := by simp
  rw [hlen]
  clear hb5 hown5 e1 e2 hgrow5 hat5 hlt5 HO4 HB4 hg4 hzz hown4 hgrow4 hat4 hlt4 HB3 HLX h1c hlen
  generalize L ++ [cc] = L2 at *
  obtain ⟨be, hbe⟩ : ∃ r, decide (x = y) = r := ⟨_, rfl⟩
  obtain ⟨bl, hbl⟩ : ∃ r, decide (x < y) = r := ⟨_, rfl⟩
  obtain ⟨bn, hbn⟩ : ∃ r, decide (x ≠ 0) = r := ⟨_, rfl⟩
  have hq1 : ((x : Int) == (y : Int)) = be := by rw [← hbe, Bool.eq_iff_iff]; simp only [beq_iff_eq, decide_eq_true_eq]; omega
  have hq2 : decide ((x : Int) < (y : Int)) = bl := by rw [← hbl, Bool.eq_iff_iff]; simp
  have hq3 : ((x : Int) != 0) = bn := by rw [← hbn, Bool.eq_iff_iff]; simp
  obtain ⟨si, hsi⟩ : ∃ r, (if cc then x else y) = r := ⟨_, rfl⟩
  have HSI := hide hsi
  have IT : Hid (∀ (W : World) v g k z, LB w W B M v g k n pa ca pb cb la lb (some ⟨p5, 0, none⟩) cap5 L2 x y w.heap.size a b f → k ≤ 100000 → Ln g z L2 cc → Calls Try.prog 31 #[.pointer (some ⟨B, 0, none⟩), .int .i64 z, .slice (some ⟨pa, 0, none⟩) n ca, .slice (some ⟨pb, 0, none⟩) n cb] W (OP w W B M g k 48 n pa ca pb cb la lb (some ⟨p5, 0, none⟩) cap5 L2 x y w.heap.size a b f si)) := fun W v g k z h hk hz => by
    have t := iteW h hk h1 h16 hz (h.lw.ax hx) (h.lw.bx hy)
    rwa [hsi] at t
  have EQ : Hid (∀ (W : World) v g k, LB w W B M v g k n pa ca pb cb la lb (some ⟨p5, 0, none⟩) cap5 L2 x y w.heap.size a b f → k ≤ 100000 → Calls Try.prog 32 #[.pointer (some ⟨B, 0, none⟩), .slice (some ⟨pa, 0, none⟩) n ca, .slice (some ⟨pb, 0, none⟩) n cb] W (AQ w W B M g k 80 n pa ca pb cb la lb (some ⟨p5, 0, none⟩) cap5 L2 x y w.heap.size a b f be)) := fun W v g k h hk => by
    have t := eqW h hk h1 h16 (h.lw.ax hx) (h.lw.bx hy)
    rwa [hbe] at t
  have LE : Hid (∀ (W : World) v g k, LB w W B M v g k n pa ca pb cb la lb (some ⟨p5, 0, none⟩) cap5 L2 x y w.heap.size a b f → k ≤ 100000 → Calls Try.prog 33 #[.pointer (some ⟨B, 0, none⟩), .slice (some ⟨pa, 0, none⟩) n ca, .slice (some ⟨pb, 0, none⟩) n cb] W (AQ w W B M g k 80 n pa ca pb cb la lb (some ⟨p5, 0, none⟩) cap5 L2 x y w.heap.size a b f bl)) := fun W v g k h hk => by
    have t := lessW h hk h1 h16 (h.lw.ax hx) (h.lw.bx hy)
    rwa [hbl] at t
  have AY : Hid (∀ (W : World) v g k, LB w W B M v g k n pa ca pb cb la lb (some ⟨p5, 0, none⟩) cap5 L2 x y w.heap.size a b f → k ≤ 100000 → Calls Try.prog 34 #[.pointer (some ⟨B, 0, none⟩), .slice (some ⟨pa, 0, none⟩) n ca] W (AQ w W B M g k 16 n pa ca pb cb la lb (some ⟨p5, 0, none⟩) cap5 L2 x y w.heap.size a b f bn)) := fun W v g k h hk => by
    have t := anyW h hk h1 h16 (h.lw.ax hx)
    rwa [hbn] at t
  clear hbe hbn hx hy MD hT hT8 hsi
  go_upto_region 8 with (first
    | (go_at_call 34; refine (unhide AY _ _ _ _ HL8 (by omega)).mono ?_; rintro e w9 ⟨e9, v9, g9, rfl, HL9, HQ9, HT9, HS9⟩)
    | (go_at_call 33; refine (unhide LE _ _ _ _ HL7 (by omega)).mono ?_; rintro e w8 ⟨e8, v8, g8, rfl, HL8, HQ8, HT8, HS8⟩)
    | (go_at_call 32; refine (unhide EQ _ _ _ _ HL6 (by omega)).mono ?_; rintro e w7 ⟨e7, v7, g7, rfl, HL7, HQ7, HT7, HS7⟩)
    | (go_at_call 31; refine (unhide IT _ _ _ _ _ HL5 (by omega) HK.out).mono ?_; rintro e w6 ⟨q6, v6, g6, l6, rfl, HL6, HW6, HT6⟩))
  have HW9 := HT9 (HT8 (HT7 HW6))
  have HE7 := HS9 (HS8 HQ7)
  have HE8 := HS9 HQ8
  have hba := below_alloc w9 (.cells #[.int .i64 e7, .int .i64 e8, .int .i64 e9] 3)
  have TR0 : Rw (w9.alloc (.cells #[.int .i64 e7, .int .i64 e8, .int .i64 e9] 3)) w9.heap.size [e7, e8, e9] := heap_alloc_new _ _
  have HLA := hide (HL9.below hba)
  have HWA := hide (HW9.below hba)
  have HTR := hide TR0.row
  have HVS : Hid (∀ (k : Nat) (h : k < ([e7, e8, e9] : List Int).length) (h2 : k < ([be, bl, bn] : List Bool).length), 0 ≤ ([e7, e8, e9] : List Int)[k]'h ∧ valF (allV L2 g9) (([e7, e8, e9] : List Int)[k]'h) = ([be, bl, bn] : List Bool)[k]'h2) := by
    have i7 := isB_iff.1 HE7.lit
    have i8 := isB_iff.1 HE8.lit
    have i9 := isB_iff.1 HQ9.lit
    intro k hk hk2
    match k, hk, hk2 with
    | 0, _, _ => exact ⟨i7.1, HE7.val⟩
    | 1, _, _ => exact ⟨i8.1, HE8.val⟩
    | 2, _, _ => exact ⟨i9.1, HQ9.val⟩
  clear hba TR0 HL9 HL8 HL7 HL6 HL5 HK HQ9 HQ8 HQ7 HT9 HT8 HT7 HT6 HS9 HS8 HS7 HW9 HW6 HE7 HE8 IT EQ LE AY
  generalize w9.heap.size = qt at *
  refine forget (P := fun W => Code.wp Try.prog _ _ _ W) (fun W => Hid (LB w W B M v9 g9 (32 + 1 + 48 + 80 + 80 + 16) n pa ca pb cb la lb (some ⟨p5, 0, none⟩) cap5 L2 x y w.heap.size a b f) ∧ Hid (Wn W g9 q6 n n l6 L2 si) ∧ Hid (Row W (some ⟨qt, 0, none⟩) [e7, e8, e9])) ⟨HLA, HWA, HTR⟩ ?_
  clear HLA HWA HTR
  rintro W1 ⟨HLA, HWA, HTR⟩
  have hba := below_alloc W1 (.cells #[.bool be, .bool bl, .bool bn] 4)
  have HVW : Hid (Vs (W1.alloc (.cells #[.bool be, .bool bl, .bool bn] 4)) (some ⟨W1.heap.size, 0, none⟩) [be, bl, bn]) := by
    have hn := heap_alloc_new W1 (.cells #[.bool be, .bool bl, .bool bn] 4)
    intro k hk
    refine ⟨_, 0, rfl, lt_of_block hn, ?_⟩
    match k, hk with
    | 0, _ => exact cell_block (i := 0) hn rfl
    | 1, _ => exact cell_block (i := 1) hn rfl
    | 2, _ => exact cell_block (i := 2) hn rfl
  have HLB := hide (HLA.out.below hba)
  have HWB := hide (HWA.out.below hba)
  have HTB := hide (HTR.out.below hba)
  clear hba HLA HWA HTR
  go_upto_region 9 with fail
  generalize W1.heap.size = qw at *
  refine forget (P := fun W => Code.wp Try.prog _ _ _ W) (fun W => Hid (LB w W B M v9 g9 (32 + 1 + 48 + 80 + 80 + 16) n pa ca pb cb la lb (some ⟨p5, 0, none⟩) cap5 L2 x y w.heap.size a b f) ∧ Hid (Wn W g9 q6 n n l6 L2 si) ∧ Hid (Row W (some ⟨qt, 0, none⟩) [e7, e8, e9]) ∧ Hid (Vs W (some ⟨qw, 0, none⟩) [be, bl, bn])) ⟨HLB, HWB, HTB, HVW⟩ ?_
  clear HLB HWB HTB HVW
  rintro W2 ⟨HLB, HWB, HTB, HVW⟩
  have ND := hide (nodes_any W2 B M v9 g9 HLB.out.lw.gr)
  have hil := HLB.out.lw.il
  have EV : Hid (∀ W al cap, Below W2.heap.size W2 W → GS W al g9 → Calls Try.prog 35 #[.slice al g9.length cap, .slice (some ⟨p5, 0, none⟩) L2.length cap5] W (EvP W (allV L2 g9))) := fun W al cap hb hs => eval_any W al cap g9 hs HLB.out.lw.gr.le HLB.out.lw.gr.may (some ⟨p5, 0, none⟩) cap5 L2 (HLB.out.lw.bo.1.below hb) (by unfold maxLen; omega)
  go_upto_region 10 with (first
    | (go_at_call 36; refine (unhide ND).mono ?_; rintro e w10 ⟨al, cap, rfl, hs1, hb1, hf1⟩)
    | (go_at_call 35; refine (unhide EV _ _ _ hb1 hs1).mono ?_; rintro e w11 ⟨q2, c2, rfl, hv2, hb2⟩; have hb12 := hb1.trans (hb2.mono hb1.size)))
  have HLC := hide (HLB.out.below hb12)
  have HWC := hide (HWB.out.below hb12)
  have HTC := hide (HTB.out.below hb12)
  have HVC := hide (HVW.out.below hb12)
  have HV := hide hv2
  have HVL : Hid ((allV L2 g9).length ≤ 1000000) := by unfold Hid; rw [allV_len]; exact HLB.out.lw.gr.le
  clear hb12 hb1 hb2 hs1 hf1 hv2 HLB HWB HTB HVW ND EV hil
  generalize allV L2 g9 = V at *
  go_wp2
  go_loopw [19] (fun i W => ∃ k : Nat, k ≤ 3 ∧ i = .int .i64 (k : Int) ∧ Hid (LB w W B M v9 g9 (32 + 1 + 48 + 80 + 80 + 16) n pa ca pb cb la lb (some ⟨p5, 0, none⟩) cap5 L2 x y w.heap.size a b f) ∧ Hid (Wn W g9 q6 n n l6 L2 si) ∧ Hid (Row W (some ⟨qt, 0, none⟩) [e7, e8, e9]) ∧ Hid (Vs W (some ⟨qw, 0, none⟩) [be, bl, bn]) ∧ Hid (Vs W (some ⟨q2, 0, none⟩) V)) (fun i _ => 3 - (intOf i).toNat)
  case atStart => exact ⟨0, by omega, rfl, HLC, HWC, HTC, HVC, HV⟩
  case round =>
    clear HLC HWC HTC HVC HV
    obtain ⟨k, hk, rfl, HLC, HWC, HTC, HVC, HV⟩ := hrel
    by_cases hlt : k < 3
    · obtain ⟨_, _, et, _, ct⟩ := HTC.out k (by simpa using hlt)
      cases et
      obtain ⟨_, _, ew, _, cw⟩ := HVC.out k (by simpa using hlt)
      cases ew
      have hv := HVS.out k (by simpa using hlt) (by simpa using hlt)
      rw [Nat.zero_add] at ct cw
      generalize ([e7, e8, e9] : List Int)[k]'_ = tk at *
      generalize ([be, bl, bn] : List Bool)[k]'_ = bk at *
      have hk3 : (k : Int) < 3 := by omega
      have ht0 : decide (tk < 0) = false := by simp; omega
      have ht1 : ¬ tk < 0 := by omega
      have VL : Hid (∀ m, Calls Try.prog 37 #[.slice (some ⟨q2, 0, none⟩) V.length c2, .int .i64 tk] (wr.drewN m) fun e w' => e = .returned (.bool bk) ∧ ∃ j, w' = (wr.drewN m).drewN j) := fun m => by
        have t := value_any (wr.drewN m) (some ⟨q2, 0, none⟩) c2 V tk (HV.out.below (below_drewN (Below.refl _ _) m)) HVL.out
        rwa [hv.2] at t
      have hbb : (bk != bk) = false := by simp
      clear hv
      go_wp2
      go_quiet ((go_at_call 37; exact (unhide VL _).mono fun e w' ⟨he, j, hj⟩ => ⟨he, _, hj.trans (World.drewN_drewN _ _ _)⟩))
      go_wp2
      have hbd := below_drewN (Below.refl wr.heap.size wr) nq
      go_roundw
      case rel => exact ⟨k + 1, by omega, by go_num, HLC.out.below hbd, HWC.out.below hbd, HTC.out.below hbd, HVC.out.below hbd, HV.out.below hbd⟩
      case measure => simp [intOf]; omega
    · have hke : k = 3 := by omega
      subst hke
      have HL12 := HLC.out
      have HW12 := HWC.out
      clear HTC HVC HV HVS HLC HWC
      cases cc
      · have hsi : y = si := HSI.out
        subst hsi
        go_wp2_with (first
          | (go_at_call 16; refine (awake_any _).mono ?_; rintro e w14 ⟨rfl, hb14⟩; have HL14 := HL13.below hb14)
          | (go_at_call 11; refine (is_lb HL12 h1 h16 HW12).mono ?_; rintro e w13 ⟨rfl, HL13, hb13⟩))
        go_ret
        exact ⟨rfl, HL14.bel⟩
      · have hsi : x = si := HSI.out
        subst hsi
        go_wp2_with (first
          | (go_at_call 16; refine (awake_any _).mono ?_; rintro e w14 ⟨rfl, hb14⟩; have HL14 := HL13.below hb14)
          | (go_at_call 11; refine (is_lb HL12 h1 h16 HW12).mono ?_; rintro e w13 ⟨rfl, HL13, hb13⟩))
        go_ret
        exact ⟨rfl, HL14.bel⟩
end
end Go.Proofs.Ytdjfciigfledhaa
