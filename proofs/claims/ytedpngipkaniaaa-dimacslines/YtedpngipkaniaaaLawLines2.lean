/- A formula's text, however it is parted into lines: the law's own text, walked, where the formula is not too great. -/
import Derived.Test.YtedpngipkaniaaaLawLines
set_option linter.unusedVariables false
set_option linter.unusedSimpArgs false
namespace Go.Proofs.Ytedpngipkaniaaa
open Go.RowKit Go.Maps

attribute [local go_sem ↓] Go.wp_at_zero Go.wp_at_succ

theorem nums_len (css : List (List Int)) : (nums css).length = total css + css.length := by
  induction css with
  | nil => rfl
  | cons c css ih =>
    rw [nums_cons]
    simp [total] at *
    omega

theorem nums_take {css : List (List Int)} {i : Nat} (h : i < css.length) : nums (css.take (i + 1)) = nums (css.take i) ++ (css[i] ++ [0]) := by
  rw [List.take_succ_eq_append_getElem h, nums_snoc]

theorem nums_split {css : List (List Int)} {i : Nat} (h : i < css.length) : nums css = nums (css.take i) ++ ((css[i] ++ [0]) ++ nums (css.drop (i + 1))) := by
  have : css = css.take i ++ (css[i] :: css.drop (i + 1)) := by rw [← List.drop_eq_getElem_cons h, List.take_append_drop]
  have e : nums (css.take i ++ (css[i] :: css.drop (i + 1))) = nums (css.take i) ++ ((css[i] ++ [0]) ++ nums (css.drop (i + 1))) := by
    rw [nums, List.flatMap_append, List.flatMap_cons]; rfl
  rw [← this] at e
  exact e

theorem digI_zero : digI 0 = [48] := by
  unfold digI
  rw [if_neg (by decide)]
  show digN 0 = _
  rw [digN_small (by decide)]
  rfl

theorem bytes_below (w : World) (s : List UInt8) : Below w.heap.size w (Lib.bytesWorld w 5 (str s)) := by
  refine ⟨?_, ?_, ?_, ?_, fun k hk => Lib.bytesWorld_at_old w 5 (str s) k hk⟩
  · rfl
  · rfl
  · rfl
  · rw [Lib.bytesWorld_size]; omega

theorem bytes_txt (w : World) (s : List UInt8) : Txt (w.heap.size + 1) (Lib.bytesWorld w 5 (str s)) (some ⟨w.heap.size, 0, none⟩) s := by
  intro i hi
  refine ⟨w.heap.size, 0, rfl, by omega, ?_⟩
  rw [Nat.zero_add, Lib.bytesWorld_cell w 5 (str s) i (by rw [str_size]; exact hi)]
  simp [str, List.getD_eq_getElem?_getD, List.getElem?_eq_getElem hi]

/-- How much of the text there is, behind some words. -/
structure Part (css : List (List Int)) (xs : List UInt8) (hd : List UInt8) (D : List Int) (s : List UInt8) : Prop where
  text : s = hd ++ bodyI xs 0 D
  pre : D <+: nums css

theorem Part.next {css : List (List Int)} {xs hd : List UInt8} {D : List Int} {s : List UInt8} (h : Part css xs hd D s) {x : Int} (hx : (D ++ [x]) <+: nums css) : Part css xs hd (D ++ [x]) (s ++ digI x ++ gapAt xs D.length) := by
  refine ⟨?_, hx⟩
  rw [bodyI_snoc, h.text]
  simp

theorem Part.len {css : List (List Int)} {xs hd : List UInt8} {D : List Int} {s : List UInt8} (h : Part css xs hd D s) (hn : ∀ x ∈ nums css, (digI x).length ≤ 20) (h1 : (nums css).length ≤ 6300) (h2 : hd.length ≤ 100) : s.length ≤ 170200 ∧ D.length ≤ 6300 := by
  have hl := h.pre.length_le
  have hb := bodyI_len xs D 0 (fun x hx => hn x (h.pre.subset hx))
  rw [h.text]
  simp
  omega

theorem prefix_at {css : List (List Int)} {i j : Nat} (h : i < css.length) (hj : j < (css[i] ++ [0]).length) : (nums (css.take i) ++ (css[i] ++ [0]).take j) ++ [(css[i] ++ [0])[j]] <+: nums css := by
  rw [List.append_assoc, ← List.take_succ_eq_append_getElem hj, nums_split h]
  refine (List.prefix_append_right_inj _).2 ?_
  exact (List.take_prefix _ _).trans (List.prefix_append _ _)

theorem gap_cell (w : World) (i : Nat) (h : i < 6) : (w.alloc (.cells #[.string ⟨#[32]⟩, .string ⟨#[10]⟩, .string ⟨#[32, 9, 32]⟩, .string ⟨#[13, 10]⟩, .string ⟨#[10, 99, 32, 49, 32, 48, 10]⟩, .string ⟨#[10, 10]⟩] 9)).cell? ⟨w.heap.size, i, none⟩ = some (.string (str (gapOf i))) := by
  have e := heap_alloc_new w (.cells #[.string ⟨#[32]⟩, .string ⟨#[10]⟩, .string ⟨#[32, 9, 32]⟩, .string ⟨#[13, 10]⟩, .string ⟨#[10, 99, 32, 49, 32, 48, 10]⟩, .string ⟨#[10, 10]⟩] 9)
  rw [(arr_cell e i).1]
  have : i = 0 ∨ i = 1 ∨ i = 2 ∨ i = 3 ∨ i = 4 ∨ i = 5 := by omega
  rcases this with rfl | rfl | rfl | rfl | rfl | rfl <;> rfl

theorem cnf_lits {n : Int} {css : List (List Int)} (h : cnfB n css = true) : 0 ≤ n ∧ n ≤ 1048576 ∧ css.length ≤ 262144 ∧ ∀ c ∈ css, c.length ≤ 4096 ∧ ∀ l ∈ c, LitOk n l := by
  unfold cnfB at h
  rw [Bool.and_eq_true, decide_eq_true_iff] at h
  obtain ⟨⟨h1, h2, h3⟩, h4⟩ := h
  refine ⟨h1, h2, h3, fun c hc => ?_⟩
  have hm := List.all_eq_true.1 h4 c hc
  refine ⟨?_, fun l hl => litB_true.1 (mayB_lit hm l hl)⟩
  unfold mayB at hm
  simp at hm
  omega

theorem nums_digits {n : Int} {css : List (List Int)} (h : cnfB n css = true) : ∀ x ∈ nums css, (digI x).length ≤ 20 ∧ -1048576 ≤ x ∧ x ≤ 1048576 := by
  obtain ⟨h1, h2, h3, h4⟩ := cnf_lits h
  intro x hx
  unfold nums at hx
  rw [List.mem_flatMap] at hx
  obtain ⟨c, hc, hx⟩ := hx
  simp only [List.mem_append, List.mem_singleton] at hx
  have hb : -1048576 ≤ x ∧ x ≤ 1048576 := by
    rcases hx with hx | rfl
    · obtain ⟨_, a, b⟩ := (h4 c hc).2 x hx
      omega
    · omega
  exact ⟨digI_len (by omega) (by omega), hb⟩

set_option maxHeartbeats 8000000 in
theorem lines_light (a : Option Addr) (cap : Nat) (n : Int) (css : List (List Int)) (ax : Option Addr) (cx : Nat) (xs : List UInt8) (w : World) (hg : Grid w a css) (hl : css.length ≤ maxLen) (hx : Txt w.heap.size w ax xs) (hx4 : xs.length ≤ 400) (h1 : lightB css = true) (h2 : cnfB n css = true) :
    Calls Try.prog 5 #[.agg #[.int .i64 n, .slice a css.length cap], .slice ax xs.length cx] w fun e w' => e = .returned (.bool true) ∧ Below w.heap.size w w' := by
  have hbW := below_alloc w (.cells #[.int .i64 n, .slice a css.length cap] 30)
  have hsz := size_alloc w (.cells #[.int .i64 n, .slice a css.length cap] 30)
  have K1 : ∀ x y, Below (w.heap.size + 1) (w.alloc (.cells #[.int .i64 n, .slice a css.length cap] 30)) x → Below x.heap.size x y → Below (w.heap.size + 1) (w.alloc (.cells #[.int .i64 n, .slice a css.length cap] 30)) y := fun x y h g => h.trans (g.mono (by have := h.size; omega))
  have D1 := light_any a cap n css _ (hg.below hbW) hl
  have D2 : ∀ x, Below (w.heap.size + 1) (w.alloc (.cells #[.int .i64 n, .slice a css.length cap] 30)) x → _ := fun x h => refCnf_any a cap n css x (hg.below (below_box h)) hl
  have D3 : ∀ x, Below (w.heap.size + 1) (w.alloc (.cells #[.int .i64 n, .slice a css.length cap] 30)) x → _ := fun x h => awake_any x
  have KF := fun x (h : Below (w.heap.size + 1) (w.alloc (.cells #[.int .i64 n, .slice a css.length cap] 30)) x) => box_cells (w := w) h
  have KG : ∀ x, Below (w.heap.size + 1) (w.alloc (.cells #[.int .i64 n, .slice a css.length cap] 30)) x → Grid x a css := fun x h => hg.below (below_box h)
  have KX : ∀ x, Below (w.heap.size + 1) (w.alloc (.cells #[.int .i64 n, .slice a css.length cap] 30)) x → Txt w.heap.size x ax xs := fun x h => hx.below (below_box h)
  rw [hsz] at D1
  rw [h1] at D1
  rw [h2] at D2
  obtain ⟨c1, c2, c3, c4⟩ := cnf_lits h2
  have HND := hide (nums_digits h2)
  have HTX := hide (lines_text (css := css) xs c1 c2 c3 c4)
  have HC4 := hide c4
  have hli := h1
  unfold lightB at hli
  simp only [Bool.and_eq_true, decide_eq_true_eq] at hli
  have h300 : (css.length : Int) ≤ 300 := by omega
  have HNL : Hid ((nums css).length ≤ 6300) := by show _ ≤ _; rw [nums_len]; omega
  have hdn : (digI n).length ≤ 20 := digI_len (by omega) (by omega)
  have hdm : (digI (css.length : Int)).length ≤ 20 := digI_len (by omega) (by omega)
  have CD := fun x w (a : -1048576 ≤ x) (b : x ≤ 1048576) => digits_any x w (by omega) (by omega)
  have CN := fun w => digits_any n w (by omega) (by omega)
  have CM := fun w => digits_any (css.length : Int) w (by omega) (by omega)
  replace CD := hide CD
  replace CN := hide CN
  replace CM := hide CM
  have sdn : (str (digI n)).size ≤ 20 := by rw [str_size]; exact hdn
  have sdm : (str (digI (css.length : Int))).size ≤ 20 := by rw [str_size]; exact hdm
  have HHL : Hid ((linesHead n css.length).length ≤ 100) := by show _ ≤ _; unfold linesHead; simp; omega
  have HHD : Hid (str (linesHead n css.length) = ((((⟨#[99, 32, 97, 108, 108, 32, 111, 102, 32, 105, 116, 13, 10, 32, 112, 32, 32, 99, 110, 102, 9]⟩ ++ str (digI n)) ++ ⟨#[32]⟩) ++ str (digI (css.length : Int))) ++ ⟨#[32, 10]⟩ : ByteArray)) := by
    show _ = _
    unfold linesHead
    rw [← str_append, ← str_append, ← str_append, ← str_append]
    rfl
  generalize linesHead n css.length = hd at *
  replace D1 := hide D1
  replace D2 := hide D2
  replace D3 := hide D3
  replace KF := hide KF
  replace KG := hide KG
  replace KX := hide KX
  have HK := hide K1
  have HGR := hide hg
  unfold maxLen at hl
  clear K1 hbW hg hsz hx h1 h2 hli c4 hdn hdm
  go_enter Try.func5, Try.ntmps5
  go_wp2_with fail
  refine (unhide D1).mono ?_
  rintro e w1 ⟨rfl, hB1⟩
  obtain ⟨k0, k1⟩ := KF.out w1 hB1
  go_wp2_with fail
  refine (unhide D2 _ hB1).mono ?_
  rintro e w2 ⟨rfl, hB2⟩
  have hB3 := HK.out _ _ hB1 hB2
  clear k0 k1
  obtain ⟨k0, k1⟩ := KF.out w2 hB3
  go_wp2_with fail
  go_quiet ((go_at_call 9; exact Calls.quiet_of_same (digits_any _ _ (by omega) (by omega))))
  go_wp2
  have HB2 := hide hB3
  clear k0 k1 hB3 hB2 hB1
  go_loopw [5, 6, 7] (fun zs zk zi wr => ∃ (i : Nat) (s : List UInt8), i ≤ css.length ∧ zi = .int .i64 (i : Int) ∧ zk = .int .i64 ((nums (css.take i)).length : Int) ∧ zs = .string (str s) ∧ Part css xs hd (nums (css.take i)) s ∧ Below (w.heap.size + 1) (w.alloc (.cells #[.int .i64 n, .slice a css.length cap] 30)) wr) (fun _ _ zi _ => css.length - (intOf zi).toNat)
  case atStart => exact ⟨0, hd, Nat.zero_le _, rfl, rfl, by rw [HHD.out], ⟨by simp [nums, bodyI], by simp [nums]⟩, below_drewN HB2.out _⟩
  case round =>
    obtain ⟨i, s, hi, rfl, rfl, rfl, hP, hB⟩ := hrel
    obtain ⟨k0, k1⟩ := KF.out wr hB
    have HB := hide hB
    have HP := hide hP
    obtain ⟨hs1, hs2⟩ := hP.len (fun x hx => (HND.out x hx).1) HNL.out HHL.out
    clear hP
    by_cases hlt : i < css.length
    · obtain ⟨b, off, ai, ci, rfl, hb, hc, hr, hm⟩ := HGR.out i hlt
      have HCW : Hid (∀ x, Below (w.heap.size + 1) (w.alloc (.cells #[.int .i64 n, .slice (some ⟨b, off, none⟩) css.length cap] 30)) x → x.cell? ⟨b, off + i, none⟩ = some (.slice ai css[i].length ci)) := fun x h => ((below_box h).cell (p := ⟨b, off + i, none⟩) hb).trans hc
      have HRW : Hid (∀ j (hj : j < css[i].length), ∃ b2 o2, ai = some ⟨b2, o2, none⟩ ∧ ∀ x, Below (w.heap.size + 1) (w.alloc (.cells #[.int .i64 n, .slice (some ⟨b, off, none⟩) css.length cap] 30)) x → x.cell? ⟨b2, o2 + j, none⟩ = some (.int .i64 css[i][j])) := by
        intro j hj
        obtain ⟨b2, o2, e, hb2, hc2⟩ := hr j hj
        exact ⟨b2, o2, e, fun x h => ((below_box h).cell (p := ⟨b2, o2 + j, none⟩) hb2).trans hc2⟩
      have HPR := hide (fun j hj => prefix_at (css := css) (i := i) (j := j) hlt hj)
      have HTK := hide (nums_take hlt)
      have HBD : Hid (∀ x ∈ css[i], x ∈ nums css) := by
        intro x hx
        rw [nums_split hlt]
        simp [hx]
      have hcl := (HC4.out css[i] (List.getElem_mem hlt)).1
      have hki : (i : Int) < css.length := by omega
      clear hb hc hr
      generalize css[i] = c at *
      generalize nums (css.take i) = N0 at *
      unfold maxLen at hm
      go_wp2
      clear k0 k1
      go_loopw [5, 6, 8] (fun zs zk zj wr => ∃ (j : Nat) (s : List UInt8), j ≤ c.length + 1 ∧ zj = .int .i64 (j : Int) ∧ zk = .int .i64 ((N0 ++ (c ++ [0]).take j).length : Int) ∧ zs = .string (str s) ∧ Part css xs hd (N0 ++ (c ++ [0]).take j) s ∧ Below (w.heap.size + 1) (w.alloc (.cells #[.int .i64 n, .slice (some ⟨b, off, none⟩) css.length cap] 30)) wr) (fun _ _ zj _ => c.length + 1 - (intOf zj).toNat)
      case atStart => exact ⟨0, s, Nat.zero_le _, rfl, by simp, rfl, by simpa using HP.out, HB.out⟩
      case round =>
        clear HP HB hs1 hs2 hB
        obtain ⟨j, s, hj, rfl, rfl, rfl, hP, hB⟩ := hrel
        obtain ⟨k0, k1⟩ := KF.out wr hB
        have hcx := HCW.out wr hB
        obtain ⟨hs1, hs2⟩ := hP.len (fun x hx => (HND.out x hx).1) HNL.out HHL.out
        have hss := str_size s
        have HB := hide hB
        by_cases hjl : j ≤ c.length
        · have hj1 : j < (c ++ [0]).length := by simp; omega
          have HP2 := hide (hP.next (HPR.out j hj1))
          have HTS := hide (List.take_succ_eq_append_getElem hj1)
          have hxm : (c ++ [0])[j] ∈ nums css := (HPR.out j hj1).subset (List.mem_append.2 (.inr (List.mem_singleton.2 rfl)))
          obtain ⟨hx1, hx2, hx3⟩ := HND.out _ hxm
          have hxe : (h : j < c.length) → (c ++ [0])[j] = c[j] := fun h => List.getElem_append_left h
          have hxz : ¬ j < c.length → (c ++ [0])[j] = 0 := fun h => by
            have : j = c.length := by omega
            subst this
            simp
          generalize hX : (c ++ [0])[j] = x at *
          have hsx : (str (digI x)).size ≤ 20 := by rw [str_size]; exact hx1
          clear hX hxm
          generalize hDD : N0 ++ (c ++ [0]).take j = D at *
          have HD' : Hid (N0 ++ (c ++ [0]).take (j + 1) = D ++ [x]) := by show _ = _; rw [HTS.out, ← List.append_assoc, hDD]
          clear hP hDD HTS
          by_cases hk : D.length < xs.length
          · obtain ⟨bx, ox, rfl, hbx, hcb⟩ := KX.out wr hB D.length hk
            have hga : gapAt xs D.length = gapOf (xs[D.length].toNat % 6) := by
              unfold gapAt; rw [List.getElem?_eq_getElem hk]
            have HGC := hide (fun w' => gap_cell w' (xs[D.length].toNat % 6) (Nat.mod_lt _ (by omega)))
            have hgl := gapAt_len xs D.length
            rw [hga] at HP2 hgl
            generalize xs[D.length] = xc at *
            have hcb2 := fun o => ((below_alloc wr o).cell (p := ⟨bx, ox + D.length, none⟩) (by have := hB.size; simp at this; show bx < wr.heap.size; omega)).trans hcb
            have hgs : (str (gapOf (xc.toNat % 6))).size ≤ 7 := by rw [str_size]; exact hgl
            have hgc := HGC.out wr
            generalize hGG : gapOf (xc.toNat % 6) = gp at *
            have hmod : ((xc.toNat : Int) % 6).toNat = xc.toNat % 6 := by omega
            have hmod2 : (xc.toNat : Int) % 6 < 6 := by omega
            have hmod3 : 0 ≤ (xc.toNat : Int) % 6 := by omega
            have hki2 : (D.length : Int) < xs.length := by omega
            clear hGG HGC hga hgl
            by_cases hjc : j < c.length
            · obtain ⟨b2, o2, rfl, hcj⟩ := HRW.out j hjc
              have hcj' := hcj wr hB
              rw [← hxe hjc] at hcj'
              have hji : (j : Int) < c.length := by omega
              clear hcj hB hxe hxz HRW
              go_wp2_with (go_at_call 9; refine (unhide CD x _ hx2 hx3).mono ?_; rintro e w0 ⟨rfl, hw0⟩; subst w0)
              go_roundw
              case rel => exact ⟨j + 1, _, by omega, by go_num, by rw [HD'.out]; simp, by rw [str_append, str_append], by rw [HD'.out]; exact HP2.out, HB.out.alloc (by have := HB.out.size; simp at this; omega) _⟩
              case measure => simp [intOf]; omega
            · have hz := hxz hjc
              have hzw : (⟨#[48]⟩ : ByteArray) = str (digI x) := by rw [hz, digI_zero]; rfl
              have hji : ¬ (j : Int) < c.length := by omega
              have hji2 : (j : Int) ≤ c.length := by omega
              have HZW := hide hzw
              clear hB hxe hxz HRW hz hzw hjc hjl
              go_wp2
              go_roundw
              case rel => exact ⟨j + 1, _, by omega, by go_num, by rw [HD'.out]; simp, by rw [HZW.out, str_append, str_append], by rw [HD'.out]; exact HP2.out, HB.out.alloc (by have := HB.out.size; simp at this; omega) _⟩
              case measure => simp [intOf]; omega
          · have hga : gapAt xs D.length = [32] := by
              unfold gapAt; rw [List.getElem?_eq_none (by omega)]
            rw [hga] at HP2
            have hki2 : ¬ (D.length : Int) < xs.length := by omega
            have hgp : (⟨#[32]⟩ : ByteArray) = str [32] := rfl
            have HGP := hide hgp
            clear hga hgp
            by_cases hjc : j < c.length
            · obtain ⟨b2, o2, rfl, hcj⟩ := HRW.out j hjc
              have hcj' := hcj wr hB
              rw [← hxe hjc] at hcj'
              have hji : (j : Int) < c.length := by omega
              clear hcj hB hxe hxz HRW
              go_wp2_with (go_at_call 9; refine (unhide CD x _ hx2 hx3).mono ?_; rintro e w0 ⟨rfl, hw0⟩; subst w0)
              go_roundw
              case rel => exact ⟨j + 1, _, by omega, by go_num, by rw [HD'.out]; simp, by rw [HGP.out, str_append, str_append], by rw [HD'.out]; exact HP2.out, HB.out⟩
              case measure => simp [intOf]; omega
            · have hz := hxz hjc
              have hzw : (⟨#[48]⟩ : ByteArray) = str (digI x) := by rw [hz, digI_zero]; rfl
              have hji : ¬ (j : Int) < c.length := by omega
              have hji2 : (j : Int) ≤ c.length := by omega
              have HZW := hide hzw
              clear hB hxe hxz HRW hz hzw hjc hjl
              go_wp2
              go_roundw
              case rel => exact ⟨j + 1, _, by omega, by go_num, by rw [HD'.out]; simp, by rw [HZW.out, HGP.out, str_append, str_append], by rw [HD'.out]; exact HP2.out, HB.out⟩
              case measure => simp [intOf]; omega
        · have hje : j = c.length + 1 := by omega
          have hte : (c ++ [0]).take j = c ++ [0] := List.take_of_length_le (by simp; omega)
          rw [hte] at hP
          have HT2 : Hid ((N0 ++ (c ++ [0]).take j).length = (N0 ++ (c ++ [0])).length) := by show _ = _; rw [hte]
          have hji : ¬ (j : Int) ≤ c.length := by omega
          have HP := hide hP
          clear hP hB hje hte hjl
          generalize (N0 ++ (c ++ [0]).take j).length = kk at *
          go_wp2
          go_roundw
          case rel => exact ⟨i + 1, s, by omega, by go_num, by rw [HTK.out, ← HT2.out], rfl, by rw [HTK.out]; exact HP.out, HB.out⟩
          case measure => simp [intOf]; omega
    · have hie : i = css.length := by omega
      have hte : css.take i = css := List.take_of_length_le (by omega)
      have hse : s = hd ++ bodyI xs 0 (nums css) := by have := HP.out.text; rw [hte] at this; exact this
      have hTX := HTX.out
      rw [← hse] at hTX
      have hcv := Lib.run_convert_string_bytes (P := Try.prog) wr 9 27 5 (str s) Try.underlying9 Try.underlying27 Try.underlying5
      have hbw : Below wr.heap.size wr (Lib.bytesWorld wr 5 (str s)) := bytes_below wr s
      have hTT : Txt (Lib.bytesWorld wr 5 (str s)).heap.size (Lib.bytesWorld wr 5 (str s)) (some ⟨wr.heap.size, 0, none⟩) s := by
        rw [Lib.bytesWorld_size]; exact bytes_txt wr s
      have hB5 := HK.out _ _ hB hbw
      have CR := read_any (Lib.bytesWorld wr 5 (str s)) (some ⟨wr.heap.size, 0, none⟩) (grownCap wr (str s).size 0 5) s hTT (by omega) (by rw [← str_size s]; exact grownCap_ge _ _ _ _) _ hTX rfl rfl rfl
      rw [← str_size s] at CR
      have CR2 : Calls Try.prog 10 #[.slice (some ⟨wr.heap.size, 0, none⟩) (str s).size (grownCap wr (str s).size 0 5)] (Lib.bytesWorld wr 5 (str s)) fun e w' => ∃ av cv, e = .returned (.tuple #[.agg #[.int .i64 n, .slice av css.length cv], .int .i64 0, .int .i64 0]) ∧
          Hid (Grid (w'.alloc (.cells #[.int .i64 n, .slice av css.length cv] 30)) av css) ∧ Hid (Below (w.heap.size + 1) (w.alloc (.cells #[.int .i64 n, .slice a css.length cap] 30)) (w'.alloc (.cells #[.int .i64 n, .slice av css.length cv] 30))) := by
        refine CR.mono ?_
        rintro e x ⟨v, he, hog, hbl⟩
        obtain ⟨av, cv, rfl, hgr, -⟩ := hog.grid
        have hB6 := HK.out _ _ hB5 hbl
        exact ⟨av, cv, he, hgr.below (below_alloc x _), HK.out _ _ hB6 (below_alloc x _)⟩
      have CS : ∀ x av cv, Grid x av css → Below (w.heap.size + 1) (w.alloc (.cells #[.int .i64 n, .slice a css.length cap] 30)) x → Calls Try.prog 12 #[.agg #[.int .i64 n, .slice a css.length cap], .agg #[.int .i64 n, .slice av css.length cv]] x fun e w' => e = .returned (.bool true) ∧ Below (w.heap.size + 1) (w.alloc (.cells #[.int .i64 n, .slice a css.length cap] 30)) w' := by
        intro x av cv hga hbx
        refine (refSame_any a av cap cv n n css css x (KG.out x hbx) hga (by unfold maxLen; omega) (by unfold maxLen; omega)).mono ?_
        rintro e y ⟨he, hb⟩
        refine ⟨by rw [he]; simp [sameB, listsB], HK.out _ _ hbx hb⟩
      replace CR2 := hide CR2
      replace CS := hide CS
      have hki : ¬ (i : Int) < css.length := by omega
      clear CR hTT hTX hse hte hie hB5 hbw hlt HP
      generalize Lib.bytesWorld wr 5 (str s) = wb at *
      generalize grownCap wr (str s).size 0 5 = cb at *
      go_wp2_with fail
      refine (unhide CR2).mono ?_
      rintro e w5 ⟨av, cv, rfl, HG5, HB5⟩
      obtain ⟨m0, m1⟩ := KF.out _ HB5.out
      go_wp2_with fail
      refine (unhide CS _ av cv HG5.out HB5.out).mono ?_
      rintro e w6 ⟨rfl, hB6⟩
      go_wp2_with fail
      refine (unhide D3 _ hB6).mono ?_
      rintro e w7 ⟨rfl, hB7⟩
      go_wp2
      go_ret
      exact ⟨rfl, below_box (HK.out _ _ hB6 hB7)⟩

end Go.Proofs.Ytedpngipkaniaaa
