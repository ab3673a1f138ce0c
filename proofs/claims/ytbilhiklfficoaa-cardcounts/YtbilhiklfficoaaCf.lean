/- Contracts: the document's Enough, and whether a literal is true. -/
import Derived.Test.YtbilhiklfficoaaCe
import Derived.Test.YtbilhiklfficoaaEvB
set_option linter.unusedVariables false
set_option linter.unusedSimpArgs false
namespace Go.Proofs.Ytbilhiklfficoaa
open Go.RowKit Go.Maps

section
variable (w : World)
set_option maxHeartbeats 1000000 in
theorem refEnough_any (x : Int) (hx : inI64 x) : Calls Try.prog 11 #[.int .i64 x] w fun e w' => e = .returned (.int .i64 (enI x)) ∧ w' = w := by
  by_cases h0 : 0 ≤ x
  · by_cases h1 : x ≤ 65535
    · obtain ⟨n, rfl⟩ := Int.eq_ofNat_of_zero_le h0
      have hn : n ≤ 65535 := by omega
      have hv : enI (n : Int) = (enN n : Int) := by unfold enI; rw [if_pos ⟨h0, h1⟩, Int.toNat_natCast]
      rw [hv]
      have h16 := enN_16 hn
      have HN := hide hn
      have HT : Hid (∀ k, 1 ≤ k → k < enN n → 2 ^ k ≤ n) := fun k a b => enN_le a b
      have HE : Hid (n < 2 ^ enN n) := enN_lt n
      have d1 : decide ((n : Int) < 0) = false := by simp
      have d2 : decide ((65535 : Int) < (n : Int)) = false := by simp; omega
      generalize enN n = N at *
      clear hv hx h0 h1 hn
      go_enter Try.func11, Try.ntmps11
      go_wp2
      go_loopw [3] (fun i W => ∃ k : Nat, 1 ≤ k ∧ k ≤ N ∧ i = .int .i64 (k : Int) ∧ W = w) (fun i _ => N - (intOf i).toNat)
      case atStart => exact ⟨1, Nat.le_refl _, h16.1, rfl, rfl⟩
      case round =>
        obtain ⟨k, hk1, hk, rfl, rfl⟩ := hrel
        obtain ⟨T, hT⟩ : ∃ T : Nat, 2 ^ k = T := ⟨_, rfl⟩
        have hTI : (2 : Int) ^ k = (T : Int) := by rw [← hT]; norm_cast
        have hT16 : T ≤ 1099511627776 := by rw [← hT]; exact Nat.le_trans (Nat.pow_le_pow_right (by omega) (show k ≤ 40 by omega)) (by decide)
        have hsh : IntKind.i64.wrap (1 * 2 ^ k) = (T : Int) := by rw [Int.one_mul, hTI, IntKind.wrap_i64]; omega
        have hwT : IntKind.i64.wrap (T : Int) = (T : Int) := by rw [IntKind.wrap_i64]; omega
        by_cases hlt : k < N
        · have hle : T ≤ n := by rw [← hT]; exact HT.out k hk1 hlt
          have hd : decide ((T : Int) ≤ (n : Int)) = true := by simp; omega
          clear hT
          go_wp2
          go_roundw
          case rel => exact ⟨k + 1, by omega, by omega, by go_num, trivial⟩
          case measure => simp [intOf]; omega
        · obtain rfl : k = N := by omega
          have hle : n < T := by rw [← hT]; exact HE.out
          have hd : decide ((T : Int) ≤ (n : Int)) = false := by simp; omega
          clear hT
          go_wp2
          go_ret
          exact ⟨rfl, rfl⟩
    · have hv : enI x = 0 := by unfold enI; rw [if_neg (by omega)]
      rw [hv]
      have d1 : decide (x < 0) = false := by simp; omega
      have d2 : decide ((65535 : Int) < x) = true := by simp; omega
      go_enter Try.func11, Try.ntmps11
      go_wp2
      go_ret
      exact ⟨rfl, rfl⟩
  · have hv : enI x = 0 := by unfold enI; rw [if_neg (by omega)]
    rw [hv]
    have d1 : decide (x < 0) = true := by simp; omega
    go_enter Try.func11, Try.ntmps11
    go_wp2
    go_ret
    exact ⟨rfl, rfl⟩
end

/-- What an input's literal means. -/
theorem val_input {ins : List Bool} {g : List Gt} {i : Nat} (hi : i < g.length) (hin : isInB g[i] = true) {l : Int} (hl : (l / 2 - 1) = (i : Int)) :
    valF (allV ins g) l = (ins.getD (cntF (g.take i) 0) false != decide (l % 2 = 1)) := by
  have hg : g = (g.take i ++ [g[i]]) ++ g.drop (i + 1) := by
    rw [List.append_assoc, List.singleton_append, List.getElem_cons_drop, List.take_append_drop]
  have hti : (g.take i).length = i := by simp; omega
  have hat : (allV ins g)[i]? = some (bitF ins (allV ins (g.take i)) (cntF (g.take i) 0) g[i]) := by
    obtain ⟨u, e⟩ := allV_append ins (g.take i ++ [g[i]]) (g.drop (i + 1))
    rw [← hg] at e
    rw [e, allV_snoc, List.getElem?_append_left (by simp [allV_len, hti]), List.getElem?_append_right (by simp [allV_len, hti])]
    simp [allV_len, hti]
  have hb : bitF ins (allV ins (g.take i)) (cntF (g.take i) 0) g[i] = ins.getD (cntF (g.take i) 0) false := by unfold bitF; rw [hin]; rfl
  unfold valF
  rw [if_neg (by omega), if_neg (by rw [allV_len]; omega), hl, List.getD_eq_getElem?_getD, Int.toNat_natCast, hat, hb]
  rfl
theorem cnt_take (g : List Gt) {i : Nat} (hi : i < g.length) : cntF (g.take (i + 1)) 0 = nextF (cntF (g.take i) 0) g[i] := by
  rw [List.take_succ_eq_append_getElem hi, cnt_snoc]
/-- May, of a node: an input just if its first literal is less than 0. -/
theorem in_lt {g : List Gt} (hm : May g) {i : Nat} (hi : i < g.length) : isInB g[i] = decide (g[i].1 < 0) := by
  have h := hm i hi
  unfold okAt at h
  rcases h with h | h
  · rw [h]
    unfold isInB at h
    simp at h
    simp; omega
  · unfold isInB
    rw [Bool.eq_iff_iff]
    simp; omega

set_option maxHeartbeats 4000000 in
set_option maxRecDepth 100000 in
theorem refTrue_any : ∀ (m : Nat) (w : World) (al ai : Option Addr) (cap ci : Nat) (g : List Gt) (ins : List Bool) (l : Int), l < m → isB g l = true → GS w al g → May g → g.length ≤ 1000 → Vs w ai ins → ins.length ≤ maxLen →
    Calls Try.prog 36 #[.slice al g.length cap, .slice ai ins.length ci, .int .i64 l] w fun e w' => e = .returned (.bool (valF (allV ins g) l)) ∧ Below w.heap.size w w'
  | 0, w, al, ai, cap, ci, g, ins, l, hlt, hl, hG, hm, hg, hV, hi => by rw [isB_iff] at hl; omega
  | m + 1, w, al, ai, cap, ci, g, ins, l, hlt, hl, hG, hm, hg, hV, hi => by
    have IH : Hid (∀ (w : World) (l : Int), l < m → isB g l = true → GS w al g → Vs w ai ins → Calls Try.prog 36 #[.slice al g.length cap, .slice ai ins.length ci, .int .i64 l] w fun e w' => e = .returned (.bool (valF (allV ins g) l)) ∧ Below w.heap.size w w') :=
      fun w l h1 h2 h3 h4 => refTrue_any m w al ai cap ci g ins l h1 h2 h3 hm hg h4 hi
    have hB := isB_iff.1 hl
    by_cases h2 : l < 2
    · have h01 : l = 0 ∨ l = 1 := by omega
      rcases h01 with rfl | rfl
      · rw [val_zero]
        go_enter Try.func36, Try.ntmps36
        go_wp2
        go_ret
        exact ⟨rfl, Below.refl _ _⟩
      · rw [val_one]
        go_enter Try.func36, Try.ntmps36
        go_wp2
        go_ret
        exact ⟨rfl, Below.refl _ _⟩
    · obtain ⟨i, hi0⟩ : ∃ i : Nat, l / 2 - 1 = (i : Int) := ⟨(l / 2 - 1).toNat, by omega⟩
      have hig : i < g.length := by omega
      have HG := hide hG
      obtain ⟨q, off, rfl, hq, z0, z1⟩ := hG i hig
      have h0l : 0 ≤ l := hB.1
      have hlu : l ≤ 5000 := by omega
      have hi2 : l / 2 = (i : Int) + 1 := by omega
      have hlen : (i : Int) < (g.length : Int) := by omega
      clear hi0
      obtain ⟨r, hr⟩ : ∃ r, valF (allV ins g) l = r := ⟨_, rfl⟩
      rw [hr]
      go_enter Try.func36, Try.ntmps36
      go_upto_region 4 with fail
      obtain ⟨d, hd⟩ : ∃ d, decide (l % 2 = 1) = d := ⟨_, rfl⟩
      have hd' : (l % 2 == 1) = d := by rw [← hd]; rfl
      have HIN := hide (in_lt hm hig)
      have hkid : kid g l = g[i] := by
        unfold kid
        rw [show (l / 2 - 1).toNat = i by omega, List.getD_eq_getElem?_getD, List.getElem?_eq_getElem hig]; rfl
      have HBX := box2 w (.int .i64 g[i].1) (.int .i64 g[i].2) 60
      refine forget (P := fun W => Code.wp Try.prog _ _ _ W) (fun W => Hid (Below w.heap.size w W) ∧ W.cell? ⟨w.heap.size, 0, none⟩ = some (.int .i64 g[i].1) ∧ W.cell? ⟨w.heap.size, 1, none⟩ = some (.int .i64 g[i].2)) ⟨below_alloc w _, HBX.1, HBX.2.1⟩ ?_
      clear HBX
      rintro W ⟨HB, k0, k1⟩
      have HGW := hide (HG.out.below HB.out)
      have HVW := hide (hV.below HB.out)
      have HSZ : Hid (w.heap.size < W.heap.size) := World.block_lt_of_cell? W _ k0
      clear z0 z1 hq hG HG hV
      by_cases ha : 0 ≤ g[i].1
      · have hin : isInB g[i] = false := by rw [HIN.out]; simp; omega
        have hv := val_kid (ins := ins) hm (b := l) (by omega) hl (by rw [hkid]; exact hin)
        have hli := lit_in hm (b := l) (by omega) hl (by rw [hkid]; exact hin)
        rw [hkid] at hv hli
        have hok := hm i hig
        unfold okAt at hok
        rw [hin] at hok
        simp at hok
        have A1 := hide (unhide IH W g[i].1 (by omega) hli.1 HGW.out HVW.out)
        have A2 : Hid (∀ W', Below W.heap.size W W' → Calls Try.prog 36 #[.slice (some ⟨q, off, none⟩) g.length cap, .slice ai ins.length ci, .int .i64 g[i].2] W' fun e w' => e = .returned (.bool (valF (allV ins g) g[i].2)) ∧ Below W'.heap.size W' w') := fun W' hb => unhide IH W' g[i].2 (by omega) hli.2 (HGW.out.below hb) (HVW.out.below hb)
        rw [hr, hd] at hv
        have ha' : decide (g[i].1 < 0) = false := by simp; omega
        replace hv := hide hv
        clear hli hok hin HIN hkid IH HGW HVW hm hr
        generalize valF (allV ins g) g[i].1 = va at *
        generalize valF (allV ins g) g[i].2 = vb at *
        generalize g[i].1 = a at *
        generalize g[i].2 = b at *
        cases va
        · go_wp2_with (go_at_call 36; refine (unhide A1).mono ?_; rintro e w1 ⟨rfl, hb1⟩)
          go_ret
          exact ⟨ret_bool (by rw [hv.out]; cases d <;> cases vb <;> rfl), HB.out.trans (hb1.mono (Nat.le_of_lt HSZ.out))⟩
        · go_wp2_with (first
            | (go_at_call 36; refine (unhide A2 w1 hb1).mono ?_; rintro e w2 ⟨rfl, hb2⟩)
            | (go_at_call 36; refine (unhide A1).mono ?_; rintro e w1 ⟨rfl, hb1⟩; have k2 := (World.cell?_of_block (hb1.block _ HSZ.out)).trans k1))
          go_ret
          exact ⟨ret_bool (by rw [hv.out]; cases d <;> cases vb <;> rfl), HB.out.trans ((hb1.trans (hb2.mono hb1.size)).mono (Nat.le_of_lt HSZ.out))⟩
      · have hin : isInB g[i] = true := by rw [HIN.out]; simp; omega
        have hv := val_input (ins := ins) hig hin (l := l) (by omega)
        rw [hr, hd] at hv
        replace hv := hide hv
        have HCT : Hid (∀ j, cntF (g.take j) 0 ≤ 1000) := fun j => by have := cnt_le (g.take j) 0; simp at this; omega
        have HLT : Hid (∀ j (hj : j < g.length), isInB g[j] = decide (g[j].1 < 0)) := fun j hj => in_lt hm hj
        have ha' : decide (0 ≤ g[i].1) = false := by simp; omega
        have HIG := hide hig
        generalize g[i].1 = a at *
        generalize g[i].2 = b at *
        clear hin HIN hkid IH hm hr
        go_wp2
        go_loopw [9, 10] (fun c j' W' => ∃ j : Nat, j ≤ i ∧ j' = .int .i64 (j : Int) ∧ c = .int .i64 (cntF (g.take j) 0 : Nat) ∧ W' = W) (fun _ j' _ => i - (intOf j').toNat)
        case atStart => exact ⟨0, Nat.zero_le _, rfl, rfl, rfl⟩
        case round =>
          obtain ⟨j, hj, rfl, rfl, rfl⟩ := hrel
          have hc1 := HCT.out j
          by_cases hlt : j < i
          · have hjg : j < g.length := Nat.lt_trans hlt HIG.out
            obtain ⟨q', off', e, hq', y0, y1⟩ := HGW.out j hjg
            cases e
            have hin := HLT.out j hjg
            have hnx := cnt_take g hjg
            have HNX := hide hnx
            have hlen' : (j : Int) < (g.length : Int) := by omega
            clear hnx
            generalize cntF (g.take j) 0 = c at *
            by_cases hneg : g[j].1 < 0
            · have hd1 : decide (g[j].1 < 0) = true := by simpa using hneg
              rw [hd1] at hin
              generalize g[j].1 = x at *
              generalize g[j].2 = y at *
              have hcn : cntF (g.take (j + 1)) 0 = c + 1 := by rw [HNX.out]; unfold nextF; rw [hin]; rfl
              clear hin HNX
              go_wp2
              go_roundw
              case rel => exact ⟨j + 1, by omega, by go_num, by rw [hcn]; go_num, trivial⟩
              case measure => simp [intOf]; omega
            · have hd1 : decide (g[j].1 < 0) = false := by simpa using hneg
              rw [hd1] at hin
              generalize g[j].1 = x at *
              generalize g[j].2 = y at *
              have hcn : cntF (g.take (j + 1)) 0 = c := by rw [HNX.out]; unfold nextF; rw [hin]; rfl
              clear hin HNX
              go_wp2
              go_roundw
              case rel => exact ⟨j + 1, by omega, by go_num, by rw [hcn], trivial⟩
              case measure => simp [intOf]; omega
          · obtain rfl : j = i := by omega
            have HF : Hid (Below w.heap.size w wr) := HB
            generalize cntF (g.take j) 0 = c at *
            by_cases hci : c < ins.length
            · obtain ⟨q2, o2, rfl, hq2, y2⟩ := HVW.out c hci
              have hg2 : ins.getD c false = ins[c] := by rw [List.getD_eq_getElem?_getD, List.getElem?_eq_getElem hci]; rfl
              rw [hg2] at hv
              have hci' : (c : Int) < (ins.length : Int) := by omega
              generalize ins[c] = x at *
              go_wp2
              go_ret
              exact ⟨ret_bool (by rw [hv.out]; cases d <;> cases x <;> rfl), HF.out⟩
            · have hg2 : ins.getD c false = false := by rw [List.getD_eq_getElem?_getD, List.getElem?_eq_none (by omega)]; rfl
              rw [hg2] at hv
              have hci' : decide ((c : Int) < (ins.length : Int)) = false := by simp; omega
              go_wp2
              go_ret
              exact ⟨ret_bool (by rw [hv.out]; cases d <;> rfl), HF.out⟩
end Go.Proofs.Ytbilhiklfficoaa
