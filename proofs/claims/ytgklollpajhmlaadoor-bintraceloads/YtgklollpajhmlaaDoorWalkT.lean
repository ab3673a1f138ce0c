/- Contracts of the program: a number's, a step's and a proof's bytes are put behind others. -/
import Derived.Test.YtgklollpajhmlaaDoorWalkR
import Derived.Test.YtgklollpajhmlaaDoorWalkS
set_option linter.unusedVariables false
set_option linter.unusedSimpArgs false
namespace Go.Proofs.YtgklollpajhmlaaDoor
open Go.RowKit Go.Maps

attribute [local go_sem ↓] Go.wp_at_zero Go.wp_at_succ

theorem byte_one {c : UInt8} {x : Int} (h : (c.toNat : Int) = x) : byteL [c] = [Value.int .u8 x] := by
  subst h; rfl

theorem one_src (w : World) (c : UInt8) (x : Int) (h : (c.toNat : Int) = x) : ∀ j u, (byteL [c])[j]? = some u → (w.alloc (.cells #[.int .u8 x] 5)).cell? ((⟨w.heap.size, 0, none⟩ : Addr).add j) = some u := by
  rw [byte_one h]
  exact cell_one_new w _ 5

theorem ofNat_int {n : Nat} (h : n < 256) : ((UInt8.ofNat n).toNat : Int) = (n : Int) := by rw [ofNat_toNat h]

/-- A number's bytes, as far as they are put. -/
def Part (n f m : Nat) (ys : List UInt8) : Prop := ys ++ bytF f m = bytF 3 n ∧ m < 128 ^ (f + 1) ∧ ys.length + f = 3

theorem part_start {n : Nat} (h : n ≤ 2097153) : Part n 3 n [] := ⟨rfl, by omega, rfl⟩

theorem part_next {n f m : Nat} {ys : List UInt8} (h : Part n f m ys) (hm : 128 ≤ m) : ∃ f', f = f' + 1 ∧ Part n f' (m / 128) (ys ++ [UInt8.ofNat (m % 128 + 128)]) := by
  obtain ⟨h1, h2, h3⟩ := h
  cases f with
  | zero => simp at h2; omega
  | succ f =>
    refine ⟨f, rfl, ?_, by rw [Nat.pow_succ] at h2; omega, by simp; omega⟩
    rw [← h1, bytF, if_neg (by omega)]
    simp

theorem part_last {n f m : Nat} {ys : List UInt8} (h : Part n f m ys) (hm : m < 128) : ys ++ [UInt8.ofNat m] = bytF 3 n := by
  obtain ⟨h1, h2, h3⟩ := h
  rw [← h1]
  cases f with
  | zero => rfl
  | succ f => rw [bytF, if_pos hm]

theorem part_len {n f m : Nat} {ys : List UInt8} (h : Part n f m ys) : ys.length ≤ 3 := by
  have := h.2.2; omega

set_option maxHeartbeats 2000000 in
theorem appendNumber_any (B : Nat) (w : World) (v : Value) (xs : List UInt8) (n : Nat) (hn : n ≤ 2097153) (h : Br B w v xs) (hB : B ≤ w.heap.size) (hl : xs.length ≤ 80000000) :
    Calls Tryd.prog 32 #[v, .int .i64 (n : Int)] w fun e w' => ∃ v', e = .returned v' ∧ Br B w' v' (xs ++ bytF 3 n) ∧ Below B w w' := by
  obtain ⟨i0, hi, hz0, hz1, hz2⟩ := info_parts Tryd.info5
  obtain ⟨g, cap, rfl, hgB, hgw, -⟩ := h.shape
  have HBR := hide h
  clear h
  go_enter Tryd.func32, Tryd.ntmps32
  go_wp2
  go_loopw [0, 1] (fun zv zi wr => ∃ (f m g1 n1 c1 : Nat) (ys : List UInt8), zi = .int .i64 (m : Int) ∧ zv = .slice (some ⟨g1, 0, none⟩) n1 c1 ∧ Br B wr (.slice (some ⟨g1, 0, none⟩) n1 c1) (xs ++ ys) ∧ Below B w wr ∧ m ≤ 2097153 ∧ Hid (Part n f m ys)) (fun _ zi _ => (intOf zi).toNat)
  case atStart => exact ⟨3, n, g, xs.length, cap, [], rfl, rfl, by rw [List.append_nil]; exact HBR.out, Below.refl _ _, hn, part_start hn⟩
  case round =>
    clear HBR
    obtain ⟨f, m, g1, n1, c1, ys, rfl, rfl, hbr, hbel, hm2, HP⟩ := hrel
    have hsz := hbel.size
    have hyl := part_len HP.out
    by_cases hlt : 128 ≤ m
    · obtain ⟨f', hf', hp'⟩ := part_next HP.out hlt
      have HP' := hide hp'
      clear hf' hp' HP
      have hlt' : 128 ≤ (m : Int) := by omega
      have hq0 : 0 ≤ (m : Int) % 128 := by omega
      have hq1 : (m : Int) % 128 < 128 := by omega
      have HBA := hide (hbr.kept (below_alloc wr (.cells #[.int .u8 ((m : Int) % 128 + 128)] 5)))
      have HBL := hide (hbel.alloc (Nat.le_trans hB hsz) (.cells #[.int .u8 ((m : Int) % 128 + 128)] 5))
      have HSRC := hide (one_src wr (UInt8.ofNat (m % 128 + 128)) ((m : Int) % 128 + 128) (by rw [ofNat_int (by omega)]; omega))
      have HLN : Hid ((xs ++ ys).length + 1 ≤ 140737488355328) := by show _ ≤ _; simp only [List.length_append]; omega
      have HBT := hide (fun k hk => (hbr.lt k hk).1)
      clear hbr
      go_wp2_with (at_builtin; refine wpList_br_slice rfl _ _ 22 rfl B Tryd.underlying22 i0 hi hz0 hz1 hz2 (.slice (some ⟨g1, 0, none⟩) n1 c1) (xs ++ ys) [UInt8.ofNat (m % 128 + 128)] rfl HBA.out HLN.out (by simp; omega) ⟨wr.heap.size, 0, none⟩ 1 1 rfl rfl HSRC.out ?_; intro v2 w2 hbr2 hgr2)
      obtain ⟨g2, c2, e2, -⟩ := hbr2.shape
      go_roundw
      case rel => exact ⟨f', m / 128, g2, _, c2, ys ++ [UInt8.ofNat (m % 128 + 128)], by go_num, e2, by rw [← e2, ← List.append_assoc]; exact hbr2, HBL.out.grown hgr2 (by simp; omega) HBT.out, by omega, HP'.out⟩
      case measure => simp [intOf]; omega
    · have hp' := part_last HP.out (by omega)
      have HP' := hide hp'
      clear hp' HP
      have hlt' : ¬ 128 ≤ (m : Int) := by omega
      have hq1 : (m : Int) < 128 := by omega
      have HBA := hide (hbr.kept (below_alloc wr (.cells #[.int .u8 (m : Int)] 5)))
      have HBL := hide (hbel.alloc (Nat.le_trans hB hsz) (.cells #[.int .u8 (m : Int)] 5))
      have HSRC := hide (one_src wr (UInt8.ofNat m) (m : Int) (ofNat_int (by omega)))
      have HLN : Hid ((xs ++ ys).length + 1 ≤ 140737488355328) := by show _ ≤ _; simp only [List.length_append]; omega
      have HBT := hide (fun k hk => (hbr.lt k hk).1)
      clear hbr
      go_wp2_with (at_builtin; refine wpList_br_slice rfl _ _ 22 rfl B Tryd.underlying22 i0 hi hz0 hz1 hz2 (.slice (some ⟨g1, 0, none⟩) n1 c1) (xs ++ ys) [UInt8.ofNat m] rfl HBA.out HLN.out (by simp; omega) ⟨wr.heap.size, 0, none⟩ 1 1 rfl rfl HSRC.out ?_; intro v2 w2 hbr2 hgr2)
      go_ret
      exact ⟨_, rfl, by rw [← HP'.out, ← List.append_assoc]; exact hbr2, HBL.out.grown hgr2 (by simp; omega) HBT.out⟩

theorem two_cells {w : World} {R : Nat} {a b : Value} {t : TypeId} (h : w.heap[R]? = some (.cells #[a, b] t (0, 0))) :
    w.cell? ⟨R, 0, none⟩ = some a ∧ w.cell? ⟨R, 1, none⟩ = some b ∧ w.frozen? ⟨R, 0, none⟩ = false ∧ w.frozen? ⟨R, 1, none⟩ = false := by
  refine ⟨?_, ?_, ?_, ?_⟩ <;> simp [World.cell?, World.frozen?, h]

/-- A step's first byte. -/
def hdY (d : Bool) : UInt8 := if d then 100 else 97

theorem stepY_eq (d : Bool) (c : List Int) : stepY (d, c) = [hdY d] ++ litsY c ++ [0] := by simp [stepY, hdY]

theorem litsY_take (c : List Int) (k : Nat) : (litsY (c.take k)).length ≤ 4 * c.length := by
  have h1 := litsY_len (c.take k)
  have h2 : (c.take k).length ≤ c.length := List.length_take_le' k c
  omega

/-- What is so behind a step's first byte. -/
structure Hd (B : Nat) (w : World) (a : Option Addr) (ca M : Nat) (d : Bool) (xs : List UInt8) (v1 : Value) (w1 : World) : Prop where
  br : Br B w1 v1 (xs ++ [hdY d])
  bel : Below B w w1
  box : w1.heap[w.heap.size]? = some (.cells #[.bool d, .slice a M ca] 36 (0, 0))

theorem hd_of {B : Nat} {w : World} {a : Option Addr} {ca M g n cap : Nat} {d : Bool} {xs : List UInt8} {x : Int} {v1 : Value} {w1 : World} (hB : B ≤ w.heap.size) (hg : g < w.heap.size) (hgB : B ≤ g)
    (h1 : Br B w1 v1 (xs ++ [hdY d])) (h2 : ((w.alloc (.cells #[.bool d, .slice a M ca] 36)).alloc (.cells #[.int .u8 x] 5)).grownBy w1 (Value.slice (some ⟨g, 0, none⟩) n cap).ownBlock) : Hd B w a ca M d xs v1 w1 := by
  refine ⟨h1, ?_, ?_⟩
  · refine (((Below.refl B w).alloc hB _).alloc (by simp; omega) _).grown h2 (by simp; omega) (fun k hk => ?_)
    simp [Value.ownBlock] at hk
    omega
  · rw [h2.block w.heap.size (by simp; omega) (by simp [Value.ownBlock]; omega), (below_alloc _ _).block w.heap.size (by simp)]
    exact heap_alloc_new w _

set_option maxHeartbeats 4000000 in
theorem appendStep_any (B : Nat) (w : World) (v : Value) (xs : List UInt8) (d : Bool) (a : Option Addr) (ca : Nat) (c : List Int) (hr : ∀ x, Below B w x → Row x a c) (hc : c.length ≤ 4096) (hb : ∀ l ∈ c, litB l 1048576 = true) (h : Br B w v xs) (hB : B ≤ w.heap.size) (hl : xs.length ≤ 70000000) :
    Calls Tryd.prog 21 #[v, .agg #[.bool d, .slice a c.length ca]] w fun e w' => ∃ v', e = .returned v' ∧ Br B w' v' (xs ++ stepY (d, c)) ∧ Below B w w' := by
  obtain ⟨i0, hi, hz0, hz1, hz2⟩ := info_parts Tryd.info5
  have HR := hide hr
  obtain ⟨g, cap, rfl, hgB, hgw, -⟩ := h.shape
  have HLL : Hid (∀ k, (litsY (c.take k)).length ≤ 4 * 4096) := by
    intro k
    have := litsY_take c k
    omega
  have HST : Hid (stepY (d, c) = [hdY d] ++ litsY c ++ [0]) := stepY_eq d c
  have HBA : Hid (∀ x, Br B ((w.alloc (.cells #[.bool d, .slice a c.length ca] 36)).alloc (.cells #[.int .u8 x] 5)) (.slice (some ⟨g, 0, none⟩) xs.length cap) xs) := fun x => (h.kept (below_alloc w _)).kept (below_alloc _ _)
  have HSRC : Hid (∀ x, ((hdY d).toNat : Int) = x → ∀ j u, (byteL [hdY d])[j]? = some u → ((w.alloc (.cells #[.bool d, .slice a c.length ca] 36)).alloc (.cells #[.int .u8 x] 5)).cell? ((⟨w.heap.size + 1, 0, none⟩ : Addr).add j) = some u) := fun x hx => by
    have := one_src (w.alloc (.cells #[.bool d, .slice a c.length ca] 36)) (hdY d) x hx
    simpa using this
  clear hr h
  cases d
  · go_enter Tryd.func21, Tryd.ntmps21
    go_wp2_with (at_builtin; (refine wpList_br_slice rfl _ _ 22 rfl B Tryd.underlying22 i0 hi hz0 hz1 hz2 (.slice (some ⟨g, 0, none⟩) xs.length cap) xs [hdY false] rfl (HBA.out _) (by simp; omega) (by simp; omega) ⟨w.heap.size + 1, 0, none⟩ 1 1 rfl rfl (HSRC.out _ rfl) ?_; intro v1 w1 hbr1 hgr1; have HH := hide (hd_of hB hgw hgB hbr1 hgr1); clear hbr1 hgr1; obtain ⟨g2, c2, rfl, -⟩ := HH.out.br.shape; obtain ⟨bx0, bx1, bx2, bx3⟩ := two_cells HH.out.box; have hbxs := lt_of_block HH.out.box))
    go_loopw [0, 17] (fun zv zi wr => ∃ (k g1 n1 c1 : Nat), k ≤ c.length ∧ zi = .int .i64 (k : Int) ∧ zv = .slice (some ⟨g1, 0, none⟩) n1 c1 ∧ Br B wr (.slice (some ⟨g1, 0, none⟩) n1 c1) (xs ++ [hdY false] ++ litsY (c.take k)) ∧ Below B w wr) (fun _ zi _ => c.length - (intOf zi).toNat)
    case atStart =>
      exact ⟨0, _, _, _, Nat.zero_le _, rfl, rfl, by simpa [litsY] using HH.out.br, HH.out.bel⟩
    case round =>
      clear HH bx0 bx1 bx2 bx3 hbxs
      obtain ⟨k, g1, n1, c1, hk, rfl, rfl, hbr, hbel⟩ := hrel
      have hkl := HLL.out k
      have hsz := hbel.size
      by_cases hlt : k < c.length
      · obtain ⟨b, off, rfl, hb1, hcell⟩ := HR.out wr hbel k hlt
        have hlk := hb c[k] (List.getElem_mem hlt)
        have hnb := nbI_bd hlk
        have hlb := (litB_true.1 hlk).2
        have HS := hide (litsY_snoc hlt)
        have CN := hide (numberOf_any c[k] wr hlb.1 hlb.2)
        have CA := appendNumber_any B wr (.slice (some ⟨g1, 0, none⟩) n1 c1) (xs ++ [hdY false] ++ litsY (c.take k)) (nbI c[k]) hnb.2 hbr (by omega) (by simp only [List.length_append, List.length_singleton]; omega)
        have CA2 : Calls Tryd.prog 32 #[.slice (some ⟨g1, 0, none⟩) n1 c1, .int .i64 (nbI c[k] : Int)] wr fun e w' => ∃ (g2 n2 c2 : Nat), e = .returned (.slice (some ⟨g2, 0, none⟩) n2 c2) ∧ Hid (Br B w' (.slice (some ⟨g2, 0, none⟩) n2 c2) (xs ++ [hdY false] ++ litsY (c.take (k + 1))) ∧ Below B w w') := by
          refine CA.mono ?_
          rintro e y ⟨v', he, h1, h2⟩
          obtain ⟨g2, c2, e2, -⟩ := h1.shape
          refine ⟨g2, _, c2, by rw [he, e2], by rw [← e2, HS.out, ← List.append_assoc]; exact h1, hbel.trans h2⟩
        replace CA2 := hide CA2
        have hki : (k : Int) < c.length := by omega
        clear CA hbr hlk hlb
        generalize hnn : nbI c[k] = nn at *
        clear hnn
        go_wp2_with (first
          | (go_at_call 33; refine (unhide CN).mono ?_; rintro e w0 ⟨rfl, hw0⟩; subst w0)
          | (go_at_call 32; refine (unhide CA2).mono ?_; rintro e w1 ⟨g2, n2, c2, rfl, HX⟩))
        go_roundw
        case rel => exact ⟨k + 1, g2, n2, c2, by omega, by go_num, rfl, HX.out.1, HX.out.2⟩
        case measure => simp [intOf]; omega
      · have hte : c.take k = c := List.take_of_length_le (by omega)
        rw [hte] at hbr hkl
        have hki : ¬ (k : Int) < c.length := by omega
        have HBA2 := hide (hbr.kept (below_alloc wr (.cells #[.int .u8 0] 5)))
        have HBL2 := hide (hbel.alloc (Nat.le_trans hB hsz) (.cells #[.int .u8 0] 5))
        have HSRC2 := hide (one_src wr 0 0 rfl)
        have HBT := hide (fun k hk => (hbr.lt k hk).1)
        have HLN : Hid ((xs ++ [hdY false] ++ litsY c).length + 1 ≤ 140737488355328) := by show _ ≤ _; simp only [List.length_append, List.length_singleton]; omega
        clear hte hbr
        go_wp2_with (at_builtin; refine wpList_br_slice rfl _ _ 22 rfl B Tryd.underlying22 i0 hi hz0 hz1 hz2 (.slice (some ⟨g1, 0, none⟩) n1 c1) _ [0] rfl HBA2.out HLN.out (by simp; omega) ⟨wr.heap.size, 0, none⟩ 1 1 rfl rfl HSRC2.out ?_; intro v2 w2 hbr2 hgr2)
        go_ret
        exact ⟨_, rfl, by rw [HST.out]; simpa using hbr2, HBL2.out.grown hgr2 (by simp; omega) HBT.out⟩
  · go_enter Tryd.func21, Tryd.ntmps21
    go_wp2_with (at_builtin; (refine wpList_br_slice rfl _ _ 22 rfl B Tryd.underlying22 i0 hi hz0 hz1 hz2 (.slice (some ⟨g, 0, none⟩) xs.length cap) xs [hdY true] rfl (HBA.out _) (by simp; omega) (by simp; omega) ⟨w.heap.size + 1, 0, none⟩ 1 1 rfl rfl (HSRC.out _ rfl) ?_; intro v1 w1 hbr1 hgr1; have HH := hide (hd_of hB hgw hgB hbr1 hgr1); clear hbr1 hgr1; obtain ⟨g2, c2, rfl, -⟩ := HH.out.br.shape; obtain ⟨bx0, bx1, bx2, bx3⟩ := two_cells HH.out.box; have hbxs := lt_of_block HH.out.box))
    go_loopw [0, 17] (fun zv zi wr => ∃ (k g1 n1 c1 : Nat), k ≤ c.length ∧ zi = .int .i64 (k : Int) ∧ zv = .slice (some ⟨g1, 0, none⟩) n1 c1 ∧ Br B wr (.slice (some ⟨g1, 0, none⟩) n1 c1) (xs ++ [hdY true] ++ litsY (c.take k)) ∧ Below B w wr) (fun _ zi _ => c.length - (intOf zi).toNat)
    case atStart =>
      exact ⟨0, _, _, _, Nat.zero_le _, rfl, rfl, by simpa [litsY] using HH.out.br, HH.out.bel⟩
    case round =>
      clear HH bx0 bx1 bx2 bx3 hbxs
      obtain ⟨k, g1, n1, c1, hk, rfl, rfl, hbr, hbel⟩ := hrel
      have hkl := HLL.out k
      have hsz := hbel.size
      by_cases hlt : k < c.length
      · obtain ⟨b, off, rfl, hb1, hcell⟩ := HR.out wr hbel k hlt
        have hlk := hb c[k] (List.getElem_mem hlt)
        have hnb := nbI_bd hlk
        have hlb := (litB_true.1 hlk).2
        have HS := hide (litsY_snoc hlt)
        have CN := hide (numberOf_any c[k] wr hlb.1 hlb.2)
        have CA := appendNumber_any B wr (.slice (some ⟨g1, 0, none⟩) n1 c1) (xs ++ [hdY true] ++ litsY (c.take k)) (nbI c[k]) hnb.2 hbr (by omega) (by simp only [List.length_append, List.length_singleton]; omega)
        have CA2 : Calls Tryd.prog 32 #[.slice (some ⟨g1, 0, none⟩) n1 c1, .int .i64 (nbI c[k] : Int)] wr fun e w' => ∃ (g2 n2 c2 : Nat), e = .returned (.slice (some ⟨g2, 0, none⟩) n2 c2) ∧ Hid (Br B w' (.slice (some ⟨g2, 0, none⟩) n2 c2) (xs ++ [hdY true] ++ litsY (c.take (k + 1))) ∧ Below B w w') := by
          refine CA.mono ?_
          rintro e y ⟨v', he, h1, h2⟩
          obtain ⟨g2, c2, e2, -⟩ := h1.shape
          refine ⟨g2, _, c2, by rw [he, e2], by rw [← e2, HS.out, ← List.append_assoc]; exact h1, hbel.trans h2⟩
        replace CA2 := hide CA2
        have hki : (k : Int) < c.length := by omega
        clear CA hbr hlk hlb
        generalize hnn : nbI c[k] = nn at *
        clear hnn
        go_wp2_with (first
          | (go_at_call 33; refine (unhide CN).mono ?_; rintro e w0 ⟨rfl, hw0⟩; subst w0)
          | (go_at_call 32; refine (unhide CA2).mono ?_; rintro e w1 ⟨g2, n2, c2, rfl, HX⟩))
        go_roundw
        case rel => exact ⟨k + 1, g2, n2, c2, by omega, by go_num, rfl, HX.out.1, HX.out.2⟩
        case measure => simp [intOf]; omega
      · have hte : c.take k = c := List.take_of_length_le (by omega)
        rw [hte] at hbr hkl
        have hki : ¬ (k : Int) < c.length := by omega
        have HBA2 := hide (hbr.kept (below_alloc wr (.cells #[.int .u8 0] 5)))
        have HBL2 := hide (hbel.alloc (Nat.le_trans hB hsz) (.cells #[.int .u8 0] 5))
        have HSRC2 := hide (one_src wr 0 0 rfl)
        have HBT := hide (fun k hk => (hbr.lt k hk).1)
        have HLN : Hid ((xs ++ [hdY true] ++ litsY c).length + 1 ≤ 140737488355328) := by show _ ≤ _; simp only [List.length_append, List.length_singleton]; omega
        clear hte hbr
        go_wp2_with (at_builtin; refine wpList_br_slice rfl _ _ 22 rfl B Tryd.underlying22 i0 hi hz0 hz1 hz2 (.slice (some ⟨g1, 0, none⟩) n1 c1) _ [0] rfl HBA2.out HLN.out (by simp; omega) ⟨wr.heap.size, 0, none⟩ 1 1 rfl rfl HSRC2.out ?_; intro v2 w2 hbr2 hgr2)
        go_ret
        exact ⟨_, rfl, by rw [HST.out]; simpa using hbr2, HBL2.out.grown hgr2 (by simp; omega) HBT.out⟩

end Go.Proofs.YtgklollpajhmlaaDoor
