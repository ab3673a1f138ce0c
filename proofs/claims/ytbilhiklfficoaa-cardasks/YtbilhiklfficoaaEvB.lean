/- Contract: Eval. -/
import Derived.Test.YtbilhiklfficoaaEvA
import Derived.Laws.MakeOwn
set_option linter.unusedVariables false
set_option linter.unusedSimpArgs false
namespace Go.Proofs.Ytbilhiklfficoaa
open Go.RowKit Go.Maps

theorem Try.info4 : (Try.prog.info? 4).map (fun i => (i.zero, i.size, i.bytes)) = some (some (.bool false), 1, 1) := by kernel_rfl
def bcl (v : List Bool) : List Value := v.map .bool
theorem cnt_snoc : ∀ (g : List Gt) (t : Gt) (n : Nat), cntF (g ++ [t]) n = nextF (cntF g n) t
  | [], t, n => rfl
  | u :: g, t, n => cnt_snoc g t _
theorem cnt_le : ∀ (g : List Gt) (n : Nat), cntF g n ≤ n + g.length
  | [], n => by simp [cntF]
  | u :: g, n => by
    have := cnt_le g (nextF n u)
    have h2 : nextF n u ≤ n + 1 := by unfold nextF; split <;> omega
    simp only [cntF, List.length_cons]; omega
theorem vs_own {w : World} {base q n c : Nat} {v : List Bool} (h : w.ownsRow base 4 1 (.slice (some ⟨q, 0, none⟩) n c) n (bcl v)) : n = v.length ∧ Vs w (some ⟨q, 0, none⟩) v ∧ n ≤ c := by
  have hl : (bcl v).length = n * 1 := h.1
  have e : v.length = n := by simpa [bcl] using hl
  refine ⟨e.symm, fun i hi => ⟨q, 0, rfl, (h.lt q rfl).2, ?_⟩, ?_⟩
  · have := h.cells (g := q) rfl i (.bool v[i]) (by simp [bcl, hi])
    rw [Addr.add_lit] at this
    exact this
  · rcases h.2 with ⟨e, _⟩ | ⟨g', cap, cur, e, _, _, hn, _⟩
    · simp at e
    · simp at e
      obtain ⟨_, rfl⟩ := e
      exact hn
theorem bool_src (W : World) (x : Bool) : ∀ j u, ([Value.bool x] : List Value)[j]? = some u → (W.alloc (.cells #[.bool x] 4)).cell? ((⟨W.heap.size, 0, none⟩ : Addr).add j) = some u :=
  World.news_of_block (cs := #[.bool x]) (t := 4) (fr := (0, 0)) (heap_alloc_new W _)
theorem row_base {base : Nat} {w : World} {e : TypeId} {s q n c m : Nat} {xs : List Value} (h : w.ownsRow base e s (.slice (some ⟨q, 0, none⟩) n c) m xs) : base ≤ q := by
  rcases h.2 with ⟨hn, _⟩ | ⟨g, cap, cur, e', h1, hg, r⟩
  · cases hn
  · cases e'; exact h1
theorem bcl_snoc (v : List Bool) (x : Bool) : bcl (v ++ [x]) = bcl v ++ [.bool x] := by simp [bcl]
/-- Behind the append. -/
theorem ev_grow {w W W1 : World} {q c k : Nat} {vs : List Bool} {x : Bool} (hb : Below w.heap.size w W) (ho : W.ownsRow w.heap.size 4 1 (.slice (some ⟨q, 0, none⟩) k c) k (bcl vs)) (hg : (W.alloc (.cells #[.bool x] 4)).grownBy W1 (Value.slice (some ⟨q, 0, none⟩) k c).ownBlock) : Below w.heap.size w W1 :=
  (hb.alloc hb.size _).grown hg (by have := hb.size; simp; omega) (fun b e => by have h := row_base ho; simp only [Value.ownBlock, Option.some.injEq] at e; omega)
theorem row_below {base : Nat} {w w' : World} {e : TypeId} {s : Nat} {v : Value} {n : Nat} {xs : List Value} (h : w.ownsRow base e s v n xs) (hb : Below w.heap.size w w') : w'.ownsRow base e s v n xs := by
  refine ⟨h.1, ?_⟩
  rcases h.2 with hn | ⟨g, cap, cur, e', h1, hg, r⟩
  · exact .inl hn
  · exact .inr ⟨g, cap, cur, e', h1, (hb.block g (lt_of_block hg)).trans hg, r⟩

/-- What Eval tells. -/
def EvP (w : World) (vs : List Bool) (e : Ending) (w' : World) : Prop := ∃ q cap, e = .returned (.slice (some ⟨q, 0, none⟩) vs.length cap) ∧ Vs w' (some ⟨q, 0, none⟩) vs ∧ Below w.heap.size w w'

set_option maxHeartbeats 4000000 in
set_option maxRecDepth 100000 in
theorem eval_any (w : World) (al : Option Addr) (cap : Nat) (g : List Gt) (hs : GS w al g) (hl : g.length ≤ 1000000) (hm : May g) (ai : Option Addr) (ci : Nat) (ins : List Bool) (hi : Vs w ai ins) (hil : ins.length ≤ maxLen) :
    Calls Try.prog 12 #[.slice al g.length cap, .slice ai ins.length ci] w (EvP w (allV ins g)) := by
  have CK := hide (check_any w al cap g hs hl hm)
  have HGS := hide hs
  have HIN := hide hi
  have HMAY := hide hm
  unfold maxLen at hil
  have IS : Hid (∀ W a b, Calls Try.prog 33 #[.agg #[.int .i64 a, .int .i64 b]] W fun e w' => e = .returned (.bool (isInB (a, b))) ∧ Below W.heap.size W w') := fun W a b => isInput_any W a b
  clear hs hi hm
  go_enter Try.func12, Try.ntmps12
  go_upto_region 3 with (first | (go_at_call 32; refine (unhide CK).mono ?_; rintro e w1 ⟨rfl, hb1⟩))
  have HB1 := hide hb1
  clear hb1 CK
  obtain ⟨i0, hi0, hz0, hz1, hz2⟩ := info_parts Try.info4
  obtain ⟨w2, hmk, hown, hgr⟩ := run_make_own (P := Try.prog) w1 w.heap.size 23 4 i0 (.bool false) 1 Try.underlying23 hi0 hz0 hz1 .i64 .i64 g.length (by rw [hz2]; omega) (by unfold maxLen; omega) HB1.out.size
  have HB2 : Hid (Below w.heap.size w w2) := HB1.out.grown hgr HB1.out.size (fun k e => by cases e)
  have HOWN : Hid (w2.ownsRow w.heap.size 4 1 (.slice (some ⟨w1.heap.size, 0, none⟩) 0 g.length) 0 (bcl (allV ins (g.take 0)))) := hown
  clear hown hgr HB1
  go_upto_region 4 with fail
  clear hmk
  generalize w1.heap.size = Q at *
  go_wp2
  go_loopw [5, 6, 17] (fun y c i W => ∃ (k q cq : Nat), k ≤ g.length ∧ i = .int .i64 (k : Int) ∧ c = .int .i64 (cntF (g.take k) 0 : Int) ∧ y = .slice (some ⟨q, 0, none⟩) k cq ∧ Hid (W.ownsRow w.heap.size 4 1 (.slice (some ⟨q, 0, none⟩) k cq) k (bcl (allV ins (g.take k)))) ∧ Hid (Below w.heap.size w W)) (fun _ _ i _ => g.length - (intOf i).toNat)
  case atStart => exact ⟨0, Q, g.length, Nat.zero_le _, rfl, rfl, rfl, HOWN, HB2⟩
  case round =>
    clear HOWN HB2
    obtain ⟨k, q, cq, hk, rfl, rfl, rfl, HOWN, HB⟩ := hrel
    by_cases hlt : k < g.length
    · obtain ⟨qg, og, rfl, hq, z0, z1⟩ := (HGS.out.below HB.out) k hlt
      have hsn : allV ins (g.take (k + 1)) = allV ins (g.take k) ++ [bitF ins (allV ins (g.take k)) (cntF (g.take k) 0) (g[k].1, g[k].2)] := by rw [List.take_succ_eq_append_getElem hlt, allV_snoc]
      have hcn : cntF (g.take (k + 1)) 0 = nextF (cntF (g.take k) 0) (g[k].1, g[k].2) := by rw [List.take_succ_eq_append_getElem hlt, cnt_snoc]
      have hcl := cnt_le (g.take k) 0
      have hvl : (allV ins (g.take k)).length = k := by rw [allV_len]; simp; omega
      have htl : (g.take k).length = k := by simp; omega
      rw [htl] at hcl
      have HSN := hide hsn
      have HCN := hide hcn
      have HVL := hide hvl
      clear hsn hcn hvl htl
      generalize allV ins (g.take k) = vs at *
      generalize cntF (g.take k) 0 = n at *
      generalize g[k].1 = a at *
      generalize g[k].2 = b at *
      have hbx := box2 wr (.int .i64 a) (.int .i64 b) 60
      have k0 : (wr.alloc (.cells #[.int .i64 a, .int .i64 b] 60)).cell? ⟨wr.heap.size, 0, none⟩ = some (.int .i64 a) := hbx.1
      have k1 : (wr.alloc (.cells #[.int .i64 a, .int .i64 b] 60)).cell? ⟨wr.heap.size, 1, none⟩ = some (.int .i64 b) := hbx.2.1
      have hba := below_alloc wr (.cells #[.int .i64 a, .int .i64 b] 60)
      have HB1 := hide (HB.out.trans (hba.mono HB.out.size))
      have HO1 := hide (row_below HOWN.out hba)
      have HZ1 : Hid (wr.heap.size < (wr.alloc (.cells #[.int .i64 a, .int .i64 b] 60)).heap.size) := by unfold Hid; simp
      clear hbx hba
      go_upto_region 8 with fail
      refine forget (P := fun W => Code.wp Try.prog _ _ _ W) (fun W => (W.cell? ⟨wr.heap.size, 0, none⟩ = some (.int .i64 a) ∧ W.cell? ⟨wr.heap.size, 1, none⟩ = some (.int .i64 b)) ∧ Hid (Below w.heap.size w W) ∧ Hid (W.ownsRow w.heap.size 4 1 (.slice (some ⟨q, 0, none⟩) k cq) k (bcl vs)) ∧ Hid (wr.heap.size < W.heap.size)) ⟨⟨k0, k1⟩, HB1, HO1, HZ1⟩ ?_
      clear k0 k1 HB1 HO1 z0 z1 HB HOWN HZ1
      rintro W ⟨⟨k0, k1⟩, HB1, HO1, HZ1⟩
      generalize wr.heap.size = S at *
      cases hin : isInB (a, b) with
      | true =>
        have hbit : bitF ins vs n (a, b) = ins.getD n false := by unfold bitF; rw [hin]; rfl
        have hnx : nextF n (a, b) = n + 1 := by unfold nextF; rw [hin]; rfl
        rw [hbit] at HSN
        rw [hnx] at HCN
        go_upto_region 9 with (first | (go_at_call 33; refine (unhide IS _ _ _).mono ?_; rintro e w3 ⟨rfl, hb3⟩))
        have HB3 := hide (HB1.out.trans (hb3.mono HB1.out.size))
        have HO3 := hide (row_below HO1.out hb3)
        have hil2 := hil
        by_cases hni : n < ins.length
        · obtain ⟨bi, oi, rfl, hbi, ci1⟩ := (HIN.out.below HB3.out) n hni
          have hgd : ins.getD n false = ins[n] := by rw [List.getD_eq_getElem?_getD, List.getElem?_eq_getElem hni]; rfl
          rw [hgd] at HSN
          generalize ins[n] = x at *
          clear hgd hin hbit hnx k0 k1 HO1 HB1
          go_wp2_with (first | (at_builtin; refine wpList_append_lies _ rfl _ _ 23 rfl w.heap.size 4 i0 (.bool false) 1 1 Try.underlying23 hi0 hz0 hz1 hz2 rfl (by decide) (.slice (some ⟨q, 0, none⟩) k cq) k _ rfl (HO3.out.alloc _) ⟨w3.heap.size, 0, none⟩ 1 1 [.bool x] rfl rfl (bool_src w3 x) (by simp [Value.oneCell']) (by decide) (by unfold maxLen; omega) (by omega) (by have := HB3.out.size; simp; omega) (w3.heap.size + 1) (by simp) ?_; intro g1 cap1 w4 hown4 hgrow4 hat4 hlt4))
          have HB4 := hide (ev_grow HB3.out HO3.out hgrow4)
          rw [← bcl_snoc] at hown4
          go_roundw
          case rel => exact ⟨k + 1, g1, cap1, by omega, by go_num, by rw [HCN.out]; go_num, rfl, by rw [HSN.out]; exact hown4, HB4⟩
          case measure => simp [intOf]; omega
        · have hgd : ins.getD n false = false := by rw [List.getD_eq_getElem?_getD, List.getElem?_eq_none (by omega)]; rfl
          rw [hgd] at HSN
          have hd : decide ((n : Int) < ins.length) = false := by simp; omega
          clear hgd hin hbit hnx k0 k1 HO1 HB1
          go_wp2_with (first | (at_builtin; refine wpList_append_lies _ rfl _ _ 23 rfl w.heap.size 4 i0 (.bool false) 1 1 Try.underlying23 hi0 hz0 hz1 hz2 rfl (by decide) (.slice (some ⟨q, 0, none⟩) k cq) k _ rfl (HO3.out.alloc _) ⟨w3.heap.size, 0, none⟩ 1 1 [.bool false] rfl rfl (bool_src w3 false) (by simp [Value.oneCell']) (by decide) (by unfold maxLen; omega) (by omega) (by have := HB3.out.size; simp; omega) (w3.heap.size + 1) (by simp) ?_; intro g1 cap1 w4 hown4 hgrow4 hat4 hlt4))
          have HB4 := hide (ev_grow HB3.out HO3.out hgrow4)
          rw [← bcl_snoc] at hown4
          go_roundw
          case rel => exact ⟨k + 1, g1, cap1, by omega, by go_num, by rw [HCN.out]; go_num, rfl, by rw [HSN.out]; exact hown4, HB4⟩
          case measure => simp [intOf]; omega
      | false =>
        have hbit : bitF ins vs n (a, b) = (valF vs a && valF vs b) := by unfold bitF; rw [hin]; rfl
        have hnx : nextF n (a, b) = n := by unfold nextF; rw [hin]; rfl
        rw [hbit] at HSN
        rw [hnx] at HCN
        go_upto_region 11 with (first | (go_at_call 33; refine (unhide IS _ _ _).mono ?_; rintro e w3 ⟨rfl, hb3⟩))
        have HB3 := hide (HB1.out.trans (hb3.mono HB1.out.size))
        have HO3 := hide (row_below HO1.out hb3)
        have t0 := (hb3.cell (p := ⟨S, 0, none⟩) HZ1.out).trans k0
        have t1 := (hb3.cell (p := ⟨S, 1, none⟩) HZ1.out).trans k1
        have VL : Hid (∀ W l, Below w3.heap.size w3 W → Calls Try.prog 19 #[.slice (some ⟨q, 0, none⟩) k cq, .int .i64 l] W fun e w' => e = .returned (.bool (valF vs l)) ∧ ∃ n, w' = W.drewN n) := fun W l hW => by
          obtain ⟨e1, e2, e3⟩ := vs_own (row_below HO3.out hW)
          have := value_any W (some ⟨q, 0, none⟩) cq vs l e2 (by omega)
          rwa [← e1] at this
        clear hin hbit hnx k0 k1 HO1 HB1
        generalize hva : valF vs a = va at *
        generalize hvb : valF vs b = vb at *
        cases va with
        | false =>
          simp only [Bool.false_and] at HSN
          go_wp2_with (first
            | (go_at_call 19; refine (unhide VL _ _ (Below.refl _ _)).mono ?_; rintro e w5 ⟨rfl, nv1, hw5⟩; subst w5)
            | (at_builtin; refine wpList_append_lies _ rfl _ _ 23 rfl w.heap.size 4 i0 (.bool false) 1 1 Try.underlying23 hi0 hz0 hz1 hz2 rfl (by decide) (.slice (some ⟨q, 0, none⟩) k cq) k _ rfl ((row_below HO3.out (below_drewN (Below.refl _ _) nv1)).alloc _) ⟨w3.heap.size, 0, none⟩ 1 1 [.bool false] rfl rfl (bool_src (w3.drewN nv1) false) (by simp [Value.oneCell']) (by decide) (by unfold maxLen; omega) (by omega) (by have := HB3.out.size; simp; omega) (w3.heap.size + 1) (by simp) ?_; intro g1 cap1 w4 hown4 hgrow4 hat4 hlt4))
          have HB4 := hide (ev_grow (below_drewN HB3.out (nv1)) (row_below HO3.out (below_drewN (Below.refl _ _) (nv1))) hgrow4)
          rw [← bcl_snoc] at hown4
          go_roundw
          case rel => exact ⟨k + 1, g1, cap1, by omega, by go_num, by rw [HCN.out], rfl, by rw [HSN.out]; exact hown4, HB4⟩
          case measure => simp [intOf]; omega
        | true =>
          simp only [Bool.true_and] at HSN
          go_wp2_with (first
            | (go_at_call 19; refine (unhide VL _ _ (below_drewN (Below.refl _ _) nv1)).mono ?_; rintro e w6 ⟨rfl, nv2, hw6⟩; subst w6)
            | (go_at_call 19; refine (unhide VL _ _ (Below.refl _ _)).mono ?_; rintro e w5 ⟨rfl, nv1, hw5⟩; subst w5)
            | (at_builtin; refine wpList_append_lies _ rfl _ _ 23 rfl w.heap.size 4 i0 (.bool false) 1 1 Try.underlying23 hi0 hz0 hz1 hz2 rfl (by decide) (.slice (some ⟨q, 0, none⟩) k cq) k _ rfl ((row_below HO3.out (below_drewN (Below.refl _ _) (nv1 + nv2))).alloc _) ⟨w3.heap.size, 0, none⟩ 1 1 [.bool vb] rfl rfl (bool_src (w3.drewN (nv1 + nv2)) vb) (by simp [Value.oneCell']) (by decide) (by unfold maxLen; omega) (by omega) (by have := HB3.out.size; simp; omega) (w3.heap.size + 1) (by simp) ?_; intro g1 cap1 w4 hown4 hgrow4 hat4 hlt4))
          have HB4 := hide (ev_grow (below_drewN HB3.out (nv1 + nv2)) (row_below HO3.out (below_drewN (Below.refl _ _) (nv1 + nv2))) hgrow4)
          rw [← bcl_snoc] at hown4
          go_roundw
          case rel => exact ⟨k + 1, g1, cap1, by omega, by go_num, by rw [HCN.out], rfl, by rw [HSN.out]; exact hown4, HB4⟩
          case measure => simp [intOf]; omega
    · have hke : k = g.length := by omega
      subst hke
      rw [List.take_length] at HOWN
      obtain ⟨e1, e2, e3⟩ := vs_own HOWN.out
      have hfin : Hid (EvP w (allV ins g) (.returned (.slice (some ⟨q, 0, none⟩) g.length cq)) wr) := ⟨q, cq, by rw [← e1], e2, HB.out⟩
      clear e1 e2 e3 HOWN HB
      go_wp2
      go_ret
      exact hfin.out
end Go.Proofs.Ytbilhiklfficoaa
