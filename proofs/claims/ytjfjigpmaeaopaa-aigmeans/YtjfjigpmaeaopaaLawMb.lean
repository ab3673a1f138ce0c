/- The law of meaning, walked. -/
import Derived.Test.YtjfjigpmaeaopaaLawM
set_option linter.unusedVariables false
set_option linter.unusedSimpArgs false
namespace Go.Proofs.Ytjfjigpmaeaopaa
open Go.RowKit Go.Maps

theorem int_src (W : World) (x : Int) : ∀ j u, ([Value.int .i64 x] : List Value)[j]? = some u → (W.alloc (.cells #[.int .i64 x] 3)).cell? ((⟨W.heap.size, 0, none⟩ : Addr).add j) = some u :=
  World.news_of_block (cs := #[.int .i64 x]) (t := 3) (fr := (0, 0)) (heap_alloc_new W _)
def icl (l : List Int) : List Value := l.map (.int .i64)
theorem icl_snoc (l : List Int) (x : Int) : icl (l ++ [x]) = icl l ++ [.int .i64 x] := by simp [icl]
theorem row_own {w : World} {base q n c : Nat} {l : List Int} (h : w.ownsRow base 3 1 (.slice (some ⟨q, 0, none⟩) n c) n (icl l)) : n = l.length ∧ Row w (some ⟨q, 0, none⟩) l ∧ n ≤ c ∧ q < w.heap.size := by
  have hl : (icl l).length = n * 1 := h.1
  have e : l.length = n := by simpa [icl] using hl
  refine ⟨e.symm, fun i hi => ⟨q, 0, rfl, (h.lt q rfl).2, ?_⟩, ?_, (h.lt q rfl).2⟩
  · have := h.cells (g := q) rfl i (.int .i64 l[i]) (by simp [icl, hi])
    rw [Addr.add_lit] at this
    exact this
  · rcases h.2 with ⟨e, _⟩ | ⟨g', cap, cur, e, _, _, hn, _⟩
    · simp at e
    · simp at e
      obtain ⟨_, rfl⟩ := e
      exact hn
/-- Behind the append. -/
theorem in_grow' {w W W1 : World} {base q c k : Nat} {xs : List Value} {x : Int} (hb : Below base w W) (hbs : base ≤ W.heap.size) (ho : W.ownsRow base 3 1 (.slice (some ⟨q, 0, none⟩) k c) k xs) (hg : (W.alloc (.cells #[.int .i64 x] 3)).grownBy W1 (Value.slice (some ⟨q, 0, none⟩) k c).ownBlock) : Below base w W1 :=
  (hb.alloc hbs _).grown hg (by simp; omega) (fun b e => by have h := row_base ho; simp only [Value.ownBlock, Option.some.injEq] at e; omega)

/-- Behind the evaluation: the rows that the law still reads. -/
structure Me (w W : World) (q T qv : Nat) (qs told : List Int) (V : List Bool) : Prop where
  bel : Below w.heap.size w W
  rq : Row W (some ⟨q, 0, none⟩) qs
  rt : Row W (some ⟨T, 0, none⟩) told
  rv : Vs W (some ⟨qv, 0, none⟩) V
theorem Me.below {w W W1 : World} {q T qv : Nat} {qs told : List Int} {V : List Bool} (h : Me w W q T qv qs told V) (hb : Below W.heap.size W W1) : Me w W1 q T qv qs told V :=
  ⟨h.bel.trans (hb.mono h.bel.size), h.rq.below hb, h.rt.below hb, h.rv.below hb⟩
theorem Me.drewN {w W : World} {q T qv : Nat} {qs told : List Int} {V : List Bool} (h : Me w W q T qv qs told V) (n : Nat) : Me w (W.drewN n) q T qv qs told V := h.below (below_drewN (Below.refl _ _) n)
theorem row5 (W : World) (a b c d e : Int) : Row (W.alloc (.cells #[.int .i64 a, .int .i64 b, .int .i64 c, .int .i64 d, .int .i64 e] 3)) (some ⟨W.heap.size, 0, none⟩) [a, b, c, d, e] := by
  intro k hk
  have h := (MapKept.heap_alloc W (.cells #[.int .i64 a, .int .i64 b, .int .i64 c, .int .i64 d, .int .i64 e] 3)).1
  refine ⟨_, 0, rfl, by simp, ?_⟩
  simp only [List.length_cons, List.length_nil] at hk
  match k, hk with
  | 0, _ => simp only [World.cell?, h]; rfl
  | 1, _ => simp only [World.cell?, h]; rfl
  | 2, _ => simp only [World.cell?, h]; rfl
  | 3, _ => simp only [World.cell?, h]; rfl
  | 4, _ => simp only [World.cell?, h]; rfl

theorem vs5 (W : World) (a b c d e : Bool) (L : List Bool) (hL : L = [a, b, c, d, e]) : Vs (W.alloc (.cells #[.bool a, .bool b, .bool c, .bool d, .bool e] 4)) (some ⟨W.heap.size, 0, none⟩) L := by
  subst hL
  intro k hk
  have h := (MapKept.heap_alloc W (.cells #[.bool a, .bool b, .bool c, .bool d, .bool e] 4)).1
  refine ⟨_, 0, rfl, by simp, ?_⟩
  simp only [List.length_cons, List.length_nil] at hk
  match k, hk with
  | 0, _ => simp only [World.cell?, h]; rfl
  | 1, _ => simp only [World.cell?, h]; rfl
  | 2, _ => simp only [World.cell?, h]; rfl
  | 3, _ => simp only [World.cell?, h]; rfl
  | 4, _ => simp only [World.cell?, h]; rfl

set_option maxHeartbeats 8000000 in
set_option maxRecDepth 100000 in
theorem means_any (w : World) (al : Option Addr) (cap : Nat) (l : List ActD) (hla : Acts w al l) (hll : l.length ≤ maxLen) (ai : Option Addr) (ci : Nat) (ins : List Bool) (hi : Vs w ai ins) (hil : ins.length ≤ maxLen)
    (ap : Option Addr) (cp : Nat) (p : List Int) (hp : Row w ap p) (hpl : p.length ≤ maxLen) (hp64 : ∀ x ∈ p, inI64 x) :
    Calls Try.prog 5 #[.slice al l.length cap, .slice ai ins.length ci, .slice ap p.length cp] w fun e w' => e = .returned (.bool true) ∧ Below w.heap.size w w' := by
  have GP := hide (play_any w al cap l hla hll)
  have hgr := (play_grow (l.take 25) (g := []) (fun i hi => by simp at hi) (fun i hi => by simp at hi))
  have hg75 : (playF [] (l.take 25)).length ≤ 75 := by
    have := hgr.1.len.2
    simp at this; omega
  have HMAY := hide hgr.1.may
  have HIN := hide hi
  have HP := hide hp
  have HP64 := hide hp64
  clear hla hgr hi hp hp64
  unfold PlayP at GP
  generalize playF [] (l.take 25) = g at *
  generalize l.length = L at *
  have AW : Hid (∀ W, Calls Try.prog 13 #[] W fun e w' => e = .returned (.bool true) ∧ Below W.heap.size W w') := fun W => awake_any W
  unfold maxLen at hpl hil
  go_enter Try.func5, Try.ntmps5
  by_cases h20 : 20 < p.length
  · have d20 : decide (20 < (p.length : Int)) = true := by simp; omega
    go_upto_region 3 with (first | (go_at_call 8; refine (unhide GP).mono ?_; rintro e w1 ⟨B, M, v, q, off, cq, rfl, hpl1⟩; have HBL := hide hpl1.bel))
    go_wp2_with (first | (go_at_call 13; refine (unhide AW _).mono ?_; rintro e w6 ⟨rfl, hb6⟩))
    go_ret
    exact ⟨by first | rfl | simp, HBL.out.trans (hb6.mono HBL.out.size)⟩
  have d20 : decide (20 < (p.length : Int)) = false := by simp; omega
  have hp20 : p.length ≤ 20 := by omega
  go_upto_region 4 with (first | (go_at_call 8; refine (unhide GP).mono ?_; rintro e w1 ⟨B, M, v, q0, off0, cq0, rfl, hpl1⟩))
  have HPL := hide hpl1
  have LN : Hid (∀ W, Below w1.heap.size w1 W → Calls Try.prog 11 #[.pointer (some ⟨B, 0, none⟩)] W fun e w' => e = .returned (.int .i64 (g.length : Int)) ∧ w' = W) := fun W hW => len_any W B M v g (hpl1.gr.below hW)
  clear hpl1 GP
  go_upto_region 6 with (first | (go_at_call 11; refine (unhide LN _ (Below.refl _ _)).mono ?_; rintro e w4 ⟨rfl, hw4⟩; subst w4))
  obtain ⟨i0, hi0, hz0, hz1, hz2⟩ := info_parts Try.info3
  have HO0 : Hid ((w1.alloc (.cells #[] 3)).ownsRow w1.heap.size 3 1 (.slice (some ⟨w1.heap.size, 0, none⟩) 0 0) 0 (icl (takeF (2 * (g.length : Int) + 2) (p.take 0)))) := lit0 w1 3 1
  have HB0 : Hid (Below w1.heap.size w1 (w1.alloc (.cells #[] 3))) := below_alloc _ _
  have hn1 : (0 : Int) < 2 * (g.length : Int) + 2 := by omega
  have hn2 : 2 * (g.length : Int) + 2 ≤ 152 := by omega
  go_wp2
  refine forget (P := fun W => Code.wp Try.prog _ _ _ W) (fun W => Hid (W.ownsRow w1.heap.size 3 1 (.slice (some ⟨w1.heap.size, 0, none⟩) 0 0) 0 (icl (takeF (2 * (g.length : Int) + 2) (p.take 0)))) ∧ Hid (Below w1.heap.size w1 W)) ⟨HO0, HB0⟩ ?_
  clear HO0 HB0
  rintro W0 ⟨HO0, HB0⟩
  generalize hNN : w1.heap.size = N at *
  have HNN := hide hNN
  clear hNN
  go_loopw [11, 12] (fun y i W => ∃ (k q m cq : Nat), k ≤ p.length ∧ i = .int .i64 (k : Int) ∧ y = .slice (some ⟨q, 0, none⟩) m cq ∧ m ≤ k ∧ Hid (W.ownsRow N 3 1 (.slice (some ⟨q, 0, none⟩) m cq) m (icl (takeF (2 * (g.length : Int) + 2) (p.take k)))) ∧ Hid (Below N w1 W)) (fun _ i _ => p.length - (intOf i).toNat)
  case atStart => exact ⟨0, N, 0, 0, Nat.zero_le _, rfl, rfl, Nat.le_refl _, HO0, HB0⟩
  case round =>
    clear HO0 HB0
    obtain ⟨k, q, m, cq, hk, rfl, rfl, hmk, HO, HB⟩ := hrel
    have hNw : N ≤ wr.heap.size := by have := HB.out.size; have := HNN.out; omega
    by_cases hlt : k < p.length
    · have hbw : Below w.heap.size w wr := HPL.out.bel.trans (HB.out.mono (by have := HPL.out.bel.size; have := HNN.out; omega))
      obtain ⟨bp, op, rfl, hbp, hcp⟩ := (HP.out.below hbw) k hlt
      have hpx := HP64.out p[k] (List.getElem_mem hlt)
      have hsn := take_snoc (2 * (g.length : Int) + 2) (p.take k) p[k]
      rw [← List.take_succ_eq_append_getElem hlt] at hsn
      have HSN := hide hsn
      clear hsn hbw
      generalize p[k] = x at *
      generalize takeF (2 * (g.length : Int) + 2) (p.take k) = qs at *
      by_cases hx0 : 0 ≤ x
      · have hm1 := Int.emod_nonneg x (b := 2 * (g.length : Int) + 2) (by omega)
        have hx64 := hpx.2
        rw [if_pos hx0] at HSN
        go_upto_region 10 with fail
        have hne : ¬ (2 * (g.length : Int) + 2 = 0) := by omega
        have hm2 := Int.emod_lt_of_pos x (b := 2 * (g.length : Int) + 2) (by omega)
        go_wp2_with (first
          | (at_builtin; refine wpList_append_lies _ rfl _ _ 48 rfl N 3 i0 (.int .i64 0) 1 8 Try.underlying48 hi0 hz0 hz1 hz2 rfl (by decide) (.slice (some ⟨q, 0, none⟩) m cq) m _ rfl (HO.out.alloc _) ⟨wr.heap.size, 0, none⟩ 1 1 [.int .i64 (x % (2 * (g.length : Int) + 2))] rfl rfl (int_src wr _) (by simp [Value.oneCell']) (by decide) (by unfold maxLen; omega) (by omega) (by simp; omega) (wr.heap.size + 1) (by simp) ?_; intro g1 cap1 w4 hown4 hgrow4 hat4 hlt4))
        have HB4 := hide (in_grow' HB.out hNw HO.out hgrow4)
        rw [← icl_snoc] at hown4
        go_roundw
        case rel => exact ⟨k + 1, g1, m + 1, cap1, by omega, by go_num, rfl, by omega, by rw [HSN.out]; exact hown4, HB4⟩
        case measure => simp [intOf]; omega
      · rw [if_neg hx0] at HSN
        go_wp2
        go_roundw
        case rel => exact ⟨k + 1, q, m, cq, by omega, by go_num, rfl, by omega, by rw [HSN.out]; exact HO, HB⟩
        case measure => simp [intOf]; omega
    · have hke : k = p.length := by omega
      subst hke
      rw [List.take_length] at HO
      have hlits := take_lit (g := g) (p := p)
      have hqsl := take_len (2 * (g.length : Int) + 2) p
      generalize takeF (2 * (g.length : Int) + 2) p = qs at *
      obtain ⟨r1, r2, r3, r4⟩ := row_own HO.out
      subst r1
      have hlow := HPL.out.gr.lt
      have hap : ¬ Sv B M v q := by
        have hb := row_base HO.out
        have := HNN.out
        rintro (e | e | e)
        · omega
        · omega
        · have := hlow.2.2 _ e; omega
      have hB1 : Below w1.heap.size w1 wr := by rw [HNN.out]; exact HB.out
      have HMS : Hid (Ms w wr B M v q qs g) := ⟨HPL.out.gr.below hB1, r2, hap, r4, HPL.out.bel.trans (hB1.mono HPL.out.bel.size), HPL.out.lo⟩
      have HLIT := hide hlits
      clear HO HB r2 r3 r4 hlow hap hB1 HPL HP HP64 HNN LN hlits hNw hmk
      by_cases h3 : qs.length < 3
      · go_wp2_with (first | (go_at_call 13; refine (unhide AW _).mono ?_; rintro e w6 ⟨rfl, hb6⟩))
        go_ret
        exact ⟨rfl, HMS.out.bel.trans (hb6.mono HMS.out.bel.size)⟩
      · go_upto_region 13 with fail
        obtain ⟨_, _, ee, _, x0⟩ := HMS.out.row 0 (by omega)
        cases ee
        obtain ⟨_, _, ee, _, x1⟩ := HMS.out.row 1 (by omega)
        cases ee
        obtain ⟨_, _, ee, _, x2⟩ := HMS.out.row 2 (by omega)
        cases ee
        have ha := HLIT.out qs[0] (List.getElem_mem (by omega))
        have hb := HLIT.out qs[1] (List.getElem_mem (by omega))
        have hc := HLIT.out qs[2] (List.getElem_mem (by omega))
        generalize qs[0] = a at *
        generalize qs[1] = b at *
        generalize qs[2] = c at *
        have MA := made_all HMAY.out ins ha hb hc HLIT.out
        obtain ⟨⟨m1, m2, m3, m4, m5⟩, ⟨l1, l2, l3, l4, l5⟩, ⟨p1, p2, p3, p4, p5⟩, hval⟩ := MA
        have ia := (lit_i64 ha (by omega)).1
        have ib := (lit_i64 hb (by omega)).1
        have ic := (lit_i64 hc (by omega)).1
        have C1 : Hid (∀ W v, Ms w W B M v q qs g → Calls Try.prog 20 #[.pointer (some ⟨B, 0, none⟩), .int .i64 a, .int .i64 b] W (ActP W B M v (mk1 g a b))) := fun W v h => and_any W B M v g a b h.gr (by omega)
        have C2 : Hid (∀ W v, Ms w W B M v q qs (mk1 g a b).1 → Calls Try.prog 22 #[.pointer (some ⟨B, 0, none⟩), .int .i64 a, .int .i64 b] W (ActP W B M v (mk2 g a b))) := fun W v h => or_any W B M v _ a b h.gr (by omega) ia ib
        have C3 : Hid (∀ W v, Ms w W B M v q qs (mk2 g a b).1 → Calls Try.prog 23 #[.pointer (some ⟨B, 0, none⟩), .int .i64 a, .int .i64 b] W (ActP W B M v (mk3 g a b))) := fun W v h => xor_any W B M v _ a b h.gr (by omega) ia ib
        have C4 : Hid (∀ W v, Ms w W B M v q qs (mk3 g a b).1 → Calls Try.prog 24 #[.pointer (some ⟨B, 0, none⟩), .int .i64 c, .int .i64 a, .int .i64 b] W (ActP W B M v (mk4 g a b c))) := fun W v h => ite_any W B M v _ c a b h.gr (by omega) ic
        have C5 : Hid (∀ W v, Ms w W B M v q qs (mk4 g a b c).1 → Calls Try.prog 25 #[.pointer (some ⟨B, 0, none⟩), .slice (some ⟨q, 0, none⟩) qs.length cq] W (ActP W B M v (mk5 g a b c qs))) := fun W v h => all_any W B M v _ _ cq qs h.gr (by omega) h.row (fun b o e => by cases e; exact h.apart)
        have HVAL := hide hval
        have HM5 := hide m5
        clear m1 m2 m3 m4 m5 ia ib ic ha hb hc hval HLIT HMAY
        generalize mk5 g a b c qs = R5 at *
        generalize mk4 g a b c = R4 at *
        generalize mk3 g a b = R3 at *
        generalize mk2 g a b = R2 at *
        generalize mk1 g a b = R1 at *
        obtain ⟨g1, r1⟩ := R1
        obtain ⟨g2, r2⟩ := R2
        obtain ⟨g3, r3⟩ := R3
        obtain ⟨g4, r4⟩ := R4
        obtain ⟨g5, r5⟩ := R5
        dsimp only at *
        have HMS0 := hide (fun n => HMS.out.below (below_drewN (Below.refl _ _) n))
        go_wp2
        go_quiet (fail)
        go_upto_region 14 with fail
        refine forget (P := fun W => Code.wp Try.prog _ _ _ W) (fun W => Hid (Ms w W B M v q qs g)) (HMS0.out _) ?_
        clear HMS HMS0 x0 x1 x2
        intro W1 HMS
        go_upto_region 15 with (first
          | (go_at_call 25; refine (unhide C5 _ _ H4).mono ?_; rintro e w6 ⟨rfl, hgp⟩; obtain ⟨v5, H5⟩ := H4.act hgp; clear hgp)
          | (go_at_call 24; refine (unhide C4 _ _ H3).mono ?_; rintro e w5 ⟨rfl, hgp⟩; obtain ⟨v4, H4⟩ := H3.act hgp; clear hgp)
          | (go_at_call 23; refine (unhide C3 _ _ H2).mono ?_; rintro e w4 ⟨rfl, hgp⟩; obtain ⟨v3, H3⟩ := H2.act hgp; clear hgp)
          | (go_at_call 22; refine (unhide C2 _ _ H1).mono ?_; rintro e w3 ⟨rfl, hgp⟩; obtain ⟨v2, H2⟩ := H1.act hgp; clear hgp)
          | (go_at_call 20; refine (unhide C1 _ _ HMS.out).mono ?_; rintro e w2 ⟨rfl, hgp⟩; obtain ⟨v1, H1⟩ := HMS.out.act hgp; clear hgp))
        have hba := below_alloc w6 (.cells #[.int .i64 r1, .int .i64 r2, .int .i64 r3, .int .i64 r4, .int .i64 r5] 3)
        refine forget (P := fun W => Code.wp Try.prog _ _ _ W) (fun W => Hid (Ms w W B M v5 q qs g5) ∧ Hid (Row W (some ⟨w6.heap.size, 0, none⟩) [r1, r2, r3, r4, r5])) ⟨H5.below hba, row5 w6 r1 r2 r3 r4 r5⟩ ?_
        clear hba C1 C2 C3 C4 C5 H1 H2 H3 H4 H5 HMS
        rintro W7 ⟨H7, HT⟩
        generalize w6.heap.size = T at *
        have ND : Hid (Calls Try.prog 10 #[.pointer (some ⟨B, 0, none⟩)] W7 (NewG W7 g5)) := nodes_any W7 B M v5 g5 H7.out.gr
        have EV : Hid (∀ W al cap, Below w.heap.size w W → GS W al g5 → Calls Try.prog 15 #[.slice al g5.length cap, .slice ai ins.length ci] W (EvP W (allV ins g5))) := fun W al cap hW hg => eval_any W al cap g5 hg (by omega) HM5.out ai ci ins (HIN.out.below hW) (by unfold maxLen; omega)
        have HBW := hide (fun (W : World) (h : Below W7.heap.size W7 W) => H7.out.bel.trans (h.mono H7.out.bel.size))
        have hvlen := allV_len ins g5
        have hvl : (allV ins g5).length ≤ 1000 := by rw [hvlen]; omega
        clear hvlen
        generalize allV ins g5 = V at *
        go_upto_region 16 with (first
          | (go_at_call 10; refine (unhide ND).mono ?_; rintro e w8 ⟨al8, ca8, rfl, s1, s2, s3⟩)
          | (go_at_call 15; refine (unhide EV _ _ _ (HBW.out _ s2) s1).mono ?_; rintro e w9 ⟨qv, cv, rfl, u1, u2⟩))
        have hb79 : Below W7.heap.size W7 w9 := s2.trans (u2.mono s2.size)
        refine forget (P := fun W => Code.wp Try.prog _ _ _ W) (fun W => Hid (Me w W q T qv qs [r1, r2, r3, r4, r5] V)) ⟨HBW.out _ hb79, H7.out.row.below hb79, HT.out.below hb79, u1⟩ ?_
        clear hb79 s1 s2 s3 u1 u2 H7 HT ND EV HBW HM5 HIN
        intro W10 HE
        have VC : Hid (∀ W l, Me w W q T qv qs [r1, r2, r3, r4, r5] V → Calls Try.prog 18 #[.slice (some ⟨qv, 0, none⟩) V.length cv, .int .i64 l] W fun e w' => e = .returned (.bool (valF V l)) ∧ ∃ n, w' = W.drewN n) := fun W l h => value_any W _ cv V l h.rv hvl
        go_upto_region 17 with (first
          | (go_at_call 18; refine (unhide VC _ _ (HE.out.drewN n1)).mono ?_; rintro e w11 ⟨rfl, n2, hw11⟩; subst w11)
          | (go_at_call 18; refine (unhide VC _ _ HE.out).mono ?_; rintro e w11 ⟨rfl, n1, hw11⟩; subst w11))
        refine forget (P := fun W => Code.wp Try.prog _ _ _ W) (fun W => Hid (Me w W q T qv qs [r1, r2, r3, r4, r5] V)) (HE.out.drewN _) ?_
        clear HE
        intro W12 HE
        have hallE : (qs.all fun k => valF V k) = qs.all (valF V) := rfl
        rw [hallE] at HVAL
        generalize hs : valF V a = s at *
        generalize ht : valF V b = t at *
        go_wp2
        go_loopw [20, 21] (fun y i W => ∃ k : Nat, k ≤ qs.length ∧ i = .int .i64 (k : Int) ∧ y = .bool ((qs.take k).all (valF V)) ∧ Hid (Me w W q T qv qs [r1, r2, r3, r4, r5] V)) (fun _ i _ => qs.length - (intOf i).toNat)
        case atStart => exact ⟨0, Nat.zero_le _, rfl, rfl, HE⟩
        case round =>
          clear HE
          obtain ⟨k, hk, rfl, rfl, HE⟩ := hrel
          by_cases hlt : k < qs.length
          · obtain ⟨_, _, ee, _, z0⟩ := HE.out.rq k hlt
            cases ee
            rw [Nat.zero_add] at z0
            have hsn : (qs.take (k + 1)).all (valF V) = ((qs.take k).all (valF V) && valF V qs[k]) := by rw [List.take_succ_eq_append_getElem hlt, List.all_append]; simp
            have HSN := hide hsn
            clear hsn
            generalize qs[k] = y at *
            cases hA : (qs.take k).all (valF V) with
            | false =>
              rw [hA] at HSN
              go_wp2
              go_roundw
              case rel => exact ⟨k + 1, by omega, by go_num, by rw [HSN.out]; rfl, HE⟩
              case measure => simp [intOf]; omega
            | true =>
              rw [hA] at HSN
              go_wp2_with (first
                | (go_at_call 18; refine (unhide VC _ _ HE.out).mono ?_; rintro e w11 ⟨rfl, n1, hw11⟩; subst w11))
              go_roundw
              case rel => exact ⟨k + 1, by omega, by go_num, by rw [HSN.out]; simp, HE.out.drewN _⟩
              case measure => simp [intOf]; omega
          · have hke : k = qs.length := by omega
            have hall : (qs.take k).all (valF V) = qs.all (valF V) := by rw [hke, List.take_length]
            rw [hall]
            have hnk : ¬ ((k : Int) < (qs.length : Int)) := by omega
            clear hall hke hk hlt
            generalize qs.all (valF V) = al5 at *
            cases hcv : valF V c
            all_goals
              rw [hcv] at HVAL
              simp only [Bool.false_eq_true, if_false, if_true] at HVAL
              go_upto_region 25 with (first
                | (go_at_call 18; refine (unhide VC _ _ HE.out).mono ?_; rintro e w11 ⟨rfl, n1, hw11⟩; subst w11))
              refine forget (P := fun W => Code.wp Try.prog _ _ _ W) (fun W => Hid (Me w W q T qv qs [r1, r2, r3, r4, r5] V)) (HE.out.drewN _) ?_
              clear HE
              intro W13 HE
              cases s
              all_goals
                go_upto_region 26 with fail
                refine forget (P := fun W => Code.wp Try.prog _ _ _ W) (fun W => Hid (Me w W q T qv qs [r1, r2, r3, r4, r5] V) ∧ Hid (Vs W (some ⟨W13.heap.size, 0, none⟩) ([r1, r2, r3, r4, r5].map (valF V)))) ⟨HE.out.below (below_alloc _ _), vs5 W13 _ _ _ _ _ _ (by obtain ⟨e1, e2, e3, e4, e5⟩ := HVAL.out; simp only [List.map_cons, List.map_nil, e1, e2, e3, e4, e5]; simp)⟩ ?_
                clear HE
                rintro W14 ⟨HE, HWT⟩
                generalize W13.heap.size = X at *
                have hpos : ∀ x ∈ [r1, r2, r3, r4, r5], 0 ≤ x := by simp; omega
                have HPOS := hide hpos
                clear hpos HVAL
                have h5 : [r1, r2, r3, r4, r5].length = 5 := rfl
                generalize [r1, r2, r3, r4, r5] = told at *
                go_wp2
                go_loopw [24] (fun i W => ∃ k : Nat, k ≤ 5 ∧ i = .int .i64 (k : Int) ∧ Hid (Me w W q T qv qs told V) ∧ Hid (Vs W (some ⟨X, 0, none⟩) (told.map (valF V)))) (fun i _ => (5 - intOf i).toNat)
                case atStart => exact ⟨0, Nat.zero_le _, rfl, HE, HWT⟩
                case round =>
                  clear HE HWT
                  obtain ⟨k, hk, rfl, HE, HWT⟩ := hrel
                  by_cases hlt : k < 5
                  · obtain ⟨_, _, ee, _, z0⟩ := HE.out.rt k (by omega)
                    cases ee
                    obtain ⟨_, _, ee, _, z1⟩ := HWT.out k (by rw [List.length_map]; omega)
                    cases ee
                    rw [Nat.zero_add] at z0 z1
                    rw [List.getElem_map] at z1
                    have hr0 := HPOS.out told[k] (List.getElem_mem (by omega))
                    generalize told[k] = r at *
                    have hrn : decide (r < 0) = false := by simp; omega
                    have VR : Hid (∀ n, Calls Try.prog 18 #[.slice (some ⟨qv, 0, none⟩) V.length cv, .int .i64 r] (wr.drewN n) fun e w' => e = .returned (.bool (valF V r)) ∧ ∃ m, w' = (wr.drewN n).drewN m) := fun n => VC.out _ r (HE.out.drewN n)
                    generalize valF V r = x at *
                    have hxx : (x != x) = false := by cases x <;> rfl
                    go_wp2
                    go_quiet ((go_at_call 18; exact Calls.quiet_of (unhide VR _)))
                    go_wp2
                    go_roundw
                    case rel => exact ⟨k + 1, by omega, by go_num, HE.out.drewN _, HWT.out.below (below_drewN (Below.refl _ _) _)⟩
                    case measure => simp [intOf]; omega
                  · have hnk2 : ¬ ((k : Int) < 5) := by omega
                    go_wp2_with (first | (go_at_call 13; refine (unhide AW _).mono ?_; rintro e w6 ⟨rfl, hb6⟩))
                    go_ret
                    exact ⟨rfl, HE.out.bel.trans (hb6.mono HE.out.bel.size)⟩
end Go.Proofs.Ytjfjigpmaeaopaa
