/- Contracts: the best one is popped; one is pushed. -/
import Derived.Test.YtidhnmooloedmaaWalkE
set_option linter.unusedVariables false
set_option linter.unusedSimpArgs false
namespace Go.Proofs.Ytidhnmooloedmaa
open Go.RowKit

/-- A heap at rest, of the same scores and step, with what is said to be in it. -/
structure To (n : Nat) (s : HS) (f : Nat → Bool) (t : HS) : Prop where
  full : Full n t
  sc : t.sc = s.sc
  st : t.st = s.st
  inn : ∀ v, v ≤ n → inB t.pl v = f v

theorem Hp.setK {w : World} {B S P O c n : Nat} {s : HS} (h : Hp w B S P O c n s) {k : Nat} (hk : k ≤ s.k) : Hp (w.setCell ⟨B, 3, none⟩ (.slice (some ⟨O, 0, none⟩) k c)) B S P O c n { s with k := k } := by
  refine ⟨h.BS, h.BP, h.BO, h.SP, h.SO, h.PO, h.n20, (hd_set h.head).trans (by simp), h.rs.same (hd_far (Ne.symm h.BS)), h.rp.same (hd_far (Ne.symm h.BP)), ?_⟩
  obtain ⟨cur, a, b, d, e, f⟩ := h.ro.same (w' := w.setCell ⟨B, 3, none⟩ (.slice (some ⟨O, 0, none⟩) k c)) (hd_far (Ne.symm h.BO))
  exact ⟨cur, a, b, by show k ≤ c; omega, e, fun i hi => f i (by have : i < k := hi; omega)⟩

set_option maxHeartbeats 400000 in
theorem pop_none (w : World) (B S P O c n : Nat) (s : HS) (hA : Hp w B S P O c n s) (h : s.k = 0) : Calls Try.prog 11 #[.pointer (some ⟨B, 0, none⟩)] w fun e w' => e = .returned (.tuple #[.int .i64 0, .bool false]) ∧ w' = w := by
  have G := hide (best_none w B S P O c n s hA h)
  clear hA h
  go_enter Try.func11, Try.ntmps11
  go_wp2_with (first | (go_at_call 20; refine (unhide G).mono ?_; rintro e w0 ⟨rfl, hw0⟩; subst w0))
  all_goals
    go_ret2
    exact ⟨rfl, rfl⟩

def PopP (w : World) (B S P O c n : Nat) (s : HS) (e : Ending) (w' : World) : Prop :=
  e = .returned (.tuple #[.int .i64 (s.od 0 : Int), .bool true]) ∧ ∃ t, Hp w' B S P O c n t ∧ Kp (Of B S P O) w w' ∧ To n s (upd (inB s.pl) (s.od 0) false) t

set_option maxHeartbeats 1000000 in
theorem pop_some (w : World) (B S P O c n : Nat) (s : HS) (hA : Hp w B S P O c n s) (hF : Full n s) (hk : 0 < s.k) :
    Calls Try.prog 11 #[.pointer (some ⟨B, 0, none⟩)] w (PopP w B S P O c n s) := by
  have G := hide (best_some w B S P O c n s hA hk)
  have hn := hA.n20
  have hkn := hF.wf.kn
  obtain ⟨b1, b2, b3⟩ := hF.wf.at' 0 hk
  obtain ⟨l1, l2, l3⟩ := hF.wf.at' (s.k - 1) (by omega)
  have h1 := hA.setPl (i := s.od 0) b2 (-1)
  have h2 := h1.setK (k := s.k - 1) (by show s.k - 1 ≤ s.k; omega)
  have K2 := ((Kp.refl (Of B S P O) w).setCell (p := ⟨P, s.od 0, none⟩) (.inr (.inr (.inl rfl))) (.int .i64 (-1))).setCell (p := ⟨B, 3, none⟩) (.inl rfl) (.slice (some ⟨O, 0, none⟩) (s.k - 1) c)
  have c2 := hA.c2
  have ep := hA.rp.cell (i := s.od 0) (by omega)
  have fp := hA.rp.fz (s.od 0)
  have c3 : (w.setCell ⟨P, s.od 0, none⟩ (.int .i64 (-1))).cell? ⟨B, 3, none⟩ = some (.slice (some ⟨O, 0, none⟩) s.k c) := h1.c3
  have f3 := h1.fz 3
  have hro := h1.ro.cell (i := s.k - 1) (by show s.k - 1 < s.k; omega)
  obtain ⟨hkc, hcm⟩ : s.k ≤ c ∧ c ≤ maxLen := by obtain ⟨cur, _, hcs, hkc, hcm, _⟩ := hA.ro; exact ⟨hkc, hcm⟩
  have HF := hide hF
  have H2 : Hid (Hp ((w.setCell ⟨P, s.od 0, none⟩ (.int .i64 (-1))).setCell ⟨B, 3, none⟩ (.slice (some ⟨O, 0, none⟩) (s.k - 1) c)) B S P O c n s.cut) := h2
  have HK2 := hide K2
  have hro' : (w.setCell ⟨P, s.od 0, none⟩ (.int .i64 (-1))).cell? ⟨O, s.k - 1, none⟩ = some (.int .i64 (s.od (s.k - 1) : Int)) := hro
  unfold maxLen at hcm
  clear hA hF h1 h2 K2 b3 l3 hro
  obtain ⟨kk, hkk⟩ : ∃ kk, kk = s.k - 1 := ⟨_, rfl⟩
  have HS1 : Hid (s.cut.put 0 (s.od (s.k - 1)) = s.cut.put 0 (s.od kk)) := by rw [hkk]; rfl
  have ek : (s.k : Int) - 1 = (kk : Int) := by omega
  rw [← hkk] at hro' H2 HK2 l1 l2
  have HKK := hide hkk
  have hk1 : kk < s.k := by omega
  have hk2 : kk ≤ c := by omega
  clear hkk
  generalize hob : s.od 0 = b at *
  generalize hol : s.od kk = l at *
  have HOB := hide hob
  have HOL := hide hol
  clear hob hol
  go_enter Try.func11, Try.ntmps11
  go_upto_region 8 with (first | (go_at_call 20; refine (unhide G).mono ?_; rintro e w0 ⟨rfl, hw0⟩; subst w0))
  all_goals
  refine forget (P := fun W => Code.wp Try.prog _ _ _ W) (fun W => Hid (Hp W B S P O c n s.cut) ∧ Hid (Kp (Of B S P O) w W)) ⟨H2, HK2⟩ ?_
  rintro W ⟨HW, HKW⟩
  clear c2 ep fp c3 f3 hro' H2 HK2 ek G
  by_cases h0 : 0 < kk
  · obtain ⟨wf1, hs1⟩ := cut_wf1 HF.out.wf HF.out.hp (by have := HKK.out; omega)
    rw [HS1.out] at wf1 hs1
    have hin1 := cut_in1 HF.out.wf (by have := HKK.out; omega)
    rw [HS1.out, HOB.out] at hin1
    have GP := hide (put_any W B S P O c n s.cut 0 l HW.out (by show 0 < s.k - 1; have := HKK.out; omega) l2 (by show s.k - 1 ≤ _; omega))
    have GS : Hid (∀ W2, Hp W2 B S P O c n (s.cut.put 0 l) → Calls Try.prog 27 #[.pointer (some ⟨B, 0, none⟩), .int .i64 0] W2 (SinkP W2 B S P O c n (s.cut.put 0 l) 0)) := by
      intro W2 h2
      exact sink_any W2 B S P O c n (s.cut.put 0 l) 0 h2 wf1 (by show 0 < s.k - 1; have := HKK.out; omega) hs1
    have HI := hide hin1
    clear wf1 hs1 hin1
    go_wp2_with (first | (go_at_call 26; refine (unhide GP).mono ?_; rintro e w2 ⟨rfl, hp2, kp2⟩) | (go_at_call 27; refine (unhide GS _ hp2).mono ?_; rintro e w3 ⟨rfl, t, hp3, kp3, wf3, hh3, hl3⟩))
    go_ret2
    refine ⟨by rw [HOB.out]; rfl, t, hp3, (HKW.out.trans kp2).trans kp3, ⟨wf3, hh3, hl3.sz ⟨HF.out.sz.z, HF.out.sz.sc, HF.out.sz.st⟩⟩, hl3.sc, hl3.st, fun v hv => ?_⟩
    rw [hl3.wfcnt v hv, HI.out v hv, HOB.out]
  · have hk0 : s.k = 1 := by have := HKK.out; omega
    obtain ⟨wf1, hh1⟩ := cut_wf0 HF.out.wf hk0
    have hin1 := cut_in HF.out.wf (by omega)
    have HI := hide hin1
    have H1 := hide wf1
    have H2 := hide hh1
    clear wf1 hh1 hin1 hk0
    go_wp2
    go_ret2
    exact ⟨by rw [HOB.out]; rfl, s.cut, HW.out, HKW.out, ⟨H1.out, H2.out, ⟨HF.out.sz.z, HF.out.sz.sc, HF.out.sz.st⟩⟩, rfl, rfl, HI.out⟩

set_option maxHeartbeats 400000 in
theorem push_no (w : World) (B S P O c n : Nat) (s : HS) (v : Int) (hA : Hp w B S P O c n s) (h : varB n v = false) : Calls Try.prog 21 #[.pointer (some ⟨B, 0, none⟩), .int .i64 v] w fun e w' => e = .returned (.int .i64 1) ∧ w' = w := by
  have G := hide (isVar_any w B S P O c n s v hA)
  rw [h] at G
  clear hA h
  go_enter Try.func21, Try.ntmps21
  go_wp2_with (first | (go_at_call 29; refine (unhide G).mono ?_; rintro e w0 ⟨rfl, hw0⟩; subst w0))
  all_goals
    go_ret
    exact ⟨ret_int rfl, rfl⟩

/-- What Push leaves: the order may lie in another block. -/
def PushP (w : World) (B S P O c n : Nat) (s : HS) (v : Nat) (e : Ending) (w' : World) : Prop :=
  e = .returned (.int .i64 0) ∧ ∃ O' c' t, Hp w' B S P O' c' n t ∧ Kp (Of B S P O) w w' ∧ (O' = O ∨ w.heap.size ≤ O') ∧ To n s (upd (inB s.pl) v true) t

/-- Behind the append: one more in the order. -/
theorem Hp.grow {w w1 : World} {B S P O c n : Nat} {s : HS} (h : Hp w B S P O c n s) {v : Nat} {g cap : Nat} (hg : (w.alloc (.cells #[.int .i64 (v : Int)] 3)).grownBy w1 (some O))
    (ho : w1.ownsRow 0 3 1 (.slice (some ⟨g, 0, none⟩) (s.k + 1) cap) (s.k + 1) (((List.range s.k).map fun i => .int .i64 (s.od i : Int)) ++ [.int .i64 (v : Int)])) (hat : O = g ∨ g = w.heap.size + 1) :
    Hp (w1.setCell ⟨B, 3, none⟩ (.slice (some ⟨g, 0, none⟩) (s.k + 1) cap)) B S P g cap n { s with k := s.k + 1, od := upd s.od s.k v } ∧ w1.heap[B]? = w.heap[B]? ∧ Kp (Of B S P O) w w1 := by
  obtain ⟨lB, lS, lP, lO⟩ := h.lt
  have eB : w1.heap[B]? = w.heap[B]? := by rw [hg.block B (by simp; omega) (fun e => h.BO (by injection e)), heap_alloc_old w _ lB]
  have eS : w1.heap[S]? = w.heap[S]? := by rw [hg.block S (by simp; omega) (fun e => h.SO (by injection e)), heap_alloc_old w _ lS]
  have eP : w1.heap[P]? = w.heap[P]? := by rw [hg.block P (by simp; omega) (fun e => h.PO (by injection e)), heap_alloc_old w _ lP]
  have hBO := h.BO
  have hSO := h.SO
  have hPO := h.PO
  have gB : B ≠ g := by rcases hat with e | e <;> omega
  have gS : S ≠ g := by rcases hat with e | e <;> omega
  have gP : P ≠ g := by rcases hat with e | e <;> omega
  refine ⟨⟨h.BS, h.BP, gB, h.SP, gS, gP, h.n20, (hd_set (eB.trans h.head)).trans (by simp), (h.rs.same eS).same (hd_far (Ne.symm h.BS)), (h.rp.same eP).same (hd_far (Ne.symm h.BP)), ?_⟩, eB, ?_⟩
  · have hb : Blk w1 g (s.k + 1) cap (fun i => ((upd s.od s.k v i : Nat) : Int)) := by
      apply blk_of_own
      have e : ((List.range (s.k + 1)).map fun i => Value.int .i64 ((upd s.od s.k v i : Nat) : Int)) = ((List.range s.k).map fun i => .int .i64 (s.od i : Int)) ++ [.int .i64 (v : Int)] := by
        rw [List.range_succ, List.map_append]
        congr 1
        · apply List.map_congr_left
          intro i hi
          rw [upd_other (by have := List.mem_range.1 hi; omega)]
        · simp [upd_same]
      rw [e]; exact ho
    exact hb.same (hd_far (Ne.symm gB))
  · refine (Kp.of_below ((Below.refl _ _).alloc (Nat.le_refl _) _)).grown hg (fun k _ e => ?_)
    injection e with e
    exact .inr (.inr (.inr e.symm))

set_option maxHeartbeats 400000 in
theorem push_in (w : World) (B S P O c n : Nat) (s : HS) (v : Nat) (hA : Hp w B S P O c n s) (hF : Full n s) (h1 : 1 ≤ v) (h2 : v ≤ n) (hp : s.pl v ≠ -1) :
    Calls Try.prog 21 #[.pointer (some ⟨B, 0, none⟩), .int .i64 (v : Int)] w (PushP w B S P O c n s v) := by
  have G := hide (isVar_any w B S P O c n s v hA)
  rw [varB_nat h1 h2] at G
  have hn := hA.n20
  have c2 := hA.c2
  have ep := hA.rp.cell (i := v) (by omega)
  have HA := hide hA
  have HF := hide hF
  have HI := hide (in_in h1 hp)
  clear hA hF
  generalize s.pl v = x at *
  go_enter Try.func21, Try.ntmps21
  go_wp2_with (first | (go_at_call 29; refine (unhide G).mono ?_; rintro e w0 ⟨rfl, hw0⟩; subst w0))
  all_goals
    go_ret
    exact ⟨rfl, O, c, s, HA.out, Kp.refl _ _, .inl rfl, HF.out, rfl, rfl, fun u _ => HI.out u⟩

theorem info_parts {e : TypeId} {z : Value} {sz by' : Nat} (h : (Try.prog.info? e).map (fun i => (i.zero, i.size, i.bytes)) = some (some z, sz, by')) : ∃ i, Try.prog.info? e = some i ∧ i.zero = some z ∧ i.size = sz ∧ i.bytes = by' := by
  obtain ⟨i, hi, e⟩ := Option.map_eq_some_iff.1 h
  simp at e
  exact ⟨i, hi, e.1, e.2.1, e.2.2⟩

theorem Kp.two {w w1 w2 : World} {B S P O O' : Nat} (h : Kp (Of B S P O) w w1) (k : Kp (Of B S P O') w1 w2) (hO : O' = O ∨ w.heap.size ≤ O') : Kp (Of B S P O) w w2 :=
  ⟨k.os.trans h.os, k.tape.trans h.tape, k.output.trans h.output, Nat.le_trans h.size k.size, fun i hi hs => (k.block i (Nat.lt_of_lt_of_le hi h.size) (by unfold Of at *; omega)).trans (h.block i hi hs)⟩

set_option maxHeartbeats 1000000 in
theorem push_out (w : World) (B S P O c n : Nat) (s : HS) (v : Nat) (hA : Hp w B S P O c n s) (hF : Full n s) (h1 : 1 ≤ v) (h2 : v ≤ n) (hp : s.pl v = -1) :
    Calls Try.prog 21 #[.pointer (some ⟨B, 0, none⟩), .int .i64 (v : Int)] w (PushP w B S P O c n s v) := by
  have G := hide (isVar_any w B S P O c n s v hA)
  rw [varB_nat h1 h2] at G
  have hn := hA.n20
  have hkn := hF.wf.kn
  have c2 := hA.c2
  have c3 := hA.c3
  have ep := hA.rp.cell (i := v) (by omega)
  rw [hp] at ep
  have hown := hA.ro.own
  have f3 := hA.fz 3
  have HA := hide hA
  have HF := hide hF
  have HP := hide hp
  have hlt := hA.lt
  obtain ⟨i0, hi, hz0, hz1, hz2⟩ := info_parts Try.info3
  clear hA hF hp
  go_enter Try.func21, Try.ntmps21
  go_upto_region 4 with (first | (go_at_call 29; refine (unhide G).mono ?_; rintro e w0 ⟨rfl, hw0⟩; subst w0))
  go_cut [] from 17 to 26 (fun wx => ∃ O' c', Hid (Hp wx B S P O' c' n { s with k := s.k + 1, od := upd s.od s.k v }) ∧ Hid (Kp (Of B S P O) w wx) ∧ (O' = O ∨ w.heap.size ≤ O'))
  case first =>
    go_wp2_with (at_builtin; refine wpList_append_lies _ rfl _ _ 25 rfl 0 3 i0 (.int .i64 0) 1 8 Try.underlying25 hi hz0 hz1 hz2 rfl (by decide) _ s.k _ rfl (hown.alloc _) ⟨w.heap.size, 0, none⟩ 1 1 [.int .i64 (v : Int)] rfl rfl (World.news_of_block (cs := #[.int .i64 (v : Int)]) (heap_alloc_new w _)) (by simp [Value.oneCell']) (by decide) (by unfold maxLen; omega) (by omega) (Nat.zero_le _) (w.heap.size + 1) (by simp) ?_; intro g1 cap1 w3 hown3 hgrow3 hat3 hlt3; obtain ⟨hp3, eB3, kp3⟩ := HA.out.grow (g := g1) (cap := cap1) hgrow3 hown3 (hat3.elim (fun e => .inl (Option.some.inj e)) .inr); have c3' : w3.cell? ⟨B, 3, none⟩ = some (.slice (some ⟨O, 0, none⟩) s.k c) := (World.cell?_of_block eB3).trans c3; have f3' : w3.frozen? ⟨B, 3, none⟩ = false := (World.frozen?_of_block eB3).trans f3)
    go_meet
    case rel => exact ⟨g1, cap1, hp3, kp3.setCell (p := ⟨B, 3, none⟩) (.inl rfl) _, hat3.elim (fun e => .inl (Option.some.inj e).symm) (fun e => .inr (by omega))⟩
  case rest =>
  obtain ⟨O', c', HB, HK, hO⟩ := hcut
  clear c2 c3 ep hown f3 hlt hi hz0 hz1 hz2 G
  have c2 := HB.out.c2
  have c3 : wc.cell? ⟨B, 3, none⟩ = some (.slice (some ⟨O', 0, none⟩) (s.k + 1) c') := HB.out.c3
  have ep := HB.out.rp.cell (i := v) (by omega)
  have fp := HB.out.rp.fz v
  have ek : ((s.k + 1 : Nat) : Int) - 1 = (s.k : Int) := by omega
  go_upto_region 5 with fail
  go_cut [] from 27 to 38 (fun wx => Hid (Hp wx B S P O' c' n (s.add v)) ∧ Hid (Kp (Of B S P O) w wx))
  case first =>
    go_region
    all_goals
      go_wp2_with fail
      go_meet
      case rel => exact ⟨(HB.out.setPl (i := v) h2 (s.k : Int)).drewN 1, (HK.out.setCell (p := ⟨P, v, none⟩) (.inr (.inr (.inl rfl))) _).drewN 1⟩
  case rest =>
  obtain ⟨HB2, HK2⟩ := hcut
  clear c2 c3 ep fp ek HB HK
  have c2 := HB2.out.c2
  have ep : wc.cell? ⟨P, v, none⟩ = some (.int .i64 (s.k : Int)) := by
    have := HB2.out.rp.cell (i := v) (by omega)
    rw [this]; show some (Value.int .i64 (upd s.pl v _ v)) = _; rw [upd_same]
  obtain ⟨wf1, hr1⟩ := add_wf HF.out.wf HF.out.hp h1 h2 HP.out
  have GR := hide (rise_any wc B S P O' c' n (s.add v) s.k HB2.out wf1 (Nat.lt_succ_self _) hr1)
  clear wf1 hr1
  go_wp2_with (first | (go_at_call 32; refine (unhide GR).mono ?_; rintro e w2 ⟨rfl, t, hp2, kp2, wf2, hh2, hl2⟩))
  go_ret
  refine ⟨rfl, O', c', t, hp2, ?_, hO, ⟨wf2, hh2, hl2.sz ⟨HF.out.sz.z, HF.out.sz.sc, HF.out.sz.st⟩⟩, hl2.sc, hl2.st, fun u hu => ?_⟩
  · exact HK2.out.two kp2 hO
  · rw [hl2.wfcnt u hu, add_in h1]
end Go.Proofs.Ytidhnmooloedmaa
