/- Contracts: the clauses that watch a false literal are gone through. -/
import Derived.Test.YtlmbgaconjcaiabGk
import Derived.WalkMore
set_option linter.unusedVariables false
set_option linter.unusedSimpArgs false
namespace Go.Proofs.Ytlmbgaconjcaiab
open Go.RowKit

theorem below_two' (w : World) (o1 : Obj) (n : Nat) (o2 : Obj) : Below w.heap.size w (((w.alloc o1).drewN n).alloc o2) := by
  have h1 := below_alloc w o1
  have h2 : Below w.heap.size w ((w.alloc o1).drewN n) := ⟨h1.os, h1.tape, h1.output, h1.size, h1.block⟩
  exact h2.alloc (by show w.heap.size ≤ (w.alloc o1).heap.size; simp) o2
theorem below_one' (w : World) (o1 : Obj) (n : Nat) : Below w.heap.size w ((w.alloc o1).drewN n) := by
  have h1 := below_alloc w o1
  exact ⟨h1.os, h1.tape, h1.output, h1.size, h1.block⟩

theorem below_drewN (w : World) (n : Nat) : Below w.heap.size w (w.drewN n) := ⟨rfl, rfl, rfl, Nat.le_refl _, fun _ _ => rfl⟩

theorem clear_none (A : Option Addr) (c : Nat) (ty : TypeId) (W : World) : (Builtin.clear_ #[98] ty #[.slice A 0 c]).run Try.prog W = .ok (.tuple #[]) W := by
  cases A <;> simp [Builtin.clear_, run_underlying Try.underlying98]

theorem watC_one (cb : Nat → Nat) : ∀ (l : List (Nat × Int)), ∀ u ∈ watC cb l, u.oneCell' = true
  | [], u, h => by simp [watC] at h
  | p :: r, u, h => by
    simp only [watC, List.mem_cons] at h
    rcases h with rfl | rfl | h
    · rfl
    · rfl
    · exact watC_one cb r u h

theorem news_at {W : World} {N : Nat} (cs : Array Value) (t : TypeId) (hN : W.heap.size = N) : ∀ j u, cs.toList[j]? = some u → (W.alloc (.cells cs t)).cell? ((⟨N, 0, none⟩ : Addr).add j) = some u := by
  subst hN; exact World.news_of_block (heap_alloc_new W _)

theorem VI.spare {ρ ρ1 : Nat → Rl} {w wr W1 : World} {B : Nat} {H1 : Hd} {s σ : PS} {l : Int} {j g n cap k : Nat} {q0 K : List (Nat × Int)} (hv : VI ρ w B s l j g n cap q0 k K ρ1 H1 σ wr) (hk : k < n) (hb : Below wr.heap.size wr W1) (t : Nat) (ht : t < 2) :
    (W1.cell? ⟨g, 0 + K.length * 2 + t, none⟩).isSome = true ∧ W1.frozen? ⟨g, 0 + K.length * 2 + t, none⟩ = false := by
  have ho := hv.own
  have h1 := hv.mle
  have ho1 : W1.ownsRow 0 100 2 (.slice (some ⟨g, 0, none⟩) n cap) n (watC H1.cb (K ++ q0.drop K.length)) := own_same ho (fun b hb' => hb.block b (World.ownsRow.lt ho b hb').2)
  exact ⟨own_isSome ho1 (by omega), own_fz ho1 rfl _⟩

theorem VX.own {ρ ρ1 : Nat → Rl} {w W : World} {B : Nat} {H1 : Hd} {s σ : PS} {l : Int} {j g n cap : Nat} {F R : List (Nat × Int)} (hx : VX ρ w B s l j g n cap F R ρ1 H1 σ W) : W.ownsRow 0 100 2 (.slice (some ⟨g, 0, none⟩) n cap) n (watC H1.cb R) := by
  have hjl : j < σ.wat.length := (List.getElem?_eq_some_iff.1 hx.wat).1
  obtain ⟨u, _, _, hu, _, _, _, _, _, _, ho, _⟩ := hx.rep.wAt (setW_get hjl)
  obtain rfl := Option.some.inj (hu.symm.trans hx.hdr)
  rw [hx.rl] at ho; exact ho
theorem VX.cut {ρ ρ1 : Nat → Rl} {w W : World} {B : Nat} {H1 : Hd} {s σ : PS} {l : Int} {j g n cap : Nat} {F R : List (Nat × Int)} (hx : VX ρ w B s l j g n cap F R ρ1 H1 σ W) : W.ownsRow 0 100 2 (.slice (some ⟨g, 0, none⟩) F.length cap) F.length (watC H1.cb F) := by
  have h := own_cut hx.own hx.fl
  rw [watC_take, hx.tk] at h; exact h

theorem VX.clr {ρ ρ1 : Nat → Rl} {w W : World} {B : Nat} {H1 : Hd} {s σ : PS} {l : Int} {j g n cap fl : Nat} {F R : List (Nat × Int)} (hx : VX ρ w B s l j g n cap F R ρ1 H1 σ W) (hfl : F.length = fl) (hlt : fl < n) (ty : TypeId) :
    (Builtin.clear_ #[98] ty #[.slice (some ⟨g, fl * 2, none⟩) (n - fl) (cap - fl)]).run Try.prog W = .ok (.tuple #[]) (W.setCells g (fl * 2) (Builtin.zeroCells (Value.agg #[.pointer none, .int .i64 0]).cells (n - fl)).toList) :=
  run_clear_any W 98 100 ty _ 2 Try.underlying98 zero97 rfl (by decide) (by simp [Value.cells, Value.oneCell']) g (fl * 2) (n - fl) (cap - fl) (by omega) (fun t ht => own_isSome hx.own (by omega)) (fun t _ => own_fz hx.own rfl _)
theorem VX.clrOwn {ρ ρ1 : Nat → Rl} {w W : World} {B : Nat} {H1 : Hd} {s σ : PS} {l : Int} {j g n cap fl : Nat} {F R : List (Nat × Int)} (hx : VX ρ w B s l j g n cap F R ρ1 H1 σ W) (hfl : F.length = fl) (ys : List Value) : (W.setCells g (fl * 2) ys).ownsRow 0 100 2 (.slice (some ⟨g, 0, none⟩) F.length cap) F.length (watC H1.cb F) :=
  own_sets_beyond rfl ys _ _ hx.cut (by rw [watC_len]; omega)

/-- The loop is left: what the rest of the call finds, and leaves. -/
theorem VX.fin {ρ ρ1 : Nat → Rl} {w W W' : World} {B : Nat} {H1 : Hd} {s σ : PS} {l : Int} {j g n cap : Nat} {F R : List (Nat × Int)} (hx : VX ρ w B s l j g n cap F R ρ1 H1 σ W) (hgr : W.grownBy W' (some g)) (ho : W'.ownsRow 0 100 2 (.slice (some ⟨g, 0, none⟩) F.length cap) F.length (watC H1.cb F)) :
    ∃ gw capw, (W'.cell? ⟨B, 6, none⟩ = some (.slice (some ⟨gw, 0, none⟩) σ.wat.length capw) ∧ W'.cell? ⟨B, 1, none⟩ = some (.int .i64 s.vars) ∧ W'.cell? ⟨gw, j, none⟩ = some (.slice (some ⟨g, 0, none⟩) n cap) ∧ W'.frozen? ⟨gw, j, none⟩ = false ∧ gw ≠ B ∧ j < σ.wat.length ∧ B < W'.heap.size ∧ gw < W'.heap.size) ∧
      ∃ ρ2 H2, Rep ρ2 (W'.setCell ⟨gw, j, none⟩ (.slice (some ⟨g, 0, none⟩) F.length cap)) B H2 σ ∧ Ev ρ w ρ2 (W'.setCell ⟨gw, j, none⟩ (.slice (some ⟨g, 0, none⟩) F.length cap)) := by
  have hjl : j < σ.wat.length := (List.getElem?_eq_some_iff.1 hx.wat).1
  obtain ⟨u, gw, capw, hu, ewv, hgw, hgwB, d1, z1, hgwlt, _, hsep, _, _⟩ := hx.rep.wAt (setW_get hjl)
  obtain rfl := Option.some.inj (hu.symm.trans hx.hdr)
  obtain ⟨sB, sw⟩ := hsep g rfl
  have eB : W'.heap[B]? = W.heap[B]? := hgr.block B hx.rep.lt (by simpa using Ne.symm sB)
  have ew : W'.heap[gw]? = W.heap[gw]? := hgr.block gw hgwlt (by simpa using Ne.symm sw)
  have c6 := hx.rep.c6
  rw [ewv] at c6
  have c1 := hx.rep.c1
  have hfin := hx.rep.wTurn (gg := g) (v := .slice (some ⟨g, 0, none⟩) F.length cap) (q' := F) (setW_get hjl) hu hgw hgr ho (fun k hk => by simp [Value.ownBlock] at hk; exact hk.symm) (.inl rfl)
  refine ⟨gw, capw, ⟨(World.cell?_of_block (a := ⟨B, 6, none⟩) eB).trans (by rw [c6]; simp [PS.setW]), (World.cell?_of_block (a := ⟨B, 1, none⟩) eB).trans (by rw [c1, ← hx.vars]; rfl), (World.cell?_of_block (a := ⟨gw, j, none⟩) ew).trans d1, (World.frozen?_of_block (a := ⟨gw, j, none⟩) ew).trans z1, hgwB, hjl, Nat.lt_of_lt_of_le hx.rep.lt hgr.size, Nat.lt_of_lt_of_le hgwlt hgr.size⟩, ?_⟩
  have h5 := hfin.1
  have e5 : ({ σ.setW j R with wat := (σ.setW j R).wat.set j F } : PS) = σ := (setW_setW σ j R F).trans (setW_self hx.wat)
  rw [e5] at h5
  exact ⟨_, _, h5, hx.ev.trans hfin.2⟩

section
variable {ρ : Nat → Rl} {w : World} {B : Nat} {H : Hd} {s : PS}

set_option maxHeartbeats 8000000 in
set_option maxRecDepth 100000 in
theorem visit_some (h : Rep ρ w B H s) (hI : Inv s) (hlits : ∀ c ∈ s.cls, c.lits.length ≤ 10000) (l : Int) (hl : Lt s.vars l) (hlf : -l ∈ s.trail) (q0 : List (Nat × Int)) (hq0 : s.wat[ix s.vars l]? = some q0) (g cap : Nat) (hu : H.wr[ix s.vars l]? = some (.slice (some ⟨g, 0, none⟩) q0.length cap)) :
    Calls Try.prog 73 #[.pointer (some ⟨B, 0, none⟩), .int .i64 l] w fun e w' => ∃ n, e = .returned (.int .i64 n) ∧ VisP ρ w B s l n w' := by
  have hV := hI.sz.vars
  have hlt := ix_lt hl
  have hi := ix_int hl
  have hsw := hI.sz.wat
  obtain ⟨u, gw, capw, hu', ewv, hgw, hgwB, d1, z1, hgwlt, hown, hsep, hcm, hcn⟩ := h.wAt hq0
  obtain rfl : u = .slice (some ⟨g, 0, none⟩) q0.length cap := Option.some.inj (hu'.symm.trans hu)
  obtain ⟨a', cap', e', hnc, hcc, _⟩ := own_form hown
  simp at e'
  obtain ⟨rfl, rfl⟩ := e'
  have hqn := hI.wlen hq0
  have hcl := hI.sz.cls
  have c6 := h.c6
  rw [ewv] at c6
  have AT := fun n => hide (at_any (h.drewN n) l (by omega) (by unfold Lt at hl; omega) (by unfold Lt at hl; omega))
  have hb0 : (0 : Int) ≤ s.vars + l := by unfold Lt at hl; omega
  have hb1 : (s.vars : Int) + l < s.wat.length := by unfold Lt at hl; omega
  have hix : ((s.vars : Int) + l).toNat = ix s.vars l := rfl
  have HVI : Hid (∀ m, VIs ρ w B s l (ix s.vars l) g q0.length cap q0 0 0 (w.drewN m)) := by
    intro m
    refine ⟨[], ρ, H, s, rfl, ⟨Nat.le_refl _, Nat.zero_le _, ?_, by simpa using hq0, hI, Ev.drewN _ _ _, Frm.refl _, rfl, rfl, hu, (by intro p hp; cases hp), rfl, rfl, rfl⟩⟩
    have : s.setW (ix s.vars l) ([] ++ q0.drop 0) = s := setW_self (by simpa using hq0)
    simp only [List.length_nil]
    rw [this]; exact h.drewN m
  have hqn' : q0.length ≤ 1048576 := by omega
  have hce := fun (A : Option Addr) (c : Nat) (ty : TypeId) (W : World) => clear_none A c ty W
  clear h ewv hown hsep hu hu' hq0 hgw hI
  generalize hj : ix s.vars l = j at *
  generalize hqq : q0.length = n at *
  unfold maxLen at hcm hcc
  go_enter Try.func73, Try.ntmps73
  go_wp2
  go_step3
  go_wp2_with fail
  go_quiet ((go_at_call 55; exact Calls.quiet_of_same (unhide (AT _))))
  go_wp2
  go_step3
  go_wp2
  go_loopw [6, 7, 27] (fun kp br i wr => ∃ (k m : Nat), i = .int .i64 k ∧ kp = .slice (some ⟨g, 0, none⟩) m cap ∧ br = .int .i64 (-1) ∧ VIs ρ w B s l j g n cap q0 k m wr) (fun _ _ i _ => n - (intOf i).toNat)
  case atStart => exact ⟨0, 0, rfl, rfl, rfl, HVI.out _⟩
  case round =>
    clear HVI AT c6 d1 z1
    obtain ⟨k, m, rfl, rfl, rfl, K, ρ1, H1, σ, rfl, hv⟩ := hrel
    have HJ := hide hj
    have HQQ := hide hqq
    clear hj hqq
    by_cases hlt2 : k < n
    · obtain ⟨⟨i, hint⟩, hp0⟩ : ∃ p0, q0[k]? = some p0 := ⟨_, List.getElem?_eq_getElem (by rw [HQQ.out]; exact hlt2)⟩
      have hki : (k : Int) < n := by omega
      have hdrop : q0.drop k = (i, hint) :: q0.drop (k + 1) := by
        obtain ⟨hk', e⟩ := List.getElem?_eq_some_iff.1 hp0
        rw [List.drop_eq_getElem_cons hk', e]
      have hwat := hv.wat
      rw [hdrop] at hwat
      have hsl : j < σ.wat.length := (List.getElem?_eq_some_iff.1 hwat).1
      have hvar := hv.vars
      have hlσ : Lt σ.vars l := by rw [hvar]; exact hl
      have hjσ : ix σ.vars l = j := by rw [hvar]; exact HJ.out
      have hlfσ : -l ∈ σ.trail := by obtain ⟨mm, em⟩ := hv.frm.tr; rw [em]; exact List.mem_append.2 (.inl hlf)
      obtain ⟨c, hc, hhint, _⟩ := hv.inv.wt.we j _ hwat (i, hint) (by simp)
      simp only at hc hhint
      have hlσl := hv.frm.lits hlits
      have hsm := hv.inv.small hlσl
      have hR := hv.rep
      have hmk := hv.mle
      have hrawq : (σ.setW j (K ++ q0.drop K.length)).wat[j]? = some (K ++ q0.drop K.length) := setW_get hsl
      obtain ⟨u2, gw2, capw2, hu2, ewv2, hgw2, hgw2B, e1, ez1, hgw2lt, hown2, hsep2, _, _⟩ := hR.wAt hrawq
      obtain rfl : u2 = .slice (some ⟨g, 0, none⟩) n cap := Option.some.inj (hu2.symm.trans hv.hdr)
      have hrl : (K ++ q0.drop K.length).length = n := by rw [raw_len (by rw [HQQ.out]; omega), HQQ.out]
      rw [hrl] at hown2
      have hrg : (K ++ q0.drop K.length)[k]? = some (i, hint) := by rw [raw_get hmk]; exact hp0
      obtain ⟨wc1, wc2⟩ := watC_get H1.cb _ k _ hrg
      have m1 := own_cell hown2 (g := g) rfl wc1
      have m2 := own_cell hown2 (g := g) rfl wc2
      simp only [ptrC] at m1 m2
      obtain ⟨hglt, _⟩ := World.ownsRow.lt hown2 g rfl
      have hglt2 := (World.ownsRow.lt hown2 g rfl).2
      have hS := hv.inv.shp
      have HV := hide hv
      have HW := hide hwat
      have HD := hide hdrop
      have HR := hide hR
      have HOWN := hide hown2
      have HC := hide hc
      have HP := hide hp0
      have HSM := hide hsm
      have HSH := hide hS
      have hkn : (k : Int) < (n : Int) := hki
      clear hv hwat hdrop hR hown2 hsep2 hu2 hc hp0 hrawq hrg wc1 wc2 hsm hS ewv2 hgw2 e1 ez1
      generalize hb : H1.cb i = b at *
      have GV := value_any (HR.out.alloc (.cells #[.pointer (some ⟨b, 0, none⟩), .int .i64 hint] 100)) hint hhint (by show σ.vars ≤ _; rw [hvar]; omega) HSH.out.vals
      have eV : (σ.setW j (K ++ q0.drop K.length)).val hint = σ.val hint := rfl
      rw [eV] at GV
      replace GV := hide GV
      have hvb := HSH.out.val hint
      obtain ⟨i0, hi0, hz0, hz1, hz2⟩ := info_parts Try.info100
      by_cases hA : σ.val hint = 1
      · have HST := hide (fun n1 => HV.out.stepA hlt2 HP.out hA (below_two' wr (.cells #[.pointer (some ⟨b, 0, none⟩), .int .i64 hint] 100) n1 (.cells #[.pointer (some ⟨b, 0, none⟩), .int .i64 hint] 100)))
        have HSP := hide (fun n1 => HV.out.spare hlt2 (below_two' wr (.cells #[.pointer (some ⟨b, 0, none⟩), .int .i64 hint] 100) n1 (.cells #[.pointer (some ⟨b, 0, none⟩), .int .i64 hint] 100)))
        have hA' : (σ.val hint == 1) = true := by simpa using hA
        generalize σ.val hint = y at *
        clear hA
        go_wp2_with (first
          | (go_at_call 50; refine (unhide GV).mono ?_; rintro e w1 ⟨rfl, n1, rfl⟩)
          | (at_builtin; refine wpList_append_room rfl _ _ 98 rfl 100 i0 2 Try.underlying98 hi0 hz1 g 0 K.length cap rfl ⟨wr.heap.size + 1, 0, none⟩ 1 1 [.pointer (some ⟨b, 0, none⟩), .int .i64 hint] rfl rfl (news_at #[.pointer (some ⟨b, 0, none⟩), .int .i64 hint] 100 (by simp)) (by simp [Value.oneCell']) (by omega) (fun t ht => HSP.out n1 t ht) ?_))
        go_roundw
        case rel => exact ⟨k + 1, K.length + 1, by go_num, rfl, rfl, K ++ [(i, hint)], ρ1, H1, σ, by simp, by have := HST.out n1; simp only [ptrC, hb, Nat.zero_add] at this; exact this⟩
        case measure => simp [intOf]; omega
      · have hA' : (σ.val hint == 1) = false := by simpa using hA
        obtain ⟨o0, o1, o2, o3, o4, of, hol, hoB⟩ := HR.out.obj (show (σ.setW j (K ++ q0.drop K.length)).cls[i]? = some c from HC.out)
        rw [hb] at o0 o1 o2 o3 o4 of hol hoB
        have hbw : b ≠ wr.heap.size := by omega
        cases hgone : c.gone with
        | true =>
          rw [hgone] at o4
          have HST := hide (fun n1 => HV.out.stepB hlt2 HP.out HC.out hgone (below_one' wr (.cells #[.pointer (some ⟨b, 0, none⟩), .int .i64 hint] 100) n1))
          generalize σ.val hint = y at *
          clear hA hgone
          go_wp2_with (go_at_call 50; refine (unhide GV).mono ?_; rintro e w1 ⟨rfl, n1, rfl⟩)
          go_roundw
          case rel => exact ⟨k + 1, K.length, by go_num, rfl, rfl, K, ρ1, H1, _, rfl, HST.out n1⟩
          case measure => simp [intOf]; omega
        | false =>
          rw [hgone] at o4
          have hwσ : σ.wat[ix σ.vars l]? = some (K ++ (i, hint) :: q0.drop (k + 1)) := by rw [hjσ]; exact HW.out
          obtain ⟨_, hoin, hol2, _, _, _, _⟩ := entry_of HV.out.inv hlσ hwσ (List.mem_append.2 (.inr List.mem_cons_self)) HC.out hgone
          have HO := hide (HV.out.inv.wt.ok i c HC.out _ hoin)
          have HOK := hide (HV.out.inv.wt.ok i c HC.out)
          have BS := fun n1 => hide (beside_any ((HR.out.alloc (.cells #[.pointer (some ⟨b, 0, none⟩), .int .i64 hint] 100)).drewN n1) i c HC.out l)
          obtain ⟨ar, capr, er, hrow, hrm, _⟩ := HR.out.lits (show (σ.setW j (K ++ q0.drop K.length)).cls[i]? = some c from HC.out)
          rw [er] at o1
          have hrow' := hrow.below (below_alloc wr (.cells #[.pointer (some ⟨b, 0, none⟩), .int .i64 hint] 100))
          have hcl2 : c.lits.length ≤ 10000 := HSM.out.lits c (List.mem_of_getElem? HC.out)
          have eo : besideI c l = bsI c l := rfl
          simp only [hb, eo] at BS
          have VV := fun (x : Int) (hx : Lt σ.vars x) (m : Nat) => hide (value_any ((HR.out.alloc (.cells #[.pointer (some ⟨b, 0, none⟩), .int .i64 hint] 100)).drewN m) x hx (by show σ.vars ≤ _; rw [hvar]; omega) HSH.out.vals)
          have HGO := hide hgone
          have HOIN := hide hoin
          clear hrow er hwσ hgone hoin of
          generalize hbo : bsI c l = o at *
          have HBO := hide hbo
          clear hbo
          generalize hls : c.lits = ls at *
          have HLS := hide hls
          clear hls
          generalize σ.val hint = y at *
          clear hA
          go_wp2_with fail
          refine (unhide GV).mono ?_
          rintro e w1 ⟨rfl, n1, rfl⟩
          go_wp2_with fail
          refine (unhide (BS n1)).mono ?_
          rintro e w1 ⟨rfl, hw1⟩
          subst w1
          go_wp2
          go_loopw [55] (fun jx wr2 => ∃ (t m2 : Nat), t ≤ ls.length ∧ jx = .int .i64 t ∧ Hid (∀ x ∈ ls.take t, x = o ∨ σ.val x < 0) ∧ wr2 = (wr.alloc (.cells #[.pointer (some ⟨b, 0, none⟩), .int .i64 hint] 100)).drewN m2) (fun jx _ => ls.length - (intOf jx).toNat)
          case atStart => exact ⟨0, n1, Nat.zero_le _, rfl, (fun x hx => by simp at hx), rfl⟩
          case round =>
            obtain ⟨t, m2, ht, rfl, HT, rfl⟩ := hrel
            by_cases htl : t < ls.length
            · obtain ⟨bb, off, rfl, hbb, hcell⟩ := hrow' t htl
              have hxm : ls[t] ∈ ls := List.getElem_mem htl
              have hx := HOK.out ls[t] hxm
              have hti : (t : Int) < ls.length := by omega
              have HTS : Hid (ls.take (t + 1) = ls.take t ++ [ls[t]]) := List.take_succ_eq_append_getElem htl
              have hvb2 := HSH.out.val ls[t]
              have VX := VV ls[t] hx
              have HVX : Hid (∀ q, (σ.setW j q).val ls[t] = σ.val ls[t]) := fun q => rfl
              clear hrow'
              generalize ls[t] = x at *
              by_cases hxo : x = o
              · have hxo' : (x != o) = false := by simp [hxo]
                have HN : Hid (∀ z ∈ ls.take (t + 1), z = o ∨ σ.val z < 0) := by
                  intro z hz; rw [HTS.out] at hz
                  rcases List.mem_append.1 hz with hz | hz
                  · exact HT.out z hz
                  · simp at hz; subst hz; exact .inl hxo
                clear hxo VV VX BS
                go_wp2
                go_roundw
                case rel => exact ⟨t + 1, m2, by omega, by go_num, HN, rfl⟩
                case measure => simp [intOf]; omega
              · have hxo' : (x != o) = true := by simp [hxo]
                by_cases hneg : σ.val x < 0
                · have HN : Hid (∀ z ∈ ls.take (t + 1), z = o ∨ σ.val z < 0) := by
                    intro z hz; rw [HTS.out] at hz
                    rcases List.mem_append.1 hz with hz | hz
                    · exact HT.out z hz
                    · simp at hz; subst hz; exact .inr hneg
                  have VX2 := VX m2
                  have e2 : (σ.setW j (K ++ q0.drop K.length)).val x = σ.val x := rfl
                  rw [e2] at VX2
                  clear hxo VV VX BS
                  generalize σ.val x = z at *
                  go_wp2_with (go_at_call 50; refine (unhide VX2).mono ?_; rintro e w1 ⟨rfl, n3, rfl⟩)
                  go_roundw
                  case rel => exact ⟨t + 1, m2 + n3, by omega, by go_num, HN, rfl⟩
                  case measure => simp [intOf]; omega
                · have VX2 := VX m2
                  have e2 : (σ.setW j (K ++ q0.drop K.length)).val x = σ.val x := rfl
                  rw [e2] at VX2
                  have hnx : -x ∉ σ.trail := fun h => hneg ((HV.out.inv.vneg hx).2 h)
                  have hSc : Shp ((σ.setW j (K ++ q0.drop K.length)).setCl i { c with w0 := x, w1 := o }) := ⟨HSH.out.vars, HSH.out.vals, by simpa [PS.setCl, PS.setW] using HSH.out.wat, HSH.out.fac, HSH.out.bit, HSH.out.num⟩
                  have WT := hide (fun m3 => watch_any (((HR.out.alloc (.cells #[.pointer (some ⟨b, 0, none⟩), .int .i64 hint] 100)).drewN m3).setWatched (show (σ.setW j (K ++ q0.drop K.length)).cls[i]? = some c from HC.out) x o) x i o hx hSc (fun q hq => by
                    have hq' := List.mem_of_getElem? hq
                    rcases List.mem_or_eq_of_mem_set (show q ∈ σ.wat.set j (K ++ q0.drop K.length) from hq') with h' | h'
                    · have := HSM.out.wat q h'; omega
                    · rw [h', hrl]; omega))
                  have hrole : ρ1 b ≠ oth := by rw [← hb]; exact HR.out.roleOf (r := (2, i)) (x := ⟨84, 5, obj1 (H1.cb i), 1, objC i (H1.cl i) c⟩) (by simp [ents, PS.setW, HC.out]) rfl (by simp [oth])
                  have HEV := hide (fun m3 => ((HV.out.ev.trans (Ev.below (below_one' wr (.cells #[.pointer (some ⟨b, 0, none⟩), .int .i64 hint] 100) m3))).trans (Ev.set hrole 2 (.int .i64 x))).trans (Ev.set hrole 3 (.int .i64 o)))
                  obtain ⟨_, _, _, _, _, of, _⟩ := HR.out.obj (show (σ.setW j (K ++ q0.drop K.length)).cls[i]? = some c from HC.out)
                  rw [hb] at of
                  have z2 := of 2
                  have z3 := of 3
                  simp only [hb] at WT
                  have HXO := hide hxo
                  have HXM := hide hxm
                  clear hxo VV VX BS of
                  generalize σ.val x = z at *
                  go_wp2_with fail
                  refine (unhide VX2).mono ?_
                  rintro e w1 ⟨rfl, n3, rfl⟩
                  go_wp2_with fail
                  refine (unhide WT (m2 + n3)).mono ?_
                  rintro e W3 ⟨rfl, ρ2, v2, hR2, hE2⟩
                  have hst := HV.out.stepC hlt2 HP.out HC.out HGO.out hlσ hlfσ (x := x) (by rw [HLS.out]; exact HXM.out) (by rw [HBO.out]; exact HXO.out) hnx (by rw [HBO.out]; exact hR2) ((HEV.out (m2 + n3)).trans hE2)
                  have HST := hide hst
                  clear hst hR2 hE2
                  go_wp2
                  go_roundw
                  case rel => exact ⟨k + 1, K.length, by go_num, rfl, rfl, K, ρ2, _, _, rfl, HST.out⟩
                  case measure => simp [intOf]; omega
            · have hall : ∀ x ∈ ls, x = o ∨ σ.val x < 0 := fun x hx => HT.out x (by rw [List.take_of_length_le (by omega)]; exact hx)
              have hno : ∀ y ∈ c.lits, y ≠ o → -y ∈ σ.trail := by
                rw [HLS.out]
                intro y hy hne
                exact (HV.out.inv.vneg (HOK.out y hy)).1 ((hall y hy).resolve_left hne)
              have hoL := HO.out
              have hoc : o ∈ c.lits := by rw [HLS.out]; exact HOIN.out
              obtain ⟨sD1, sD2, sD3⟩ := HV.out.stepD hlt2 HP.out HC.out hoc (below_two' wr (.cells #[.pointer (some ⟨b, 0, none⟩), .int .i64 hint] 100) m2 (.cells #[.pointer (some ⟨b, 0, none⟩), .int .i64 o] 100))
              have hVo := value_any sD1 o hoL (by show σ.vars ≤ _; rw [hvar]; omega) HSH.out.vals
              have eVo : ((σ.setW j (K ++ (i, o) :: q0.drop (k + 1))).setW j ((K ++ [(i, o)]) ++ q0.drop (K ++ [(i, o)]).length)).val o = σ.val o := rfl
              rw [eVo] at hVo
              have HSP := hide (HV.out.spare hlt2 (below_two' wr (.cells #[.pointer (some ⟨b, 0, none⟩), .int .i64 hint] 100) m2 (.cells #[.pointer (some ⟨b, 0, none⟩), .int .i64 o] 100)))
              obtain ⟨p0, _, _, _, _, _, _, _⟩ := sD1.obj (show ((σ.setW j (K ++ (i, o) :: q0.drop (k + 1))).setW j ((K ++ [(i, o)]) ++ q0.drop (K ++ [(i, o)]).length)).cls[i]? = some c from HC.out)
              simp only [ptrC, hb, Nat.zero_add] at hVo p0
              have HVO := hide hVo
              have HSD1 := hide sD1
              have HSD2 := hide sD2
              have HSD3 := hide sD3
              have HNO := hide hno
              have HOC := hide hoc
              have hvb3 := HSH.out.val o
              clear hVo sD1 sD2 sD3 hno hoc hall HT hrow' VV BS
              by_cases h1 : σ.val o = 1
              · have hin : o ∈ σ.trail := (HV.out.inv.vone hoL).1 h1
                have k0 : (σ.val o == 0) = false := by simp; omega
                have k1 : (σ.val o == -1) = false := by simp; omega
                have HST := hide (fun n3 => HV.out.stepD1 hlt2 HP.out HC.out HOC.out hin (below_two' wr (.cells #[.pointer (some ⟨b, 0, none⟩), .int .i64 hint] 100) m2 (.cells #[.pointer (some ⟨b, 0, none⟩), .int .i64 o] 100)) (W2 := ((((wr.alloc (.cells #[.pointer (some ⟨b, 0, none⟩), .int .i64 hint] 100)).drewN m2).alloc (.cells #[.pointer (some ⟨b, 0, none⟩), .int .i64 o] 100)).setCells g (0 + K.length * 2) [ptrC H1.cb i, .int .i64 o]).drewN n3) (below_drewN _ _))
                generalize σ.val o = z at *
                clear h1
                go_wp2_with (first
                  | (at_builtin; refine wpList_append_room rfl _ _ 98 rfl 100 i0 2 Try.underlying98 hi0 hz1 g 0 K.length cap rfl ⟨wr.heap.size + 1, 0, none⟩ 1 1 [.pointer (some ⟨b, 0, none⟩), .int .i64 o] rfl rfl (news_at #[.pointer (some ⟨b, 0, none⟩), .int .i64 o] 100 (by simp)) (by simp [Value.oneCell']) (by omega) (fun t ht => HSP.out t ht) ?_)
                  | (go_at_call 50; refine (unhide HVO).mono ?_; rintro e w1 ⟨rfl, n3, rfl⟩))
                go_roundw
                case rel => exact ⟨k + 1, K.length + 1, by go_num, rfl, rfl, K ++ [(i, o)], ρ1, H1, _, by simp, by have := HST.out n3; simp only [ptrC, hb, Nat.zero_add] at this; exact this⟩
                case measure => simp [intOf]; omega
              · by_cases h0 : σ.val o = 0
                · obtain ⟨hn1, hn2⟩ := (HV.out.inv.vzero hoL).1 h0
                  have k0 : (σ.val o == 0) = true := by simp; omega
                  have hSd : Shp ((σ.setW j (K ++ (i, o) :: q0.drop (k + 1))).setW j ((K ++ [(i, o)]) ++ q0.drop (K ++ [(i, o)]).length)) := ⟨HSH.out.vars, HSH.out.vals, by simpa [PS.setW] using HSH.out.wat, HSH.out.fac, HSH.out.bit, HSH.out.num⟩
                  have hil : i < σ.cls.length := (List.getElem?_eq_some_iff.1 HC.out).1
                  have hic := HSM.out.cls
                  have PT := hide (fun n3 => put_any (HSD1.out.drewN n3) o i hoL hSd HSM.out.trail ⟨by omega, by omega⟩)
                  simp only [ptrC, hb, Nat.zero_add] at PT
                  generalize σ.val o = z at *
                  clear h1 h0
                  go_wp2_with (first
                    | (at_builtin; refine wpList_append_room rfl _ _ 98 rfl 100 i0 2 Try.underlying98 hi0 hz1 g 0 K.length cap rfl ⟨wr.heap.size + 1, 0, none⟩ 1 1 [.pointer (some ⟨b, 0, none⟩), .int .i64 o] rfl rfl (news_at #[.pointer (some ⟨b, 0, none⟩), .int .i64 o] 100 (by simp)) (by simp [Value.oneCell']) (by omega) (fun t ht => HSP.out t ht) ?_)
                    | (go_at_call 50; refine (unhide HVO).mono ?_; rintro e w1 ⟨rfl, n3, rfl⟩))
                  refine (unhide PT n3).mono ?_
                  rintro e W3 ⟨rfl, ρ2, tv2, hR2, hE2⟩
                  have hE0 : Ev ρ w ρ1 ((((wr.alloc (.cells #[.pointer (some ⟨b, 0, none⟩), .int .i64 hint] 100)).drewN m2).alloc (.cells #[.pointer (some ⟨b, 0, none⟩), .int .i64 o] 100)).setCells g (K.length * 2) [.pointer (some ⟨b, 0, none⟩), .int .i64 o]) := by have := HSD2.out; simp only [ptrC, hb, Nat.zero_add] at this; exact this
                  have hst := HV.out.stepD2 hlt2 HP.out HC.out HGO.out HOC.out hoL hn1 hn2 HNO.out hR2 ((hE0.trans (Ev.drewN _ _ n3)).trans hE2) HSD3.out
                  have HST := hide hst
                  clear hst hR2 hE2 hE0
                  go_wp2
                  go_roundw
                  case rel => exact ⟨k + 1, K.length + 1, by go_num, rfl, rfl, K ++ [(i, o)], ρ2, _, _, by simp, HST.out⟩
                  case measure => simp [intOf]; omega
                · have hm1 : σ.val o = -1 := by omega
                  have hno2 : -o ∈ σ.trail := (HV.out.inv.vneg hoL).1 (by omega)
                  have k0 : (σ.val o == 0) = false := by simp; omega
                  have k1 : (σ.val o == -1) = true := by simp; omega
                  have SX := hide (fun n3 => HV.out.stepX hlt2 HP.out HC.out HOC.out (below_two' wr (.cells #[.pointer (some ⟨b, 0, none⟩), .int .i64 hint] 100) m2 (.cells #[.pointer (some ⟨b, 0, none⟩), .int .i64 o] 100)) (W2 := ((((wr.alloc (.cells #[.pointer (some ⟨b, 0, none⟩), .int .i64 hint] 100)).drewN m2).alloc (.cells #[.pointer (some ⟨b, 0, none⟩), .int .i64 o] 100)).setCells g (0 + K.length * 2) [ptrC H1.cb i, .int .i64 o]).drewN n3) (below_drewN _ _))
                  simp only [ptrC, hb, Nat.zero_add] at SX
                  have HBR : Hid (Brk σ i) := ⟨i, c, rfl, HC.out, HGO.out, fun y hy => by
                    by_cases e : y = o
                    · subst e; exact hno2
                    · exact HNO.out y hy e⟩
                  have hdl : (q0.drop (k + 1)).length = n - (k + 1) := by rw [List.length_drop, HQQ.out]
                  have hk1 : ((k + 1 : Nat) : Int) = (k : Int) + 1 := by omega
                  have hk2 : (k : Int) + 1 ≤ n := by omega
                  have hk3 : (k : Int) + 1 ≤ cap := by omega
                  have hk4 : ((k : Int) + 1).toNat = k + 1 := by omega
                  have hsw9 : (σ.setW j ((K ++ [(i, o)]) ++ q0.drop (k + 1))).wat.length = 2 * s.vars + 1 := by
                    show (σ.wat.set j _).length = _
                    rw [List.length_set, HV.out.inv.sz.wat, hvar]
                  obtain ⟨fl, hfl⟩ : ∃ fl, K.length + 1 + (n - (k + 1)) = fl := ⟨_, rfl⟩
                  have HFE := hide hfl
                  have HFL : Hid (((K ++ [(i, o)]) ++ q0.drop (k + 1)).length = fl) := by
                    unfold Hid; rw [← hfl]; simp [HQQ.out]; omega
                  by_cases hcap : cap = k + 1
                  · have hn1 : n = k + 1 := by omega
                    have HDN : Hid (q0.drop (k + 1) = []) := List.drop_eq_nil_of_le (by rw [HQQ.out]; omega)
                    subst hn1
                    subst hcap
                    replace HFE : Hid (K.length + 1 = fl) := by have := HFE.out; unfold Hid; omega
                    by_cases hfn : fl < k + 1
                    · have hcf : ¬ k + 1 = fl := by omega
                      have hfi : (fl : Int) ≤ (k : Int) + 1 := by omega
                      generalize σ.val o = z at *
                      clear h1 h0 hm1 hfl
                      go_wp2_with (first
                        | (at_builtin; refine wpList_append_room rfl _ _ 98 rfl 100 i0 2 Try.underlying98 hi0 hz1 g 0 K.length (k + 1) rfl ⟨wr.heap.size + 1, 0, none⟩ 1 1 [.pointer (some ⟨b, 0, none⟩), .int .i64 o] rfl rfl (news_at #[.pointer (some ⟨b, 0, none⟩), .int .i64 o] 100 (by simp)) (by simp [Value.oneCell']) (by omega) (fun t ht => HSP.out t ht) ?_)
                        | (go_at_call 50; refine (unhide HVO).mono ?_; rintro e w1 ⟨rfl, n3, rfl⟩; obtain ⟨x1, x2, RR, x3⟩ := SX.out n3; have X1 := hide x1; have X2 := hide x2; have X3 := hide x3; clear x1 x2 x3)
                        | (at_builtin; refine wpList_append_room rfl _ _ 98 rfl 100 i0 2 Try.underlying98 hi0 hz1 g 0 fl (k + 1) (by rw [← HFE.out]; rfl) ⟨g, 0, none⟩ 0 0 (watC H1.cb (q0.drop (k + 1))) rfl (by rw [watC_len, hdl]; simp) (fun t u hu => by rw [HDN.out] at hu; simp [watC] at hu) (watC_one _ _) (by omega) (fun t ht => by rw [watC_len, hdl] at ht; exact ⟨own_isSome X2.out (by omega), own_fz X2.out rfl _⟩) ?_; refine forget (P := fun W => wpList _ _ _ _ _ W) (fun W => Hid (VX ρ w B s l j g (k + 1) (k + 1) ((K ++ [(i, o)]) ++ q0.drop (k + 1)) RR ρ1 H1 (σ.setW j ((K ++ [(i, o)]) ++ q0.drop (k + 1))) W)) (by have hh := X3.out; rw [HFE.out, ← Nat.zero_add (fl * 2)] at hh; exact hh) ?_; rintro WX HVX; have hcl := HVX.out.clr (fl := fl) HFL.out hfn))
                      obtain ⟨gw9, capw9, ⟨u6, u1, uj, uz, ugB, ujl, uBl, ugl⟩, ρ9, H9, hR9, hE9⟩ := HVX.out.fin (grownBy_sets g (Builtin.zeroCells (Value.agg #[.pointer none, .int .i64 0]).cells ((k + 1) - fl)).toList (fl * 2) WX) (HVX.out.clrOwn HFL.out _)
                      refine forget (P := fun W => Code.wp Try.prog _ _ _ W) (fun W => (W.cell? ⟨B, 6, none⟩ = some (.slice (some ⟨gw9, 0, none⟩) (σ.setW j ((K ++ [(i, o)]) ++ q0.drop (k + 1))).wat.length capw9) ∧ W.cell? ⟨B, 1, none⟩ = some (.int .i64 s.vars) ∧ W.cell? ⟨gw9, j, none⟩ = some (.slice (some ⟨g, 0, none⟩) (k + 1) (k + 1)) ∧ W.frozen? ⟨gw9, j, none⟩ = false) ∧ Hid (Rep ρ9 (W.setCell ⟨gw9, j, none⟩ (.slice (some ⟨g, 0, none⟩) fl (k + 1))) B H9 (σ.setW j ((K ++ [(i, o)]) ++ q0.drop (k + 1)))) ∧ Hid (Ev ρ w ρ9 (W.setCell ⟨gw9, j, none⟩ (.slice (some ⟨g, 0, none⟩) fl (k + 1))))) ⟨⟨u6, u1, uj, uz⟩, by rw [HFL.out] at hR9; exact hR9, by rw [HFL.out] at hE9; exact hE9⟩ ?_
                      rintro W9 ⟨⟨t6, t1, tj, tz⟩, HR9, HE9⟩
                      clear u6 u1 uj uz hR9 hE9 uBl ugl
                      have hb9 : (s.vars : Int) + l < (σ.setW j ((K ++ [(i, o)]) ++ q0.drop (k + 1))).wat.length := by omega
                      clear hsw9
                      generalize (σ.setW j ((K ++ [(i, o)]) ++ q0.drop (k + 1))).wat.length = N9 at *
                      go_region_held3 (fun w' => w'.cell? ⟨B, 6, none⟩ = some (.slice (some ⟨gw9, 0, none⟩) N9 capw9) ∧ w'.cell? ⟨B, 1, none⟩ = some (.int .i64 s.vars)) (go_keep) (first | (go_at_call 55; refine (at_cell _ _ s.vars _ ?_ (by omega) (by omega) (by omega)).mono ?_; (simp [*]); rintro e w' ⟨rfl, rfl⟩))
                      go_wp2
                      (try rw [Exit.noGoto_ret])
                      go_ret
                      exact ⟨_, rfl, ρ9, H9, (σ.setW j ((K ++ [(i, o)]) ++ q0.drop (k + 1))), HR9.out.drew, HVX.out.inv, HE9.out.trans (Ev.drew _ _), HVX.out.frm, HVX.out.late, HVX.out.head, .inr HBR.out⟩
                    · have hfn' : fl = k + 1 := by omega
                      rw [hfn'] at HFE HFL
                      generalize σ.val o = z at *
                      clear h1 h0 hm1 hfl hfn hfn'
                      go_wp2_with (first
                        | (at_builtin; refine wpList_append_room rfl _ _ 98 rfl 100 i0 2 Try.underlying98 hi0 hz1 g 0 K.length (k + 1) rfl ⟨wr.heap.size + 1, 0, none⟩ 1 1 [.pointer (some ⟨b, 0, none⟩), .int .i64 o] rfl rfl (news_at #[.pointer (some ⟨b, 0, none⟩), .int .i64 o] 100 (by simp)) (by simp [Value.oneCell']) (by omega) (fun t ht => HSP.out t ht) ?_)
                        | (go_at_call 50; refine (unhide HVO).mono ?_; rintro e w1 ⟨rfl, n3, rfl⟩; obtain ⟨x1, x2, RR, x3⟩ := SX.out n3; have X1 := hide x1; have X2 := hide x2; have X3 := hide x3; clear x1 x2 x3)
                        | (at_builtin; refine wpList_append_room rfl _ _ 98 rfl 100 i0 2 Try.underlying98 hi0 hz1 g 0 (k + 1) (k + 1) (by rw [← HFE.out]; rfl) ⟨g, 0, none⟩ 0 0 (watC H1.cb (q0.drop (k + 1))) rfl (by rw [watC_len, hdl]; simp) (fun t u hu => by rw [HDN.out] at hu; simp [watC] at hu) (watC_one _ _) (by omega) (fun t ht => by rw [watC_len, hdl] at ht; exact ⟨own_isSome X2.out (by omega), own_fz X2.out rfl _⟩) ?_; refine forget (P := fun W => wpList _ _ _ _ _ W) (fun W => Hid (VX ρ w B s l j g (k + 1) (k + 1) ((K ++ [(i, o)]) ++ q0.drop (k + 1)) RR ρ1 H1 (σ.setW j ((K ++ [(i, o)]) ++ q0.drop (k + 1))) W)) (by have hh := X3.out; rw [HFE.out, ← Nat.zero_add ((k + 1) * 2)] at hh; exact hh) ?_; rintro WX HVX))
                      obtain ⟨gw9, capw9, ⟨u6, u1, uj, uz, ugB, ujl, uBl, ugl⟩, ρ9, H9, hR9, hE9⟩ := HVX.out.fin (World.grownBy.refl WX _) HVX.out.cut
                      refine forget (P := fun W => Code.wp Try.prog _ _ _ W) (fun W => (W.cell? ⟨B, 6, none⟩ = some (.slice (some ⟨gw9, 0, none⟩) (σ.setW j ((K ++ [(i, o)]) ++ q0.drop (k + 1))).wat.length capw9) ∧ W.cell? ⟨B, 1, none⟩ = some (.int .i64 s.vars) ∧ W.cell? ⟨gw9, j, none⟩ = some (.slice (some ⟨g, 0, none⟩) (k + 1) (k + 1)) ∧ W.frozen? ⟨gw9, j, none⟩ = false) ∧ Hid (Rep ρ9 (W.setCell ⟨gw9, j, none⟩ (.slice (some ⟨g, 0, none⟩) (k + 1) (k + 1))) B H9 (σ.setW j ((K ++ [(i, o)]) ++ q0.drop (k + 1)))) ∧ Hid (Ev ρ w ρ9 (W.setCell ⟨gw9, j, none⟩ (.slice (some ⟨g, 0, none⟩) (k + 1) (k + 1))))) ⟨⟨u6, u1, uj, uz⟩, by rw [HFL.out] at hR9; exact hR9, by rw [HFL.out] at hE9; exact hE9⟩ ?_
                      rintro W9 ⟨⟨t6, t1, tj, tz⟩, HR9, HE9⟩
                      clear u6 u1 uj uz hR9 hE9 uBl ugl
                      have hb9 : (s.vars : Int) + l < (σ.setW j ((K ++ [(i, o)]) ++ q0.drop (k + 1))).wat.length := by omega
                      clear hsw9
                      generalize (σ.setW j ((K ++ [(i, o)]) ++ q0.drop (k + 1))).wat.length = N9 at *
                      go_region_held3 (fun w' => w'.cell? ⟨B, 6, none⟩ = some (.slice (some ⟨gw9, 0, none⟩) N9 capw9) ∧ w'.cell? ⟨B, 1, none⟩ = some (.int .i64 s.vars)) (go_keep) (first | (go_at_call 55; refine (at_cell _ _ s.vars _ ?_ (by omega) (by omega) (by omega)).mono ?_; (simp [*]); rintro e w' ⟨rfl, rfl⟩))
                      go_wp2
                      (try rw [Exit.noGoto_ret])
                      go_ret
                      exact ⟨_, rfl, ρ9, H9, (σ.setW j ((K ++ [(i, o)]) ++ q0.drop (k + 1))), HR9.out.drew, HVX.out.inv, HE9.out.trans (Ev.drew _ _), HVX.out.frm, HVX.out.late, HVX.out.head, .inr HBR.out⟩
                  · by_cases hfn : fl < n
                    · have hcf : ¬ cap = fl := by omega
                      have hfi : (fl : Int) ≤ cap := by omega
                      have hfi2 : (fl : Int) ≤ n := by omega
                      generalize σ.val o = z at *
                      clear h1 h0 hm1 hfl
                      go_wp2_with (first
                        | (at_builtin; refine wpList_append_room rfl _ _ 98 rfl 100 i0 2 Try.underlying98 hi0 hz1 g 0 K.length cap rfl ⟨wr.heap.size + 1, 0, none⟩ 1 1 [.pointer (some ⟨b, 0, none⟩), .int .i64 o] rfl rfl (news_at #[.pointer (some ⟨b, 0, none⟩), .int .i64 o] 100 (by simp)) (by simp [Value.oneCell']) (by omega) (fun t ht => HSP.out t ht) ?_)
                        | (go_at_call 50; refine (unhide HVO).mono ?_; rintro e w1 ⟨rfl, n3, rfl⟩; obtain ⟨x1, x2, RR, x3⟩ := SX.out n3; have X1 := hide x1; have X2 := hide x2; have X3 := hide x3; clear x1 x2 x3)
                        | (at_builtin; refine wpList_append_room rfl _ _ 98 rfl 100 i0 2 Try.underlying98 hi0 hz1 g 0 (K.length + 1) cap rfl ⟨g, (k + 1) * 2, none⟩ (n - (k + 1)) (cap - (k + 1)) (watC H1.cb (q0.drop (k + 1))) rfl (by rw [watC_len, hdl]) (fun t u hu => by rw [Addr.add_lit]; exact X1.out t u hu) (watC_one _ _) (by omega) (fun t ht => by rw [watC_len, hdl] at ht; exact ⟨own_isSome X2.out (by omega), own_fz X2.out rfl _⟩) ?_; rw [HFE.out]; refine forget (P := fun W => wpList _ _ _ _ _ W) (fun W => Hid (VX ρ w B s l j g n cap ((K ++ [(i, o)]) ++ q0.drop (k + 1)) RR ρ1 H1 (σ.setW j ((K ++ [(i, o)]) ++ q0.drop (k + 1))) W)) (by have hh := X3.out; rw [← Nat.zero_add ((K.length + 1) * 2)] at hh; exact hh) ?_; rintro WX HVX; have hcl := HVX.out.clr (fl := fl) HFL.out hfn))
                      obtain ⟨gw9, capw9, ⟨u6, u1, uj, uz, ugB, ujl, uBl, ugl⟩, ρ9, H9, hR9, hE9⟩ := HVX.out.fin (grownBy_sets g (Builtin.zeroCells (Value.agg #[.pointer none, .int .i64 0]).cells (n - fl)).toList (fl * 2) WX) (HVX.out.clrOwn HFL.out _)
                      refine forget (P := fun W => Code.wp Try.prog _ _ _ W) (fun W => (W.cell? ⟨B, 6, none⟩ = some (.slice (some ⟨gw9, 0, none⟩) (σ.setW j ((K ++ [(i, o)]) ++ q0.drop (k + 1))).wat.length capw9) ∧ W.cell? ⟨B, 1, none⟩ = some (.int .i64 s.vars) ∧ W.cell? ⟨gw9, j, none⟩ = some (.slice (some ⟨g, 0, none⟩) n cap) ∧ W.frozen? ⟨gw9, j, none⟩ = false) ∧ Hid (Rep ρ9 (W.setCell ⟨gw9, j, none⟩ (.slice (some ⟨g, 0, none⟩) fl cap)) B H9 (σ.setW j ((K ++ [(i, o)]) ++ q0.drop (k + 1)))) ∧ Hid (Ev ρ w ρ9 (W.setCell ⟨gw9, j, none⟩ (.slice (some ⟨g, 0, none⟩) fl cap)))) ⟨⟨u6, u1, uj, uz⟩, by rw [HFL.out] at hR9; exact hR9, by rw [HFL.out] at hE9; exact hE9⟩ ?_
                      rintro W9 ⟨⟨t6, t1, tj, tz⟩, HR9, HE9⟩
                      clear u6 u1 uj uz hR9 hE9 uBl ugl
                      have hb9 : (s.vars : Int) + l < (σ.setW j ((K ++ [(i, o)]) ++ q0.drop (k + 1))).wat.length := by omega
                      clear hsw9
                      generalize (σ.setW j ((K ++ [(i, o)]) ++ q0.drop (k + 1))).wat.length = N9 at *
                      go_region_held3 (fun w' => w'.cell? ⟨B, 6, none⟩ = some (.slice (some ⟨gw9, 0, none⟩) N9 capw9) ∧ w'.cell? ⟨B, 1, none⟩ = some (.int .i64 s.vars)) (go_keep) (first | (go_at_call 55; refine (at_cell _ _ s.vars _ ?_ (by omega) (by omega) (by omega)).mono ?_; (simp [*]); rintro e w' ⟨rfl, rfl⟩))
                      go_wp2
                      (try rw [Exit.noGoto_ret])
                      go_ret
                      exact ⟨_, rfl, ρ9, H9, (σ.setW j ((K ++ [(i, o)]) ++ q0.drop (k + 1))), HR9.out.drew, HVX.out.inv, HE9.out.trans (Ev.drew _ _), HVX.out.frm, HVX.out.late, HVX.out.head, .inr HBR.out⟩
                    · have hfn' : fl = n := by omega
                      rw [hfn'] at HFE HFL
                      generalize σ.val o = z at *
                      clear h1 h0 hm1 hfl hfn hfn'
                      by_cases hcn : cap = n
                      · subst hcn
                        go_wp2_with (first
                          | (at_builtin; refine wpList_append_room rfl _ _ 98 rfl 100 i0 2 Try.underlying98 hi0 hz1 g 0 K.length cap rfl ⟨wr.heap.size + 1, 0, none⟩ 1 1 [.pointer (some ⟨b, 0, none⟩), .int .i64 o] rfl rfl (news_at #[.pointer (some ⟨b, 0, none⟩), .int .i64 o] 100 (by simp)) (by simp [Value.oneCell']) (by omega) (fun t ht => HSP.out t ht) ?_)
                          | (go_at_call 50; refine (unhide HVO).mono ?_; rintro e w1 ⟨rfl, n3, rfl⟩; obtain ⟨x1, x2, RR, x3⟩ := SX.out n3; have X1 := hide x1; have X2 := hide x2; have X3 := hide x3; clear x1 x2 x3)
                          | (at_builtin; refine wpList_append_room rfl _ _ 98 rfl 100 i0 2 Try.underlying98 hi0 hz1 g 0 (K.length + 1) cap rfl ⟨g, (k + 1) * 2, none⟩ (cap - (k + 1)) (cap - (k + 1)) (watC H1.cb (q0.drop (k + 1))) rfl (by rw [watC_len, hdl]) (fun t u hu => by rw [Addr.add_lit]; exact X1.out t u hu) (watC_one _ _) (by omega) (fun t ht => by rw [watC_len, hdl] at ht; exact ⟨own_isSome X2.out (by omega), own_fz X2.out rfl _⟩) ?_; rw [HFE.out]; refine forget (P := fun W => wpList _ _ _ _ _ W) (fun W => Hid (VX ρ w B s l j g cap cap ((K ++ [(i, o)]) ++ q0.drop (k + 1)) RR ρ1 H1 (σ.setW j ((K ++ [(i, o)]) ++ q0.drop (k + 1))) W)) (by have hh := X3.out; rw [← Nat.zero_add ((K.length + 1) * 2)] at hh; exact hh) ?_; rintro WX HVX))
                        obtain ⟨gw9, capw9, ⟨u6, u1, uj, uz, ugB, ujl, uBl, ugl⟩, ρ9, H9, hR9, hE9⟩ := HVX.out.fin (World.grownBy.refl WX _) HVX.out.cut
                        refine forget (P := fun W => Code.wp Try.prog _ _ _ W) (fun W => (W.cell? ⟨B, 6, none⟩ = some (.slice (some ⟨gw9, 0, none⟩) (σ.setW j ((K ++ [(i, o)]) ++ q0.drop (k + 1))).wat.length capw9) ∧ W.cell? ⟨B, 1, none⟩ = some (.int .i64 s.vars) ∧ W.cell? ⟨gw9, j, none⟩ = some (.slice (some ⟨g, 0, none⟩) cap cap) ∧ W.frozen? ⟨gw9, j, none⟩ = false) ∧ Hid (Rep ρ9 (W.setCell ⟨gw9, j, none⟩ (.slice (some ⟨g, 0, none⟩) cap cap)) B H9 (σ.setW j ((K ++ [(i, o)]) ++ q0.drop (k + 1)))) ∧ Hid (Ev ρ w ρ9 (W.setCell ⟨gw9, j, none⟩ (.slice (some ⟨g, 0, none⟩) cap cap)))) ⟨⟨u6, u1, uj, uz⟩, by rw [HFL.out] at hR9; exact hR9, by rw [HFL.out] at hE9; exact hE9⟩ ?_
                        rintro W9 ⟨⟨t6, t1, tj, tz⟩, HR9, HE9⟩
                        clear u6 u1 uj uz hR9 hE9 uBl ugl
                        have hb9 : (s.vars : Int) + l < (σ.setW j ((K ++ [(i, o)]) ++ q0.drop (k + 1))).wat.length := by omega
                        clear hsw9
                        generalize (σ.setW j ((K ++ [(i, o)]) ++ q0.drop (k + 1))).wat.length = N9 at *
                        go_region_held3 (fun w' => w'.cell? ⟨B, 6, none⟩ = some (.slice (some ⟨gw9, 0, none⟩) N9 capw9) ∧ w'.cell? ⟨B, 1, none⟩ = some (.int .i64 s.vars)) (go_keep) (first | (go_at_call 55; refine (at_cell _ _ s.vars _ ?_ (by omega) (by omega) (by omega)).mono ?_; (simp [*]); rintro e w' ⟨rfl, rfl⟩))
                        go_wp2
                        (try rw [Exit.noGoto_ret])
                        go_ret
                        exact ⟨_, rfl, ρ9, H9, (σ.setW j ((K ++ [(i, o)]) ++ q0.drop (k + 1))), HR9.out.drew, HVX.out.inv, HE9.out.trans (Ev.drew _ _), HVX.out.frm, HVX.out.late, HVX.out.head, .inr HBR.out⟩
                      · have hcn' : ¬ cap = n := hcn
                        go_wp2_with (first
                          | (at_builtin; refine wpList_append_room rfl _ _ 98 rfl 100 i0 2 Try.underlying98 hi0 hz1 g 0 K.length cap rfl ⟨wr.heap.size + 1, 0, none⟩ 1 1 [.pointer (some ⟨b, 0, none⟩), .int .i64 o] rfl rfl (news_at #[.pointer (some ⟨b, 0, none⟩), .int .i64 o] 100 (by simp)) (by simp [Value.oneCell']) (by omega) (fun t ht => HSP.out t ht) ?_)
                          | (go_at_call 50; refine (unhide HVO).mono ?_; rintro e w1 ⟨rfl, n3, rfl⟩; obtain ⟨x1, x2, RR, x3⟩ := SX.out n3; have X1 := hide x1; have X2 := hide x2; have X3 := hide x3; clear x1 x2 x3)
                          | (at_builtin; refine wpList_append_room rfl _ _ 98 rfl 100 i0 2 Try.underlying98 hi0 hz1 g 0 (K.length + 1) cap rfl ⟨g, (k + 1) * 2, none⟩ (n - (k + 1)) (cap - (k + 1)) (watC H1.cb (q0.drop (k + 1))) rfl (by rw [watC_len, hdl]) (fun t u hu => by rw [Addr.add_lit]; exact X1.out t u hu) (watC_one _ _) (by omega) (fun t ht => by rw [watC_len, hdl] at ht; exact ⟨own_isSome X2.out (by omega), own_fz X2.out rfl _⟩) ?_; rw [HFE.out]; refine forget (P := fun W => wpList _ _ _ _ _ W) (fun W => Hid (VX ρ w B s l j g n cap ((K ++ [(i, o)]) ++ q0.drop (k + 1)) RR ρ1 H1 (σ.setW j ((K ++ [(i, o)]) ++ q0.drop (k + 1))) W)) (by have hh := X3.out; rw [← Nat.zero_add ((K.length + 1) * 2)] at hh; exact hh) ?_; rintro WX HVX))
                        obtain ⟨gw9, capw9, ⟨u6, u1, uj, uz, ugB, ujl, uBl, ugl⟩, ρ9, H9, hR9, hE9⟩ := HVX.out.fin (World.grownBy.refl WX _) HVX.out.cut
                        refine forget (P := fun W => Code.wp Try.prog _ _ _ W) (fun W => (W.cell? ⟨B, 6, none⟩ = some (.slice (some ⟨gw9, 0, none⟩) (σ.setW j ((K ++ [(i, o)]) ++ q0.drop (k + 1))).wat.length capw9) ∧ W.cell? ⟨B, 1, none⟩ = some (.int .i64 s.vars) ∧ W.cell? ⟨gw9, j, none⟩ = some (.slice (some ⟨g, 0, none⟩) n cap) ∧ W.frozen? ⟨gw9, j, none⟩ = false) ∧ Hid (Rep ρ9 (W.setCell ⟨gw9, j, none⟩ (.slice (some ⟨g, 0, none⟩) n cap)) B H9 (σ.setW j ((K ++ [(i, o)]) ++ q0.drop (k + 1)))) ∧ Hid (Ev ρ w ρ9 (W.setCell ⟨gw9, j, none⟩ (.slice (some ⟨g, 0, none⟩) n cap)))) ⟨⟨u6, u1, uj, uz⟩, by rw [HFL.out] at hR9; exact hR9, by rw [HFL.out] at hE9; exact hE9⟩ ?_
                        rintro W9 ⟨⟨t6, t1, tj, tz⟩, HR9, HE9⟩
                        clear u6 u1 uj uz hR9 hE9 uBl ugl
                        have hb9 : (s.vars : Int) + l < (σ.setW j ((K ++ [(i, o)]) ++ q0.drop (k + 1))).wat.length := by omega
                        clear hsw9
                        generalize (σ.setW j ((K ++ [(i, o)]) ++ q0.drop (k + 1))).wat.length = N9 at *
                        go_region_held3 (fun w' => w'.cell? ⟨B, 6, none⟩ = some (.slice (some ⟨gw9, 0, none⟩) N9 capw9) ∧ w'.cell? ⟨B, 1, none⟩ = some (.int .i64 s.vars)) (go_keep) (first | (go_at_call 55; refine (at_cell _ _ s.vars _ ?_ (by omega) (by omega) (by omega)).mono ?_; (simp [*]); rintro e w' ⟨rfl, rfl⟩))
                        go_wp2
                        (try rw [Exit.noGoto_ret])
                        go_ret
                        exact ⟨_, rfl, ρ9, H9, (σ.setW j ((K ++ [(i, o)]) ++ q0.drop (k + 1))), HR9.out.drew, HVX.out.inv, HE9.out.trans (Ev.drew _ _), HVX.out.frm, HVX.out.late, HVX.out.head, .inr HBR.out⟩
    · have HV := hide hv
      have HVX := hide (hv.exit hlt2)
      have hmn := hv.mle
      have hkn := hv.kn
      have hvar := hv.vars
      have hjσ : ix σ.vars l = j := by rw [hvar]; exact HJ.out
      have hsw9 : σ.wat.length = 2 * s.vars + 1 := by rw [hv.inv.sz.wat, hvar]
      clear hv
      by_cases hfn : K.length < n
      · have hcl := HVX.out.clr (fl := K.length) rfl hfn
        have hcf : ¬ cap = K.length := by omega
        have hfi : (K.length : Int) ≤ cap := by omega
        have hfi2 : (K.length : Int) ≤ n := by omega
        go_wp2_with fail
        obtain ⟨gw9, capw9, ⟨u6, u1, uj, uz, ugB, ujl, uBl, ugl⟩, ρ9, H9, hR9, hE9⟩ := HVX.out.fin (grownBy_sets g (Builtin.zeroCells (Value.agg #[.pointer none, .int .i64 0]).cells (n - K.length)).toList (K.length * 2) wr) (HVX.out.clrOwn rfl _)
        refine forget (P := fun W => Code.wp Try.prog _ _ _ W) (fun W => (W.cell? ⟨B, 6, none⟩ = some (.slice (some ⟨gw9, 0, none⟩) σ.wat.length capw9) ∧ W.cell? ⟨B, 1, none⟩ = some (.int .i64 s.vars) ∧ W.cell? ⟨gw9, j, none⟩ = some (.slice (some ⟨g, 0, none⟩) n cap) ∧ W.frozen? ⟨gw9, j, none⟩ = false) ∧ Hid (Rep ρ9 (W.setCell ⟨gw9, j, none⟩ (.slice (some ⟨g, 0, none⟩) K.length cap)) B H9 σ) ∧ Hid (Ev ρ w ρ9 (W.setCell ⟨gw9, j, none⟩ (.slice (some ⟨g, 0, none⟩) K.length cap)))) ⟨⟨u6, u1, uj, uz⟩, by exact hR9, by exact hE9⟩ ?_
        rintro W9 ⟨⟨t6, t1, tj, tz⟩, HR9, HE9⟩
        clear u6 u1 uj uz hR9 hE9 uBl ugl
        have hb9 : (s.vars : Int) + l < σ.wat.length := by omega
        clear hsw9
        generalize σ.wat.length = N9 at *
        go_region_held3 (fun w' => w'.cell? ⟨B, 6, none⟩ = some (.slice (some ⟨gw9, 0, none⟩) N9 capw9) ∧ w'.cell? ⟨B, 1, none⟩ = some (.int .i64 s.vars)) (go_keep) (first | (go_at_call 55; refine (at_cell _ _ s.vars _ ?_ (by omega) (by omega) (by omega)).mono ?_; (simp [*]); rintro e w' ⟨rfl, rfl⟩))
        go_wp2
        (try rw [Exit.noGoto_ret])
        go_ret
        exact ⟨_, rfl, ρ9, H9, σ, HR9.out.drew, HVX.out.inv, HE9.out.trans (Ev.drew _ _), HVX.out.frm, HVX.out.late, HVX.out.head, .inl ⟨rfl, K, by rw [hjσ]; exact HVX.out.wat, HV.out.tru⟩⟩
      · have hfn' : K.length = n := by omega
        have HFL := hide hfn'
        by_cases hcn : cap = n
        · subst hcn
          go_wp2_with fail
          obtain ⟨gw9, capw9, ⟨u6, u1, uj, uz, ugB, ujl, uBl, ugl⟩, ρ9, H9, hR9, hE9⟩ := HVX.out.fin (World.grownBy.refl wr _) HVX.out.cut
          refine forget (P := fun W => Code.wp Try.prog _ _ _ W) (fun W => (W.cell? ⟨B, 6, none⟩ = some (.slice (some ⟨gw9, 0, none⟩) σ.wat.length capw9) ∧ W.cell? ⟨B, 1, none⟩ = some (.int .i64 s.vars) ∧ W.cell? ⟨gw9, j, none⟩ = some (.slice (some ⟨g, 0, none⟩) cap cap) ∧ W.frozen? ⟨gw9, j, none⟩ = false) ∧ Hid (Rep ρ9 (W.setCell ⟨gw9, j, none⟩ (.slice (some ⟨g, 0, none⟩) cap cap)) B H9 σ) ∧ Hid (Ev ρ w ρ9 (W.setCell ⟨gw9, j, none⟩ (.slice (some ⟨g, 0, none⟩) cap cap)))) ⟨⟨u6, u1, uj, uz⟩, by rw [HFL.out] at hR9; exact hR9, by rw [HFL.out] at hE9; exact hE9⟩ ?_
          rintro W9 ⟨⟨t6, t1, tj, tz⟩, HR9, HE9⟩
          clear u6 u1 uj uz hR9 hE9 uBl ugl
          have hb9 : (s.vars : Int) + l < σ.wat.length := by omega
          clear hsw9
          generalize σ.wat.length = N9 at *
          go_region_held3 (fun w' => w'.cell? ⟨B, 6, none⟩ = some (.slice (some ⟨gw9, 0, none⟩) N9 capw9) ∧ w'.cell? ⟨B, 1, none⟩ = some (.int .i64 s.vars)) (go_keep) (first | (go_at_call 55; refine (at_cell _ _ s.vars _ ?_ (by omega) (by omega) (by omega)).mono ?_; (simp [*]); rintro e w' ⟨rfl, rfl⟩))
          go_wp2
          (try rw [Exit.noGoto_ret])
          go_ret
          exact ⟨_, rfl, ρ9, H9, σ, HR9.out.drew, HVX.out.inv, HE9.out.trans (Ev.drew _ _), HVX.out.frm, HVX.out.late, HVX.out.head, .inl ⟨rfl, K, by rw [hjσ]; exact HVX.out.wat, HV.out.tru⟩⟩
        · go_wp2_with fail
          obtain ⟨gw9, capw9, ⟨u6, u1, uj, uz, ugB, ujl, uBl, ugl⟩, ρ9, H9, hR9, hE9⟩ := HVX.out.fin (World.grownBy.refl wr _) HVX.out.cut
          refine forget (P := fun W => Code.wp Try.prog _ _ _ W) (fun W => (W.cell? ⟨B, 6, none⟩ = some (.slice (some ⟨gw9, 0, none⟩) σ.wat.length capw9) ∧ W.cell? ⟨B, 1, none⟩ = some (.int .i64 s.vars) ∧ W.cell? ⟨gw9, j, none⟩ = some (.slice (some ⟨g, 0, none⟩) n cap) ∧ W.frozen? ⟨gw9, j, none⟩ = false) ∧ Hid (Rep ρ9 (W.setCell ⟨gw9, j, none⟩ (.slice (some ⟨g, 0, none⟩) n cap)) B H9 σ) ∧ Hid (Ev ρ w ρ9 (W.setCell ⟨gw9, j, none⟩ (.slice (some ⟨g, 0, none⟩) n cap)))) ⟨⟨u6, u1, uj, uz⟩, by rw [HFL.out] at hR9; exact hR9, by rw [HFL.out] at hE9; exact hE9⟩ ?_
          rintro W9 ⟨⟨t6, t1, tj, tz⟩, HR9, HE9⟩
          clear u6 u1 uj uz hR9 hE9 uBl ugl
          have hb9 : (s.vars : Int) + l < σ.wat.length := by omega
          clear hsw9
          generalize σ.wat.length = N9 at *
          go_region_held3 (fun w' => w'.cell? ⟨B, 6, none⟩ = some (.slice (some ⟨gw9, 0, none⟩) N9 capw9) ∧ w'.cell? ⟨B, 1, none⟩ = some (.int .i64 s.vars)) (go_keep) (first | (go_at_call 55; refine (at_cell _ _ s.vars _ ?_ (by omega) (by omega) (by omega)).mono ?_; (simp [*]); rintro e w' ⟨rfl, rfl⟩))
          go_wp2
          (try rw [Exit.noGoto_ret])
          go_ret
          exact ⟨_, rfl, ρ9, H9, σ, HR9.out.drew, HVX.out.inv, HE9.out.trans (Ev.drew _ _), HVX.out.frm, HVX.out.late, HVX.out.head, .inl ⟨rfl, K, by rw [hjσ]; exact HVX.out.wat, HV.out.tru⟩⟩
end

end Go.Proofs.Ytlmbgaconjcaiab
