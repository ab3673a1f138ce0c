/- The law of all tokens, walked. -/
import Derived.Test.YtjijikkcpnojcaaWalkZ
set_option linter.unusedVariables false
set_option linter.unusedSimpArgs false
namespace Go.Proofs.Ytjijikkcpnojcaa
open Go.RowKit Go.Conc

theorem scan_none {left : Nat → Nat} {N nx : Nat} : ∀ f i, scan left N nx i f = none → ∀ j, i ≤ j → j < i + f → left ((nx + j) % N) = 0
  | 0, i, _, j, h1, h2 => by omega
  | f + 1, i, h, j, h1, h2 => by
    simp only [scan] at h
    split at h
    · cases h
    · rename_i hp
      by_cases e : j = i
      · subst e; omega
      · exact scan_none f (i + 1) h j (by omega) (by omega)
theorem any_none_all {left : Nat → Nat} {N nx : Nat} (hN : 0 < N) (h : anyK left N nx = none) : ∀ i, i < N → left i = 0 := by
  intro i hi
  have hm := Nat.mod_lt nx hN
  obtain ⟨j, hj, e⟩ : ∃ j, j < N ∧ (nx + j) % N = i := by
    by_cases hle : nx % N ≤ i
    · refine ⟨i - nx % N, by omega, ?_⟩
      have : nx + (i - nx % N) = i + N * (nx / N) := by have := Nat.mod_add_div nx N; omega
      rw [this, Nat.add_mul_mod_self_left, Nat.mod_eq_of_lt hi]
    · refine ⟨i + N - nx % N, by omega, ?_⟩
      have : nx + (i + N - nx % N) = i + N * (nx / N + 1) := by have := Nat.mod_add_div nx N; rw [Nat.mul_add]; omega
      rw [this, Nat.add_mul_mod_self_left, Nat.mod_eq_of_lt hi]
  have := scan_none N 0 h j (by omega) (by omega)
  rw [e] at this
  exact this
theorem sumN_zero {f : Nat → Nat} : ∀ n, (∀ i, i < n → f i = 0) → sumN f n = 0
  | 0, _ => rfl
  | n + 1, h => by simp only [sumN]; rw [sumN_zero n (fun i hi => h i (by omega)), h n (by omega)]
theorem sumN_all {f : Nat → Nat} : ∀ n, sumN f n = 0 → ∀ i, i < n → f i = 0
  | 0, _, i, hi => by omega
  | n + 1, h, i, hi => by
    simp only [sumN] at h
    by_cases e : i = n
    · subst e; omega
    · exact sumN_all n (by omega) i (by omega)
theorem sumN_less {f : Nat → Nat} {k : Nat} (hp : 0 < f k) : ∀ n, k < n → sumN (upd f k (f k - 1)) n + 1 = sumN f n
  | 0, h => by omega
  | n + 1, h => by
    simp only [sumN]
    by_cases e : n = k
    · subst e
      rw [upd_same, sumN_congr n (f := upd f n (f n - 1)) (g := f) (fun i hi => upd_other (by omega))]
      omega
    · rw [upd_other e]
      have := sumN_less hp n (by omega)
      omega
theorem any_pos {left : Nat → Nat} {N nx : Nat} (hN : 0 < N) (h : 0 < sumN left N) : ∃ k, anyK left N nx = some k := by
  cases e : anyK left N nx with
  | some k => exact ⟨k, rfl⟩
  | none =>
    have := sumN_zero N (any_none_all hN e)
    omega
theorem any_zero {left : Nat → Nat} {N nx : Nat} (hN : 0 < N) (h : sumN left N = 0) : anyK left N nx = none := by
  cases e : anyK left N nx with
  | none => rfl
  | some k =>
    obtain ⟨h1, h2⟩ := scan_some hN N 0 k e
    have := sumN_all N h k h1
    omega

/-- In the midst of it: what was got, what is left. -/
structure Dr (w W : World) (X G p K kc N : Nat) (ch room left0 left got : Nat → Nat) (nx q off ca b cb d : Nat) : Prop where
  pu : Pu W p K kc N ch room left nx
  hd : W.heap[X]? = some (.cells (rv q off ca b cb N d) 31 (0, 0))
  s : Blk W b N cb left0
  g : Blk W G N N got
  ne : G ≠ b
  lG : w.heap.size ≤ G
  lp : w.heap.size ≤ p
  lc : ∀ i, i < N → w.heap.size ≤ ch i
  eq : ∀ i, i < N → got i + left i = left0 i
  bel : Below w.heap.size w W
section
variable {w W W' : World} {X G p K kc N : Nat} {ch room left0 left left' got : Nat → Nat} {nx nx' q off ca b cb d : Nat}
theorem Dr.c1 (h : Dr w W X G p K kc N ch room left0 left got nx q off ca b cb d) : W.cell? ⟨X, 1, none⟩ = some (.slice (some ⟨b, 0, none⟩) N cb) := by simp [World.cell?, h.hd, rv]
/-- One was taken, and is counted. -/
theorem Dr.next (h : Dr w W X G p K kc N ch room left0 left got nx q off ca b cb d) {k : Nat} (hk : k < N) (hp : 0 < left k) (t : PuTo W W' p K kc N ch room (upd left k (left k - 1)) nx') :
    (W'.cell? ⟨G, k, none⟩ = some (.int .i64 (got k : Int)) ∧ W'.frozen? ⟨G, k, none⟩ = false) ∧ Dr w (W'.setCell ⟨G, k, none⟩ (.int .i64 ((got k + 1 : Nat) : Int))) X G p K kc N ch room left0 (upd left k (left k - 1)) (upd got k (got k + 1)) nx' q off ca b cb d := by
  obtain ⟨_, eb⟩ := h.s.ty
  obtain ⟨_, eg⟩ := h.g.ty
  have g' : Blk W' G N N got := h.g.same (t.kp.block G h.g.lt (h.pu.away eg (by decide)))
  have s' : Blk W' b N cb left0 := h.s.same (t.kp.block b h.s.lt (h.pu.away eb (by decide)))
  have x' : W'.heap[X]? = _ := (t.kp.block X (lt_of_block h.hd) (h.pu.away h.hd (by decide))).trans h.hd
  obtain ⟨_, eg'⟩ := g'.ty
  obtain ⟨_, ek, _⟩ := t.pu.kin
  refine ⟨⟨g'.cell hk, g'.fz k⟩, t.pu.same (hd_far (ne_type t.pu.head eg' (by decide))) (hd_far (ne_type ek eg' (by decide))) (fun j hj => hd_far (Ne.symm (ne_chan eg' (t.pu.chs j hj)))), (hd_far (ne_type x' eg' (by decide))).trans x', s'.same (hd_far (Ne.symm h.ne)), g'.set hk _, h.ne, h.lG, h.lp, h.lc, fun i hi => ?_, (bel_kp h.bel t.kp h.lp h.lc).setCell h.lG _⟩
  have := h.eq i hi
  by_cases e : i = k
  · subst e; rw [upd_same, upd_same]; omega
  · rw [upd_other e, upd_other e]; exact this
theorem Dr.drewN (h : Dr w W X G p K kc N ch room left0 left got nx q off ca b cb d) (m : Nat) : Dr w (W.drewN m) X G p K kc N ch room left0 left got nx q off ca b cb d :=
  ⟨h.pu.drewN m, h.hd, h.s, h.g, h.ne, h.lG, h.lp, h.lc, h.eq, below_drewN h.bel m⟩
end
theorem blk_made {w : World} {g N : Nat} (h : w.heap[g]? = some (.cells (madeCells #[.int .i64 0] N) 3)) (hN : N ≤ maxLen) : Blk w g N N (fun _ => 0) := by
  refine ⟨_, h, size_madeCells _ _, Nat.le_refl _, hN, fun i hi => ?_⟩
  rw [← Array.getElem?_toList, toList_madeCells_one]
  simp [hi]
/-- At first: nothing was got. -/
theorem dr_new {w W : World} {X p K kc N : Nat} {ch room left : Nat → Nat} {nx q off ca b cb d : Nat} (hp : Pu W p K kc N ch room left nx) (hx : W.heap[X]? = some (.cells (rv q off ca b cb N d) 31 (0, 0))) (hs : Blk W b N cb left) (lp : w.heap.size ≤ p) (lc : ∀ i, i < N → w.heap.size ≤ ch i) (hb : Below w.heap.size w W) :
    Dr w (W.alloc (.cells (madeCells #[.int .i64 0] N) 3)) X W.heap.size p K kc N ch room left left (fun _ => 0) nx q off ca b cb d := by
  have h8 := hp.n8
  have hb2 : Below W.heap.size W (W.alloc (.cells (madeCells #[.int .i64 0] N) 3)) := (Below.refl _ _).alloc (Nat.le_refl _) _
  have := hs.lt
  exact ⟨hp.below hb2, (hb2.block _ (lt_of_block hx)).trans hx, hs.same (hb2.block _ hs.lt), blk_made (heap_alloc_new W _) (by unfold maxLen; omega), by omega, hb.size, lp, lc, fun i _ => Nat.zero_add _, hb.trans (hb2.mono hb.size)⟩

set_option maxHeartbeats 4000000 in
theorem drains_any (w : World) (al : Option Addr) (ca : Nat) (xs : List Int) (hr : Row w al xs) (hxl : xs.length ≤ maxLen) (aa : Option Addr) (cap : Nat) (l : List ActD) (hl : Acts w aa l) (hll : l.length ≤ maxLen) :
    Calls Try.prog 4 #[.slice al xs.length ca, .slice aa l.length cap] w fun e w' => e = .returned (.bool true) ∧ Below w.heap.size w w' := by
  have GM := refMay_any w al ca xs hr hxl
  have GW : Hid (∀ W, Calls Try.prog 8 #[] W fun e w' => e = .returned (.bool true) ∧ Below W.heap.size W w') := fun W => awake_any W
  cases hm : mayB xs with
  | false =>
    rw [hm] at GM
    have GM := hide GM
    clear hr hl hm hxl hll
    generalize xs.length = N at *
    generalize l.length = L at *
    go_enter Try.func4, Try.ntmps4
    go_wp2_with (first | (go_at_call 6; refine (unhide GM).mono ?_; rintro e w0 ⟨rfl, hw0⟩; subst w0) | (go_at_call 8; refine (unhide GW _).mono ?_; rintro e w3 ⟨rfl, hb3⟩))
    go_ret
    exact ⟨rfl, hb3⟩
  | true =>
    rw [hm] at GM
    have GM := hide GM
    obtain ⟨q, off, rfl, GP⟩ := play_any w al ca xs hr hm aa cap l hl hll
    have GP := hide GP
    clear hr hl hm hxl hll
    generalize xs.length = N at *
    generalize roomF xs = room at *
    generalize l.length = L at *
    go_enter Try.func4, Try.ntmps4
    go_upto_region 6 with (first | (go_at_call 6; refine (unhide GM).mono ?_; rintro e w0 ⟨rfl, hw0⟩; subst w0) | (go_at_call 9; refine (unhide GP).mono ?_; rintro e w1 ⟨p, K, kc, ch, left, nx, b, cb, d, rfl, hp, hrf, hb, lp, lc⟩; unfold rv))
    have hbx : Below w1.heap.size w1 (w1.alloc (.cells (rv q off ca b cb N d) 31)) := (Below.refl _ _).alloc (Nat.le_refl _) _
    have HP := hide (hp.below hbx)
    have HS := hide (hrf.s.same (hbx.block _ hrf.s.lt))
    have HX := hide (heap_alloc_new w1 (.cells (rv q off ca b cb N d) 31))
    have HB := hide (hb.trans (hbx.mono hb.size))
    have LP := hide lp
    have LC := hide lc
    have hN8 := hp.n8
    have hN1 := hp.n1
    have hlf : Hid (∀ i, i < N → left i ≤ 4096) := fun i hi => Nat.le_trans (hp.le i hi) (hp.rm i hi)
    unfold rv at HP HS HX HB
    clear hp hrf hb hbx lp lc GM GP
    refine forget (P := fun W => Code.wp Try.prog _ _ _ W) (fun W => Hid (Pu W p K kc N ch room left nx) ∧ Hid (Blk W b N cb left) ∧ Hid (W.heap[w1.heap.size]? = some (.cells (rv q off ca b cb N d) 31)) ∧ Hid (Below w.heap.size w W)) ⟨HP, HS, HX, HB⟩ ?_
    clear HP HS HX HB
    generalize w1.heap.size = X
    rintro W1 ⟨HP, HS, HX, HB⟩
    have c1 : W1.cell? ⟨X, 1, none⟩ = some (.slice (some ⟨b, 0, none⟩) N cb) := by simp [World.cell?, HX.out, rv]
    go_wp2
    go_loop [8, 9] (fun x i => ∃ k : Nat, k ≤ N ∧ i = .int .i64 (k : Int) ∧ x = .int .i64 (sumN left k : Int)) (fun _ i => N - (intOf i).toNat)
    case atStart => exact ⟨0, Nat.zero_le _, rfl, rfl⟩
    case round =>
      obtain ⟨k, hk, rfl, rfl⟩ := hrel
      have hsb := sumN_bd k (f := left) (fun i hi => hlf.out i (by omega))
      by_cases hlt : k < N
      · have es := HS.out.cell hlt
        have hlk := hlf.out k hlt
        have e1 : Hid (sumN left (k + 1) = sumN left k + left k) := rfl
        generalize sumN left k = S at *
        generalize left k = y at *
        go_wp2
        go_round
        case rel => exact ⟨k + 1, by omega, by go_num, by rw [e1.out]; go_num⟩
        case measure => simp [intOf]; omega
      · have hkN : k = N := by omega
        subst hkN
        clear hlt hk
        obtain ⟨S, hS⟩ : ∃ S, S = sumN left k := ⟨_, rfl⟩
        rw [← hS] at hsb ⊢
        have HSS := hide hS
        clear hS
        by_cases h3 : S ≤ 3000
        · have mk : ∀ W : World, (Instr.makeSlice 22 (.int .i64 (k : Int)) (.int .i64 (k : Int))).run Try.prog W = .ok (.slice (some ⟨W.heap.size, 0, none⟩) k k) (W.alloc (.cells (madeCells #[.int .i64 0] k) 3)) := fun W => run_make_row' 22 3 (.int .i64 0) 8 Try.underlying22 Try.info3 rfl .i64 .i64 k (by omega) (by omega) W
          go_upto_region 14 with fail
          refine forget (P := fun W => Code.wp Try.prog _ _ _ W) (fun W => Hid (Dr w W X W1.heap.size p K kc k ch room left left (fun _ => 0) nx q off ca b cb d)) (dr_new HP.out HX.out HS.out LP.out LC.out HB.out) ?_
          clear mk c1 HP HX HS LP LC HB
          generalize W1.heap.size = G
          intro W2 HD0
          go_wp2
          go_loopw [11] (fun x W => ∃ (t nx' : Nat) (left' got : Nat → Nat), t ≤ S ∧ x = .int .i64 (t : Int) ∧ Hid (Dr w W X G p K kc k ch room left left' got nx' q off ca b cb d) ∧ Hid (sumN left' k + t = S)) (fun x _ => S - (intOf x).toNat)
          case atStart => exact ⟨0, nx, left, fun _ => 0, Nat.zero_le _, rfl, HD0, HSS.out.symm⟩
          case round =>
            clear HD0 HSS
            obtain ⟨t, nx', left', got, ht, rfl, HD, HE⟩ := hrel
            by_cases hlt : t < S
            · obtain ⟨kx, hkx⟩ := any_pos (left := left') (N := k) (nx := nx') hN1 (by have := HE.out; omega)
              obtain ⟨hkN, hkp⟩ := scan_some hN1 k 0 kx hkx
              have GA := hide (any_some wr p K kc k ch room left' nx' kx HD.out.pu hkx)
              have hsl := sumN_less hkp k hkN
              have HE2 : Hid (sumN (upd left' kx (left' kx - 1)) k + (t + 1) = S) := by have := HE.out; show _ = _; omega
              have hgb : got kx ≤ 4096 := by have h1 := HD.out.eq kx hkN; have h2 := hlf.out kx hkN; omega
              have e1 : ((got kx + 1 : Nat) : Int) = (got kx : Int) + 1 := by omega
              have HKP := hide hkp
              have HE1 := hide e1
              clear hkx hsl HE e1 hkp
              go_wp2_with (first | (go_at_call 11; refine (unhide GA).mono ?_; rintro e w2 ⟨rfl, tt⟩; obtain ⟨⟨cg, fg⟩, D2⟩ := HD.out.next hkN HKP.out tt; rw [HE1.out] at D2; have HD2 := hide D2; clear D2 tt))
              go_roundw
              case rel => exact ⟨t + 1, kx + 1, upd left' kx (left' kx - 1), upd got kx (got kx + 1), by omega, by go_num, HD2, HE2⟩
              case measure => simp [intOf]; omega
            · have hz : sumN left' k = 0 := by have := HE.out; omega
              have hall := sumN_all k hz
              have HN := hide (any_zero (nx := nx') hN1 hz)
              have HZ := hide hall
              have hts : t = S := by omega
              clear hz hall HE hlt ht
              subst hts
              go_wp2
              go_loopw [14] (fun x W => ∃ i : Nat, i ≤ k ∧ x = .int .i64 (i : Int) ∧ Hid (Dr w W X G p K kc k ch room left left' got nx' q off ca b cb d)) (fun x _ => k - (intOf x).toNat)
              case atStart => exact ⟨0, Nat.zero_le _, rfl, HD⟩
              case round =>
                clear HD
                obtain ⟨i, hi, rfl, HD⟩ := hrel
                have c1 := HD.out.c1
                by_cases hlt : i < k
                · have e1 := HD.out.eq i hlt
                  rw [HZ.out i hlt, Nat.add_zero] at e1
                  have cg := HD.out.g.cell hlt
                  have cs := HD.out.s.cell hlt
                  rw [← e1] at cs
                  have GL : Hid (∀ m, Calls Try.prog 12 #[.pointer (some ⟨p, 0, none⟩), .int .i64 (i : Int)] (wr.drewN m) fun e w' => e = .returned (.int .i64 0) ∧ w' = wr.drewN m) := by
                    intro m
                    have := left_yes (wr.drewN m) p K kc k ch room left' nx' i (HD.out.pu.drewN m) hlt
                    rw [HZ.out i hlt] at this
                    exact this
                  clear e1
                  generalize got i = y at *
                  have hyy : ((y : Int) != y) = false := by simp
                  go_upto_region 24 with fail
                  go_quiet ((go_at_call 12; exact Calls.quiet_of_same (unhide GL _)))
                  go_wp2
                  go_roundw
                  case rel => exact ⟨i + 1, by omega, by go_num, HD.out.drewN _⟩
                  case measure => simp [intOf]; omega
                · have GA : Hid (Calls Try.prog 11 #[.pointer (some ⟨p, 0, none⟩)] wr fun e w' => e = .returned (.tuple #[.int .i64 0, .bool false]) ∧ Below wr.heap.size wr w') := by
                    refine (any_none wr p K kc k ch room left' nx' HD.out.pu HN.out).mono ?_
                    rintro e w' ⟨rfl, m, rfl⟩
                    exact ⟨rfl, below_drewN (Below.refl _ _) m⟩
                  go_wp2_with (first | (go_at_call 11; refine (unhide GA).mono ?_; rintro e w2 ⟨rfl, hb2⟩) | (go_at_call 8; refine (unhide GW _).mono ?_; rintro e w3 ⟨rfl, hb3⟩))
                  go_ret
                  have h2 := HD.out.bel.trans (hb2.mono HD.out.bel.size)
                  exact ⟨rfl, h2.trans (hb3.mono h2.size)⟩
        · have h3' : 3000 < S := by omega
          clear h3
          go_wp2_with (first | (go_at_call 8; refine (unhide GW _).mono ?_; rintro e w3 ⟨rfl, hb3⟩))
          go_ret
          exact ⟨rfl, HB.out.trans (hb3.mono HB.out.size)⟩
end Go.Proofs.Ytjijikkcpnojcaa
