/- Contract of the law's like. -/
import Derived.Test.YtidhnmooloedmaaWalkX
set_option linter.unusedVariables false
set_option linter.unusedSimpArgs false
namespace Go.Proofs.Ytidhnmooloedmaa
open Go.RowKit

structure Lk (w W : World) (X B S P O c n a ca b cb : Nat) (s : HS) : Prop where
  hp : Hp W B S P O c n s
  rf : Rf W a ca b cb n (inB s.pl) s.sc
  hd : W.heap[X]? = some (.cells (rv a ca b cb n s.st) 27 (0, 0))
  bel : Below w.heap.size w W
section
variable {w W W' : World} {X B S P O c n a ca b cb : Nat} {s : HS}
theorem Lk.below (h : Lk w W X B S P O c n a ca b cb s) (hb : Below W.heap.size W W') : Lk w W' X B S P O c n a ca b cb s :=
  ⟨h.hp.below hb, h.rf.below hb, (hb.block _ (lt_of_block h.hd)).trans h.hd, h.bel.trans (hb.mono h.bel.size)⟩
theorem Lk.drewN (h : Lk w W X B S P O c n a ca b cb s) (m : Nat) : Lk w (W.drewN m) X B S P O c n a ca b cb s := h.below (below_drewN (Below.refl _ _) m)
theorem Lk.c0 (h : Lk w W X B S P O c n a ca b cb s) : W.cell? ⟨X, 0, none⟩ = some (.slice (some ⟨a, 0, none⟩) (n + 1) ca) := by simp [World.cell?, h.hd, rv]
theorem Lk.c1 (h : Lk w W X B S P O c n a ca b cb s) : W.cell? ⟨X, 1, none⟩ = some (.slice (some ⟨b, 0, none⟩) (n + 1) cb) := by simp [World.cell?, h.hd, rv]
theorem Lk.c2 (h : Lk w W X B S P O c n a ca b cb s) : W.cell? ⟨X, 2, none⟩ = some (.int .i64 s.st) := by simp [World.cell?, h.hd, rv]
end

/-- A region that draws its order, its worlds all of one kind. -/
theorem wp_region_class {P : Program} {C : World → Prop} {id : Nat} {Q : Exit → Act → World → Prop} {a : Act} {w : World} {l : List Oper} (hm : P.follows .mixedOrders = true) (hB : Region.lexB .any l.toArray = true) (hC : C { w with drawn := w.drawn + 1 })
    (h : wpQuiet P l.toArray C (fun a' => ∀ w', C w' → Q .normal a' w') l a) : (Code.region id l.toArray true).wp P Q a w :=
  wp_region_quiet (C := C) hm hB hC (by simpa using h)
/-- A world of that kind. -/
structure LkW (w : World) (X B S P O c n a ca b cb : Nat) (s : HS) where
  W : World
  h : Lk w W X B S P O c n a ca b cb s

/-- What Best tells: 0 and false, if there is none. -/
def bestV (s : HS) : Nat := if s.k = 0 then 0 else s.od 0
def bestB (s : HS) : Bool := decide (s.k ≠ 0)
theorem best_all (w : World) (B S P O c n : Nat) (s : HS) (hA : Hp w B S P O c n s) : Calls Try.prog 20 #[.pointer (some ⟨B, 0, none⟩)] w fun e w' => e = .returned (.tuple #[.int .i64 (bestV s : Int), .bool (bestB s)]) ∧ w' = w := by
  by_cases h : s.k = 0
  · have := best_none w B S P O c n s hA h
    unfold bestV bestB
    simpa [h] using this
  · have := best_some w B S P O c n s hA (by omega)
    unfold bestV bestB
    simpa [h] using this
theorem bestV_pos {n : Nat} {s : HS} (h : WF n s) : bestB s = decide ((bestV s : Int) > 0) := by
  unfold bestV bestB
  by_cases e : s.k = 0
  · simp [e]
  · have := h.at' 0 (by omega)
    simp [e]; omega

set_option maxHeartbeats 4000000 in
set_option maxRecDepth 100000 in
theorem like_any (w : World) (B S P O c n a ca b cb : Nat) (s : HS) (hA : Hp w B S P O c n s) (hF : Full n s) (hR : Rf w a ca b cb n (inB s.pl) s.sc) :
    Calls Try.prog 8 #[.pointer (some ⟨B, 0, none⟩), .agg (rv a ca b cb n s.st)] w fun e w' => e = .returned (.bool true) ∧ Below w.heap.size w w' := by
  have hn := hA.n20
  have hL : Lk w (w.alloc (.cells (rv a ca b cb n s.st) 27)) w.heap.size B S P O c n a ca b cb s := by
    have hb : Below w.heap.size w (w.alloc (.cells (rv a ca b cb n s.st) 27)) := (Below.refl _ _).alloc (Nat.le_refl _) _
    exact ⟨hA.below hb, hR.below hb, heap_alloc_new w _, hb⟩
  have HL := hide hL
  have G1 := hide (best_all _ B S P O c n s hL.hp)
  have hbv : bestF (inB s.pl) s.sc n = bestV s := best_is hF.wf hF.hp
  have hbb := bestV_pos hF.wf
  have hk : lenF (inB s.pl) n = s.k := hF.k.symm
  have HF := hide hF
  have hkn := hF.wf.kn
  clear hL hA hR hF
  unfold rv at G1 ⊢
  rw [hbb] at G1
  clear hbb
  go_enter Try.func8, Try.ntmps8
  go_upto_region 2 with (first | (go_at_call 20; refine (unhide G1).mono ?_; rintro e w0 ⟨rfl, hw0⟩; subst w0))
  refine forget (P := fun W => Code.wp Try.prog _ _ _ W) (fun W => Hid (Lk w W w.heap.size B S P O c n a ca b cb s)) HL ?_
  intro W1 HL1
  obtain ⟨X, hX⟩ : ∃ X, X = w.heap.size := ⟨_, rfl⟩
  rw [← hX] at HL1 ⊢
  clear hX HL G1
  have c0 := HL1.out.c0
  have c1 := HL1.out.c1
  have c2 := HL1.out.c2
  have hbest := refBest_any W1 a ca b cb n _ _ s.st HL1.out.rf hn
  rw [hbv] at hbest
  unfold rv at hbest
  have G2 := hide hbest
  clear hbest hbv
  generalize bestV s = y at *
  go_upto_region 3 with (first | (go_at_call 25; refine (unhide G2).mono ?_; rintro e w2 ⟨rfl, hb2⟩))
  have HL2 := hide (HL1.out.below hb2)
  clear hb2 HL1 G2 c0 c1 c2
  have c0 := HL2.out.c0
  have c1 := HL2.out.c1
  have c2 := HL2.out.c2
  have GL : Hid (∀ W, Lk w W X B S P O c n a ca b cb s → Calls Try.prog 10 #[.agg #[.slice (some ⟨a, 0, none⟩) (n + 1) ca, .slice (some ⟨b, 0, none⟩) (n + 1) cb, .int .i64 s.st]] W fun e w' => e = .returned (.int .i64 (s.k : Int)) ∧ Below W.heap.size W w') := by
    intro W h
    have := refLen_any W a ca b cb n _ _ s.st h.rf hn
    rw [hk] at this
    exact this
  clear hk
  go_cut [38] from 16 to 38 (fun x wx => x = .bool false ∧ Hid (Lk w wx X B S P O c n a ca b cb s))
  case first =>
    generalize hstt : s.st = st at *
    have HST := hide hstt
    have hd1 : ((y : Int) != y) = false := by simp
    generalize hsk : s.k = sk at *
    have HSK := hide hsk
    clear hstt hsk
    have k0 : ∀ p : LkW w X B S P O c n a ca b cb s, p.W.cell? ⟨X, 0, none⟩ = some (.slice (some ⟨a, 0, none⟩) (n + 1) ca) := fun p => p.h.c0
    have k1 : ∀ p : LkW w X B S P O c n a ca b cb s, p.W.cell? ⟨X, 1, none⟩ = some (.slice (some ⟨b, 0, none⟩) (n + 1) cb) := fun p => p.h.c1
    have k2 : ∀ p : LkW w X B S P O c n a ca b cb s, p.W.cell? ⟨X, 2, none⟩ = some (.int .i64 st) := fun p => HST.out ▸ p.h.c2
    have inst : Nonempty (LkW w X B S P O c n a ca b cb s) := ⟨⟨_, HL2.out⟩⟩
    refine wp_region_class (C := fun W' => ∃ p : LkW w X B S P O c n a ca b cb s, W' = p.W) (by kernel_rfl) (by kernel_rfl) ⟨⟨_, HL2.out.drewN 1⟩, rfl⟩ ?_
    repeat (go_big_quiet_step ((first | (go_at_call 17; rename_i p; refine (step_any _ B S P O c n s p.h.hp).mono ?_; rintro e w0 ⟨rfl, hw0⟩; exact ⟨by rw [HST.out], p, hw0⟩) | (go_at_call 13; rename_i p; refine (len_any _ B S P O c n s p.h.hp).mono ?_; rintro e w0 ⟨rfl, hw0⟩; exact ⟨by rw [HSK.out], p, hw0⟩) | (go_at_call 10; rename_i p; refine (unhide GL _ p.h).mono ?_; rintro e w3 ⟨rfl, hb3⟩; exact ⟨rfl, ⟨_, p.h.below hb3⟩, rfl⟩))))
    refine wpQuiet_nil ?_
    rintro _ ⟨p, rfl⟩
    go_wp2_with fail
    go_meet
    case rel => exact ⟨rfl, p.h⟩
  case rest =>
  obtain ⟨rfl, HL3⟩ := hcut
  clear HL2 c0 c1 c2 GL
  go_wp2
  go_loopw [8] (fun i wx => ∃ m : Nat, 1 ≤ m ∧ m ≤ n + 1 ∧ i = .int .i64 (m : Int) ∧ Hid (Lk w wx X B S P O c n a ca b cb s)) (fun i _ => n + 1 - (intOf i).toNat)
  case atStart => exact ⟨1, by omega, by omega, rfl, HL3⟩
  case round =>
    obtain ⟨m, hm1, hm2, rfl, HL4⟩ := hrel
    clear HL3
    have c0 := HL4.out.c0
    by_cases hlt : m < n + 1
    · have k0 : ∀ p : LkW w X B S P O c n a ca b cb s, p.W.cell? ⟨X, 0, none⟩ = some (.slice (some ⟨a, 0, none⟩) (n + 1) ca) := fun p => p.h.c0
      have k1 : ∀ p : LkW w X B S P O c n a ca b cb s, p.W.cell? ⟨X, 1, none⟩ = some (.slice (some ⟨b, 0, none⟩) (n + 1) cb) := fun p => p.h.c1
      have ka : ∀ p : LkW w X B S P O c n a ca b cb s, p.W.cell? ⟨a, m, none⟩ = some (.bool (inB s.pl m)) := fun p => p.h.rf.i.cell hlt
      have kb : ∀ p : LkW w X B S P O c n a ca b cb s, p.W.cell? ⟨b, m, none⟩ = some (.int .i64 (s.sc m)) := fun p => p.h.rf.s.cell hlt
      have inst : Nonempty (LkW w X B S P O c n a ca b cb s) := ⟨⟨_, HL4.out⟩⟩
      have GH : Hid (∀ p : LkW w X B S P O c n a ca b cb s, Calls Try.prog 19 #[.pointer (some ⟨B, 0, none⟩), .int .i64 (m : Int)] p.W fun e w' => e = .returned (.bool (inB s.pl m)) ∧ w' = p.W) := fun p => has_yes p.W B S P O c n s m p.h.hp hm1 (by omega)
      have GS : Hid (∀ p : LkW w X B S P O c n a ca b cb s, Calls Try.prog 14 #[.pointer (some ⟨B, 0, none⟩), .int .i64 (m : Int)] p.W fun e w' => e = .returned (.int .i64 (s.sc m)) ∧ w' = p.W) := fun p => score_yes p.W B S P O c n s m p.h.hp hm1 (by omega)
      generalize s.sc m = sm at *
      cases hib : inB s.pl m
      all_goals
        rw [hib] at ka GH
        clear hib
        go_upto_region 8 with fail
        refine wp_region_class (C := fun W' => ∃ p : LkW w X B S P O c n a ca b cb s, W' = p.W) (by kernel_rfl) (by kernel_rfl) ⟨⟨_, HL4.out.drewN 1⟩, rfl⟩ ?_
        repeat (go_big_quiet_step ((first | (go_at_call 19; rename_i p; refine (unhide GH p).mono ?_; rintro e w0 ⟨rfl, hw0⟩; exact ⟨rfl, p, hw0⟩) | (go_at_call 14; rename_i p; refine (unhide GS p).mono ?_; rintro e w0 ⟨rfl, hw0⟩; exact ⟨rfl, p, hw0⟩))))
        refine wpQuiet_nil ?_
        rintro _ ⟨p, rfl⟩
        have HP := hide p.h
        clear k0 k1 ka kb inst GH GS
        generalize p.W = W9 at *
        go_wp2
        go_roundw
        case rel => exact ⟨m + 1, by omega, by omega, by go_num, HP⟩
        case measure => simp [intOf]; omega
    · have hmn : n + 1 ≤ m := by omega
      have GH : Hid (∀ v : Int, v < 1 ∨ (n : Int) < v → Calls Try.prog 19 #[.pointer (some ⟨B, 0, none⟩), .int .i64 v] wr fun e w' => e = .returned (.bool false) ∧ w' = wr) := fun v hv => has_no wr B S P O c n s v HL4.out.hp (by simp [varB]; omega)
      have GS := hide (score_no wr B S P O c n s (-1) HL4.out.hp (by simp [varB]))
      go_wp2_with (first | (go_at_call 19; refine (unhide GH _ (by omega)).mono ?_; rintro e w0 ⟨rfl, hw0⟩; subst w0) | (go_at_call 14; refine (unhide GS).mono ?_; rintro e w0 ⟨rfl, hw0⟩; subst w0))
      go_ret
      exact ⟨rfl, HL4.out.bel⟩
end Go.Proofs.Ytidhnmooloedmaa
