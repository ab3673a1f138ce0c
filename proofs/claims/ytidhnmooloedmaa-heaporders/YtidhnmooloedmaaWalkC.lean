/- Contract: one sinks. -/
import Derived.Test.YtidhnmooloedmaaWalkB
import Derived.Deep.DeepCutAuto
import Derived.Deep.CutBlock
set_option linter.unusedVariables false
set_option linter.unusedSimpArgs false
namespace Go.Proofs.Ytidhnmooloedmaa
open Go.RowKit

/-- The child that may go up. -/
def Chl (s : HS) (j c : Nat) : Prop := (c = 2 * j + 1 ∨ c = 2 * j + 2) ∧ ∀ i, 0 < i → i < s.k → par i = j → c < s.k ∧ ok s c i
theorem nbet_self (sc : Nat → Int) (a : Nat) : ¬ bet sc a a := by unfold bet; omega
theorem chl_two {s : HS} {j : Nat} (h : 2 * j + 2 < s.k) (hb : bet s.sc (s.od (2 * j + 2)) (s.od (2 * j + 1))) : Chl s j (2 * j + 2) := by
  refine ⟨.inr rfl, fun i h0 hk hp => ⟨h, ?_⟩⟩
  have : i = 2 * j + 1 ∨ i = 2 * j + 2 := by unfold par at hp; omega
  rcases this with rfl | rfl
  · exact bet_asym hb
  · exact nbet_self _ _
theorem chl_one {s : HS} {j : Nat} (h : 2 * j + 2 < s.k) (hb : ¬ bet s.sc (s.od (2 * j + 2)) (s.od (2 * j + 1))) : Chl s j (2 * j + 1) := by
  refine ⟨.inl rfl, fun i h0 hk hp => ⟨by omega, ?_⟩⟩
  have : i = 2 * j + 1 ∨ i = 2 * j + 2 := by unfold par at hp; omega
  rcases this with rfl | rfl
  · exact nbet_self _ _
  · exact hb
theorem chl_last {s : HS} {j : Nat} (h : ¬ 2 * j + 2 < s.k) : Chl s j (2 * j + 1) := by
  refine ⟨.inl rfl, fun i h0 hk hp => ?_⟩
  have : i = 2 * j + 1 ∨ i = 2 * j + 2 := by unfold par at hp; omega
  rcases this with rfl | rfl
  · exact ⟨hk, nbet_self _ _⟩
  · omega

def SinkP (w : World) (B S P O c n : Nat) (s : HS) (m : Nat) (e : Ending) (w' : World) : Prop :=
  e = .returned (.tuple #[]) ∧ ∃ t, Hp w' B S P O c n t ∧ Kp (Of B S P O) w w' ∧ WF n t ∧ Hpf t m ∧ Like n s t

set_option maxHeartbeats 2000000 in
theorem sink_any (w : World) (B S P O c n : Nat) (s : HS) (i : Nat) (hA : Hp w B S P O c n s) (hw : WF n s) (hi : i < s.k) (hS : HpS s i i) :
    Calls Try.prog 27 #[.pointer (some ⟨B, 0, none⟩), .int .i64 (i : Int)] w (SinkP w B S P O c n s i) := by
  have hn := hA.n20
  have hkn := hw.kn
  have c3 := hA.c3
  have eo := hA.ro.cell hi
  have M0 : Mid w w B S P O c n s (s.od i) i s := ⟨hA, Kp.refl _ _, by rw [put_self hw hi]; exact hw, by rw [put_self hw hi]; exact Like.refl _ _, hi⟩
  have R0 : HpS (s.put i (s.od i)) i i := by rw [put_self hw hi]; exact hS
  have hv := M0.v
  clear hA hw hS
  generalize hvv : s.od i = v at *
  clear hvv
  go_enter Try.func27, Try.ntmps27
  go_wp2
  have HM := hide M0
  have HR := hide R0
  clear M0 R0 c3 eo
  go_loopw [1] (fun x W => ∃ (j : Nat) (r : HS), x = .int .i64 (j : Int) ∧ Mid w W B S P O c n s v j r ∧ HpS (r.put j v) i j ∧ i ≤ j) (fun x _ => s.k - (intOf x).toNat)
  case atStart => exact ⟨i, s, rfl, HM.out, HR.out, Nat.le_refl _⟩
  case round =>
    obtain ⟨j, r, rfl, hM, hR, hij⟩ := hrel
    have hj := hM.lt
    have hrk := hM.rk
    have c3 := hM.hp.c3
    rw [hrk] at c3
    have HM' := hide hM
    have HR' := hide hR
    clear hM hR HM HR
    go_upto_region 2 with fail
    go_cut [42] from 16 to 42 (fun x wx => ∃ (b : Bool), x = .bool b ∧ Hid (Chl (r.put j v) j (if b then 2 * j + 2 else 2 * j + 1)) ∧ ∃ q, wx = wr.drewN q)
    case first =>
      by_cases h2 : 2 * j + 2 < s.k
      · obtain ⟨o1e, o11, o12⟩ := HM'.out.od (i := 2 * j + 1) (by omega) (by omega)
        obtain ⟨o2e, o21, o22⟩ := HM'.out.od (i := 2 * j + 2) h2 (by omega)
        have e1 := HM'.out.hp.ro.cell (i := 2 * j + 1) (by omega)
        have e2 := HM'.out.hp.ro.cell (i := 2 * j + 2) (by omega)
        have hbs : ∀ m, Calls Try.prog 33 #[.pointer (some ⟨B, 0, none⟩), .int .i64 (r.od (2 * j + 2) : Int), .int .i64 (r.od (2 * j + 1) : Int)] (wr.drewN m) fun e w' => e = .returned (.bool (betB r.sc (r.od (2 * j + 2)) (r.od (2 * j + 1)))) ∧ ∃ q, w' = wr.drewN q := by
          intro m
          refine (better_any _ B S P O c n r _ _ (HM'.out.hp.drewN m) o22 o12).mono ?_
          rintro e w' ⟨h1, q, h2⟩
          exact ⟨h1, m + q, by rw [h2, World.drewN_drewN]⟩
        have HB := hide hbs
        clear hbs
        have hd : decide (2 * (j : Int) + 1 + 1 < (s.k : Int)) = true := by simp; omega
        cases hb : betB r.sc (r.od (2 * j + 2)) (r.od (2 * j + 1)) with
        | true =>
          rw [hb] at HB
          have HC : Hid (Chl (r.put j v) j (2 * j + 2)) := chl_two (by show _ < r.k; omega) (by rw [o1e, o2e, ← betB_iff]; exact hb)
          clear hb o1e o2e
          generalize r.od (2 * j + 1) = u1 at *
          generalize r.od (2 * j + 2) = u2 at *
          go_wp2
          go_quiet ((first | (go_at_call 33; exact unhide HB _)))
          go_wp2
          go_meet
          case rel => exact ⟨true, rfl, HC, _, rfl⟩
        | false =>
          rw [hb] at HB
          have HC : Hid (Chl (r.put j v) j (2 * j + 1)) := chl_one (by show _ < r.k; omega) (by rw [o1e, o2e, ← betB_no]; exact hb)
          clear hb o1e o2e
          generalize r.od (2 * j + 1) = u1 at *
          generalize r.od (2 * j + 2) = u2 at *
          go_wp2
          go_quiet ((first | (go_at_call 33; exact unhide HB _)))
          go_wp2
          go_meet
          case rel => exact ⟨false, rfl, HC, _, rfl⟩
      · have HC : Hid (Chl (r.put j v) j (2 * j + 1)) := chl_last (by show ¬ _ < r.k; omega)
        have hd : decide (2 * (j : Int) + 1 + 1 < (s.k : Int)) = false := by simp; omega
        go_wp2
        go_quiet (fail)
        go_wp2
        go_meet
        case rel => exact ⟨false, rfl, HC, _, rfl⟩
    case rest =>
    obtain ⟨b, rfl, hC, q, hq⟩ := hcut
    subst hq
    go_upto_if 42 with fail
    go_cut [5] from 43 to 44 (fun x wx => ∃ (d : Nat), x = .int .i64 (d : Int) ∧ Hid (Chl (r.put j v) j d) ∧ wx = wr.drewN q)
    case first =>
      cases b
      all_goals
        go_wp2
        go_meet
        case rel => exact ⟨_, by go_num, hC, rfl⟩
    case rest =>
    obtain ⟨d, rfl, hD, hq⟩ := hcut
    subst hq
    clear hC
    have hd2 : d ≤ 2 * j + 2 := by rcases hD.out.1 with h | h <;> omega
    have hd1 : 2 * j + 1 ≤ d := by rcases hD.out.1 with h | h <;> omega
    by_cases hdk : d < s.k
    · obtain ⟨oe, o1, o2⟩ := HM'.out.od (i := d) hdk (by omega)
      have eo := HM'.out.hp.ro.cell (i := d) (by omega)
      have hbs := better_any (wr.drewN q) B S P O c n r v (r.od d) (HM'.out.hp.drewN q) hv.2 o2
      have HB := hide hbs
      clear hbs
      cases hb : betB r.sc v (r.od d) with
      | true =>
        rw [hb] at HB
        have HBB := hide hb
        clear hb
        have HO := hide oe
        clear oe
        generalize r.od d = u at *
        go_wp2_with (first | (go_at_call 33; refine (unhide HB).mono ?_; rintro e w0 ⟨rfl, m, hw0⟩; subst w0) | (go_at_call 26; refine (put_any _ B S P O c n r j v (HM'.out.hp.drewN _) (by omega) hv.2 (by omega)).mono ?_; rintro e w2 ⟨rfl, hp2, kp2⟩))
        go_end0
        refine ⟨rfl, _, hp2, (HM'.out.kp.drewN _).trans kp2, HM'.out.wf, HR'.out.done (c := d) hD.out.1 hD.out.2 (.inr ?_), HM'.out.like⟩
        unfold ok
        rw [HO.out, show (r.put j v).od j = v from upd_same _ _ _]
        exact bet_asym ((betB_iff _ _ _).1 HBB.out)
      | false =>
        rw [hb] at HB
        have HBB := hide hb
        clear hb
        have HO := hide oe
        clear oe
        generalize hop : r.od d = u at *
        have HOP := hide hop
        clear hop
        go_wp2_with (first | (go_at_call 33; refine (unhide HB).mono ?_; rintro e w0 ⟨rfl, m, hw0⟩; subst w0) | (go_at_call 26; refine (put_any _ B S P O c n r j u (HM'.out.hp.drewN _) (by omega) o2 (by omega)).mono ?_; rintro e w2 ⟨rfl, hp2, kp2⟩))
        go_roundw
        case rel =>
          obtain ⟨hM2, he⟩ := HM'.out.step (i := d) hdk (by omega) (by rw [HOP.out]; exact hp2) (((Kp.refl _ wr).drewN _).trans kp2)
          refine ⟨d, _, rfl, hM2, ?_, by omega⟩
          rw [he]
          exact HR'.out.down hij (by show j < r.k; omega) (by show d < r.k; omega) hD.out.1 (fun i a b x => (hD.out.2 i a b x).2) (.inr (by rw [HO.out, show (r.put j v).od j = v from upd_same _ _ _, ← betB_no]; exact HBB.out))
        case measure => simp [intOf]; omega
    · go_wp2_with (first | (go_at_call 26; refine (put_any _ B S P O c n r j v (HM'.out.hp.drewN q) (by omega) hv.2 (by omega)).mono ?_; rintro e w2 ⟨rfl, hp2, kp2⟩))
      go_end0
      exact ⟨rfl, _, hp2, (HM'.out.kp.drewN q).trans kp2, HM'.out.wf, HR'.out.done (c := d) hD.out.1 hD.out.2 (.inl (by show d ≥ r.k; omega)), HM'.out.like⟩
end Go.Proofs.Ytidhnmooloedmaa
