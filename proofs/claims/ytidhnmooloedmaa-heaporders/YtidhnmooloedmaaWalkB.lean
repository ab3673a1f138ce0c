/- Contracts: one rises, one sinks. -/
import Derived.Test.YtidhnmooloedmaaWalkA
import Derived.Deep.RegionHeld3
import Derived.Deep.RegionLaw
set_option linter.unusedVariables false
set_option linter.unusedSimpArgs false
namespace Go.Proofs.Ytidhnmooloedmaa
open Go.RowKit

/-- In the midst: the one at hand stands at a place as soon as it is put there. -/
structure Mid (w W : World) (B S P O c n : Nat) (s : HS) (v j : Nat) (r : HS) : Prop where
  hp : Hp W B S P O c n r
  kp : Kp (Of B S P O) w W
  wf : WF n (r.put j v)
  like : Like n s (r.put j v)
  lt : j < s.k
theorem Mid.rk {w W : World} {B S P O c n : Nat} {s : HS} {v j : Nat} {r : HS} (h : Mid w W B S P O c n s v j r) : r.k = s.k := h.like.k
theorem Mid.v {w W : World} {B S P O c n : Nat} {s : HS} {v j : Nat} {r : HS} (h : Mid w W B S P O c n s v j r) : 1 ≤ v ∧ v ≤ n := by
  have := h.wf.at' j (by show j < r.k; rw [h.rk]; exact h.lt)
  have e : (r.put j v).od j = v := upd_same _ _ _
  rw [e] at this; exact ⟨this.1, this.2.1⟩
theorem Mid.od {w W : World} {B S P O c n : Nat} {s : HS} {v j : Nat} {r : HS} (h : Mid w W B S P O c n s v j r) {i : Nat} (hi : i < s.k) (hne : i ≠ j) : (r.put j v).od i = r.od i ∧ 1 ≤ r.od i ∧ r.od i ≤ n := by
  have := h.wf.at' i (by show i < r.k; rw [h.rk]; exact hi)
  have e : (r.put j v).od i = r.od i := upd_other hne
  rw [e] at this; exact ⟨e, this.1, this.2.1⟩
/-- One more goes to the place, and the place is its own. -/
theorem Mid.step {w W W' : World} {B S P O c n : Nat} {s : HS} {v j : Nat} {r : HS} (h : Mid w W B S P O c n s v j r) {i : Nat} (hi : i < s.k) (hne : i ≠ j) (hp : Hp W' B S P O c n (r.put j (r.od i))) (kp : Kp (Of B S P O) W W') :
    Mid w W' B S P O c n s v i (r.put j (r.od i)) ∧ (r.put j (r.od i)).put i v = ((r.put j v).put j ((r.put j v).od i)).put i ((r.put j v).od j) := by
  have e := (h.od hi hne).1
  have e2 : (r.put j v).od j = v := upd_same _ _ _
  have hsw := swap_ok h.wf (i := j) (c := i) (by show j < r.k; rw [h.rk]; exact h.lt) (by show i < r.k; rw [h.rk]; exact hi) (Ne.symm hne)
  have he : (r.put j (r.od i)).put i v = ((r.put j v).put j ((r.put j v).od i)).put i ((r.put j v).od j) := by
    rw [e, e2]; exact (put_put r j i v (r.od i)).symm
  refine ⟨⟨hp, h.kp.trans kp, ?_, ?_, hi⟩, he⟩
  · rw [he]; exact hsw.1
  · rw [he]; exact h.like.trans hsw.2

def RiseP (w : World) (B S P O c n : Nat) (s : HS) (e : Ending) (w' : World) : Prop :=
  e = .returned (.tuple #[]) ∧ ∃ t, Hp w' B S P O c n t ∧ Kp (Of B S P O) w w' ∧ WF n t ∧ Hpf t 0 ∧ Like n s t

set_option maxHeartbeats 1000000 in
theorem rise_any (w : World) (B S P O c n : Nat) (s : HS) (i : Nat) (hA : Hp w B S P O c n s) (hw : WF n s) (hi : i < s.k) (hR : HpR s i) :
    Calls Try.prog 32 #[.pointer (some ⟨B, 0, none⟩), .int .i64 (i : Int)] w (RiseP w B S P O c n s) := by
  have hn := hA.n20
  have hkn := hw.kn
  have c3 := hA.c3
  have eo := hA.ro.cell hi
  have M0 : Mid w w B S P O c n s (s.od i) i s := ⟨hA, Kp.refl _ _, by rw [put_self hw hi]; exact hw, by rw [put_self hw hi]; exact Like.refl _ _, hi⟩
  have R0 : HpR (s.put i (s.od i)) i := by rw [put_self hw hi]; exact hR
  have hv := M0.v
  clear hA hw hR
  generalize hvv : s.od i = v at *
  clear hvv
  go_enter Try.func32, Try.ntmps32
  go_wp2
  have HM := hide M0
  have HR := hide R0
  clear M0 R0 c3 eo
  go_loopw [1] (fun x W => ∃ (j : Nat) (r : HS), x = .int .i64 (j : Int) ∧ Mid w W B S P O c n s v j r ∧ HpR (r.put j v) j) (fun x _ => (intOf x).toNat)
  case atStart => exact ⟨i, s, rfl, HM.out, HR.out⟩
  case round =>
    obtain ⟨j, r, rfl, hM, hR⟩ := hrel
    have hj := hM.lt
    have hrk := hM.rk
    have c3 := hM.hp.c3
    rw [hrk] at c3
    by_cases h0 : 0 < j
    · have hpj := par_lt h0
      obtain ⟨oe, o1, o2⟩ := hM.od (i := par j) (by omega) (by omega)
      have eo := hM.hp.ro.cell (i := par j) (by omega)
      have hbs : ∀ m, Calls Try.prog 33 #[.pointer (some ⟨B, 0, none⟩), .int .i64 (v : Int), .int .i64 (r.od (par j) : Int)] (wr.drewN m) fun e w' => e = .returned (.bool (betB r.sc v (r.od (par j)))) ∧ ∃ q, w' = wr.drewN q := by
        intro m
        refine (better_any _ B S P O c n r v _ (hM.hp.drewN m) hv.2 o2).mono ?_
        rintro e w' ⟨h1, q, h2⟩
        exact ⟨h1, m + q, by rw [h2, World.drewN_drewN]⟩
      have hput : ∀ m, Calls Try.prog 26 #[.pointer (some ⟨B, 0, none⟩), .int .i64 (j : Int), .int .i64 (r.od (par j) : Int)] (wr.drewN m) fun e w' => e = .returned (.tuple #[]) ∧ Hp w' B S P O c n (r.put j (r.od (par j))) ∧ Kp (Of B S P O) wr w' := by
        intro m
        refine (put_any _ B S P O c n r j _ (hM.hp.drewN m) (by omega) o2 (by omega)).mono ?_
        rintro e w' ⟨h1, h2, h3⟩
        exact ⟨h1, h2, ((Kp.refl _ wr).drewN m).trans h3⟩
      have HB := hide hbs
      have HP := hide hput
      have HM' := hide hM
      have HR' := hide hR
      have HO := hide oe
      have hpn : par j < 2000000 := by omega
      have hps : par j < s.k := by omega
      clear hbs hput hM hR oe HM HR
      have hrb : ∀ b, betB r.sc v (r.od (par j)) = b → Hid (betB r.sc v (r.od (par j)) = b) := fun _ h => h
      cases hb : betB r.sc v (r.od (par j)) with
      | true =>
        rw [hb] at HB
        have HBB := hrb true hb
        clear hrb hb
        generalize hop : r.od (par j) = u at *
        have HOP := hide hop
        clear hop
        have hj' : decide (0 < (j : Int)) = true := by simp; omega
        go_wp2
        go_quiet ((first | (go_at_call 34; exact Calls.quiet_of_same (above_any _ _ h0 (by omega))) | (go_at_call 33; exact unhide HB _)))
        go_wp2
        go_region_with (first | (go_at_call 34; refine (above_any _ _ h0 (by omega)).mono ?_; rintro e w0 ⟨rfl, hw0⟩; subst w0) | (go_at_call 26; refine (unhide HP _).mono ?_; rintro e w2 ⟨rfl, hp2, kp2⟩))
        all_goals
          go_wp2_with (go_at_call 34; refine (above_any _ _ h0 (by omega)).mono ?_; rintro e w0 ⟨rfl, hw0⟩; subst w0)
          go_roundw
          case rel =>
            obtain ⟨hM2, he⟩ := HM'.out.step (i := par j) hps (by omega) (by rw [HOP.out]; exact hp2) kp2
            refine ⟨par j, _, rfl, hM2, ?_⟩
            rw [he]
            exact HR'.out.up (n := n) h0 (by show j < r.k; omega) (by rw [HO.out, show (r.put j v).od j = v from upd_same _ _ _, ← betB_iff]; exact HBB.out)
          case measure => simp [intOf]; omega
      | false =>
        rw [hb] at HB
        have HBB := hrb false hb
        clear hrb hb
        have hj' : decide (0 < (j : Int)) = true := by simp; omega
        generalize hop : r.od (par j) = u at *
        have HOP := hide hop
        clear hop
        go_wp2
        go_quiet ((first | (go_at_call 34; exact Calls.quiet_of_same (above_any _ _ h0 (by omega))) | (go_at_call 33; exact unhide HB _)))
        have G := hide (put_any (wr.drewN nq) B S P O c n r j v (HM'.out.hp.drewN nq) (by omega) hv.2 (by omega))
        go_wp2_with (go_at_call 26; refine (unhide G).mono ?_; rintro e w2 ⟨rfl, hp2, kp2⟩)
        go_end0
        refine ⟨rfl, _, hp2, (HM'.out.kp.drewN nq).trans kp2, HM'.out.wf, HR'.out.done (.inr ?_), HM'.out.like⟩
        rw [HO.out]
        rw [show (r.put j v).od j = v from upd_same _ _ _, ← betB_no]
        exact HBB.out
    · have hj0 : j = 0 := by omega
      subst hj0
      have hj' : decide (0 < ((0 : Nat) : Int)) = false := by simp
      have HM' := hide hM
      have HR' := hide hR
      clear hM hR HM HR
      go_wp2
      go_quiet (fail)
      have G := hide (put_any (wr.drewN nq) B S P O c n r 0 v (HM'.out.hp.drewN nq) (by omega) hv.2 (by omega))
      go_wp2_with (go_at_call 26; refine (unhide G).mono ?_; rintro e w2 ⟨rfl, hp2, kp2⟩)
      go_end0
      exact ⟨rfl, _, hp2, (HM'.out.kp.drewN nq).trans kp2, HM'.out.wf, HR'.out.done (.inl rfl), HM'.out.like⟩
end Go.Proofs.Ytidhnmooloedmaa
