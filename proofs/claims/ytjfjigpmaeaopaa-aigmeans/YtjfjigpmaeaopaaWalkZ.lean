/- The law's play, walked. -/
import Derived.Test.YtjfjigpmaeaopaaWalkY
set_option linter.unusedVariables false
set_option linter.unusedSimpArgs false
namespace Go.Proofs.Ytjfjigpmaeaopaa
open Go.RowKit Go.Maps

/-- What the play tells and leaves. -/
def PlayP (w : World) (l : List ActD) (e : Ending) (w' : World) : Prop :=
  ∃ B M v q off cap, e = .returned (.tuple #[.pointer (some ⟨B, 0, none⟩), .slice (some ⟨q, off, none⟩) (playF [] (l.take 25)).length cap, .bool true]) ∧ Pl w w' B M v q off (playF [] (l.take 25))

theorem Pl.cellsOk {w W W1 w1 : World} {B M q off qa : Nat} {v : Value} {g g' : List Gt} (h : Pl w W B M v q off g) (hb : Below W.heap.size W W1) (k : GrP W1 B M v g' w1) (hq : qa < w.heap.size) : w1.heap[qa]? = W.heap[qa]? := by
  obtain ⟨v', _, k2, _⟩ := k
  have h1 := h.bel.size
  have h2 := hb.size
  exact (k2.block qa (by omega) (fun e => by have := h.lo _ e; omega)).trans (hb.block qa (by omega))
theorem GrP.from {w W1 w1 : World} {B M : Nat} {v : Value} {g : List Gt} (hb : Below w.heap.size w W1) (k : GrP W1 B M v g w1) : GrP w B M v g w1 := GrP.seq (Kp.of_below hb) (.inl rfl) k
theorem RefP.from {w W1 w1 : World} {q : Nat} {R : List Gt × Int} {e : Ending} (hb : Below w.heap.size w W1) (k : RefP W1 q R e w1) : RefP w q R e w1 := by
  obtain ⟨q', off', cap', e1, s1, s2, s3⟩ := k
  exact ⟨q', off', cap', e1, s1, hb.trans (s2.mono hb.size), s3.imp id (fun h => ⟨Nat.le_trans hb.size h.1, h.2⟩)⟩
theorem Pl.start {w w1 : World} {B M : Nat} (h : Gr w1 B M (.slice none 0 0) []) (hb : Below w.heap.size w w1) (lB : w.heap.size ≤ B) (lM : w.heap.size ≤ M) :
    Pl w (w1.alloc (.cells #[] 53)) B M (.slice none 0 0) w1.heap.size 0 [] := by
  obtain ⟨l1, l2, _⟩ := h.lt
  refine ⟨h.below (below_alloc _ _), gs_nil _ _, ?_, by simp, hb.alloc hb.size _, ?_, fun i hi => by simp at hi⟩
  · rintro (e | e | e)
    · omega
    · omega
    · cases e
  · rintro b (e | e | e)
    · omega
    · omega
    · cases e

set_option maxHeartbeats 8000000 in
set_option maxRecDepth 100000 in
theorem play_any (w : World) (al : Option Addr) (cap : Nat) (l : List ActD) (hl : Acts w al l) (hll : l.length ≤ maxLen) :
    Calls Try.prog 8 #[.slice al l.length cap, .int .i64 25] w (PlayP w l) := by
  have HAC := hide hl
  unfold maxLen at hll
  clear hl
  obtain ⟨L, hL⟩ : ∃ L, L = l.length := ⟨_, rfl⟩
  rw [← hL] at hll ⊢
  have HL := hide hL
  clear hL
  go_enter Try.func8, Try.ntmps8
  go_upto_region 2 with (first | (go_at_call 27; refine (new_any _).mono ?_; rintro e w1 ⟨B, M, rfl, h1, hb1, lB, lM⟩))
  have HP0 := hide (Pl.start h1 hb1 lB lM)
  clear h1 hb1 lB lM
  go_wp2
  refine forget (P := fun W => Code.wp Try.prog _ _ _ W) (fun W => Hid (Pl w W B M (.slice none 0 0) w1.heap.size 0 [])) HP0 ?_
  clear HP0
  intro W0 HP0
  generalize w1.heap.size = Q0 at *
  go_loopw [8, 9] (fun y i W => ∃ (k : Nat) (v : Value) (q off cq : Nat), k ≤ L ∧ k ≤ 25 ∧ i = .int .i64 (k : Int) ∧ y = .slice (some ⟨q, off, none⟩) (playF [] (l.take k)).length cq ∧ Hid (Pl w W B M v q off (playF [] (l.take k)))) (fun _ i _ => (26 - intOf i).toNat)
  case atStart => exact ⟨0, _, Q0, 0, 0, Nat.zero_le _, Nat.zero_le _, rfl, rfl, HP0⟩
  case round =>
    clear HP0
    obtain ⟨k, v, q, off, cq, hk1, hk2, rfl, rfl, HP⟩ := hrel
    by_cases hlt : k < L ∧ k < 25
    · obtain ⟨hlt1, hlt2⟩ := hlt
      have e25 : decide ((k : Int) < 25) = true := by simp; omega
      have e25' : decide ((k : Int) < L) = true := by simp; omega
      have hkl : k < l.length := by rw [← HL.out]; exact hlt1
      obtain ⟨qa, offa, rfl, hqa, ⟨z0, z1, z2, z3⟩, hok⟩ := (HAC.out) k hkl
      have hqa2 : wr.heap[qa]? = w.heap[qa]? := HP.out.bel.block qa hqa
      have a0 := (World.cell?_of_block hqa2).trans z0
      have a1 := (World.cell?_of_block hqa2).trans z1
      have a2 := (World.cell?_of_block hqa2).trans z2
      have a3 := (World.cell?_of_block hqa2).trans z3
      have hpg := (play_grow (l.take k) (g := []) (fun i hi => by simp at hi) (fun i hi => by simp at hi)).1
      have hglen : (playF [] (l.take k)).length ≤ 75 := by have := hpg.len.2; simp at this; omega
      have hsn : playF [] (l.take (k + 1)) = (stepF (playF [] (l.take k)) l[k]).1 := by rw [List.take_succ_eq_append_getElem hkl, play_snoc]
      have hstepg := step_ord hpg.may HP.out.ord l[k]
      have HSN := hide hsn
      have HORD := hide hstepg
      have HMAY := hide hpg.may
      have HOK := hide hok
      have HQA := hide hqa
      have HG := hide hglen
      clear hsn hstepg hpg z0 z1 z2 z3 hqa2 hok hqa hglen
      generalize playF [] (l.take k) = g at *
      generalize l[k] = t at *
      clear hkl
      obtain ⟨d, a, b, c⟩ := t
      dsimp only at a0 a1 a2 a3
      by_cases hd0 : d = 0
      · subst hd0
        have hR : stepF g ⟨0, a, b, c⟩ = inF g := by simp [stepF]
        have C1 := in_any wr B M v g HP.out.gr (by have := HG.out; omega)
        have D1 : Hid (∀ W, GS W (some ⟨q, off, none⟩) g → Calls Try.prog 28 #[.slice (some ⟨q, off, none⟩) g.length cq] W (RefP W q (inF g))) := fun W hW => refIn_any W q off cq g hW (by have := HG.out; omega)
        rw [← hR] at C1 D1
        clear hR
        generalize stepF g ⟨0, a, b, c⟩ = R at *
        obtain ⟨g', r⟩ := R
        dsimp only at HSN HORD
        replace C1 := hide C1
        have hrr : (r != r) = false := by simp
        go_upto_region 10 with (first | (go_at_call 26; refine (unhide C1).mono ?_; rintro e w1 ⟨rfl, hgp⟩; dsimp only at hgp))
        obtain ⟨v', hph⟩ := HP.out.prog hgp
        have HPH := hide hph
        clear a0 a1 a2 a3 C1 hph HP hgp HAC
        go_wp2_with (first | (go_at_call 28; refine (unhide D1 _ HPH.out.gs).mono ?_; rintro e w2 ⟨q', off', cap', rfl, s1, s2, s3⟩; have HPL := hide (HPH.out.ref s1 s2 s3 HORD.out)))
        go_roundw
        case rel => exact ⟨k + 1, v', q', off', cap', by omega, by omega, by go_num, by rw [HSN.out], by rw [HSN.out]; exact HPL⟩
        case measure => simp [intOf]; omega
      · by_cases hd1 : d = 1
        · subst hd1
          have hR : stepF g ⟨1, a, b, c⟩ = andF g a b := by simp [stepF]
          have C1 : Hid (∀ W, Below wr.heap.size wr W → Calls Try.prog 20 #[.pointer (some ⟨B, 0, none⟩), .int .i64 a, .int .i64 b] W (ActP W B M v (andF g a b))) := fun W hW => and_any W B M v g a b (HP.out.gr.below hW) (by have := HG.out; omega)
          have D1 : Hid (∀ W, GS W (some ⟨q, off, none⟩) g → Calls Try.prog 21 #[.slice (some ⟨q, off, none⟩) g.length cq, .int .i64 a, .int .i64 b] W (RefP W q (andF g a b))) := fun W hW => refAnd_any W q off cq g a b hW (by have := HG.out; omega) HMAY.out HP.out.ord
          rw [← hR] at C1 D1
          clear hR
          generalize stepF g ⟨1, a, b, c⟩ = R at *
          obtain ⟨g', r⟩ := R
          dsimp only at HSN HORD
          have AC : Hid (∀ W w1, Below wr.heap.size wr W → GrP W B M v g' w1 → w1.cell? ⟨qa, offa + k * 4 + 1, none⟩ = some (.int .i64 a) ∧ w1.cell? ⟨qa, offa + k * 4 + 2, none⟩ = some (.int .i64 b)) := fun W w1 hb hg => ⟨(World.cell?_of_block (HP.out.cellsOk hb hg HQA.out)).trans a1, (World.cell?_of_block (HP.out.cellsOk hb hg HQA.out)).trans a2⟩
          go_upto_region 12 with fail
          go_cut [10] from 41 to 52 (fun x W => x = .int .i64 r ∧ Hid (GrP wr B M v g' W))
          case first =>
            go_wp2
            go_region_held3 (fun z => z.cell? ⟨qa, offa + k * 4 + 1, none⟩ = some (.int .i64 a) ∧ z.cell? ⟨qa, offa + k * 4 + 2, none⟩ = some (.int .i64 b)) (go_keep) (first | (go_at_call 20; refine (unhide C1 _ (below_drewN (Below.refl _ _) 1)).mono ?_; rintro e w1 ⟨rfl, hgp⟩; obtain ⟨y1, y2⟩ := AC.out _ w1 (below_drewN (Below.refl _ _) 1) hgp; dsimp only at hgp))
            all_goals
              go_wp2
              go_meet
              case rel => exact ⟨rfl, GrP.from (below_drewN (Below.refl _ _) 1) hgp⟩
          case rest =>
          obtain ⟨rfl, HGP⟩ := hcut
          have b1 := (World.cell?_of_block (HP.out.cellsOk (Below.refl _ _) HGP.out HQA.out)).trans a1
          have b2 := (World.cell?_of_block (HP.out.cellsOk (Below.refl _ _) HGP.out HQA.out)).trans a2
          obtain ⟨v', hph⟩ := HP.out.prog HGP.out
          have HPH := hide hph
          have A2 : Hid (∀ W, Below wc.heap.size wc W → W.cell? ⟨qa, offa + k * 4 + 1, none⟩ = some (.int .i64 a) ∧ W.cell? ⟨qa, offa + k * 4 + 2, none⟩ = some (.int .i64 b)) := fun W hb => ⟨(World.cell?_of_block (hb.block qa (by have := HPH.out.bel.size; have := HQA.out; omega))).trans b1, (World.cell?_of_block (hb.block qa (by have := HPH.out.bel.size; have := HQA.out; omega))).trans b2⟩
          clear a0 a1 a2 a3 AC C1 hph HP HGP HAC
          obtain ⟨W1, rfl⟩ : ∃ W, W = wc := ⟨_, rfl⟩
          go_upto_region 13 with fail
          go_wp2
          go_region_held3 (fun z => z.cell? ⟨qa, offa + k * 4 + 1, none⟩ = some (.int .i64 a) ∧ z.cell? ⟨qa, offa + k * 4 + 2, none⟩ = some (.int .i64 b)) (go_keep) (first | (go_at_call 21; refine (unhide D1 _ (HPH.out.gs.below (below_drewN (Below.refl _ _) 1))).mono ?_; rintro e w2 ⟨q', off', cap', rfl, s1, s2, s3⟩; obtain ⟨y1, y2⟩ := A2.out w2 ((below_drewN (Below.refl _ _) 1).trans s2)))
          all_goals
            have hb2 := (below_drewN (Below.refl W1.heap.size W1) 1).trans s2
            have HPL := hide (HPH.out.ref s1 hb2 s3 HORD.out)
            have hrr : (r != r) = false := by simp
            clear A2 HPH D1 s1 s2 s3 hb2
            go_wp2
            go_roundw
            case rel => exact ⟨k + 1, v', q', off', cap', by omega, by omega, by go_num, by rw [HSN.out], by rw [HSN.out]; exact HPL⟩
            case measure => simp [intOf]; omega
        · by_cases hd2 : d = 2
          · subst hd2
            have hR : stepF g ⟨2, a, b, c⟩ = orF g a b := by simp [stepF]
            have C1 : Hid (∀ W, Below wr.heap.size wr W → Calls Try.prog 22 #[.pointer (some ⟨B, 0, none⟩), .int .i64 a, .int .i64 b] W (ActP W B M v (orF g a b))) := fun W hW => or_any W B M v g a b (HP.out.gr.below hW) (by have := HG.out; omega) HOK.out.1 HOK.out.2.1
            have D1 : Hid (∀ W, GS W (some ⟨q, off, none⟩) g → Calls Try.prog 29 #[.slice (some ⟨q, off, none⟩) g.length cq, .int .i64 a, .int .i64 b] W (RefP W q (orF g a b))) := fun W hW => refOr_any W q off cq g a b hW (by have := HG.out; omega) HMAY.out HP.out.ord HOK.out.1 HOK.out.2.1
            rw [← hR] at C1 D1
            clear hR
            generalize stepF g ⟨2, a, b, c⟩ = R at *
            obtain ⟨g', r⟩ := R
            dsimp only at HSN HORD
            have AC : Hid (∀ W w1, Below wr.heap.size wr W → GrP W B M v g' w1 → w1.cell? ⟨qa, offa + k * 4 + 1, none⟩ = some (.int .i64 a) ∧ w1.cell? ⟨qa, offa + k * 4 + 2, none⟩ = some (.int .i64 b)) := fun W w1 hb hg => ⟨(World.cell?_of_block (HP.out.cellsOk hb hg HQA.out)).trans a1, (World.cell?_of_block (HP.out.cellsOk hb hg HQA.out)).trans a2⟩
            go_upto_region 15 with fail
            go_cut [10] from 70 to 81 (fun x W => x = .int .i64 r ∧ Hid (GrP wr B M v g' W))
            case first =>
              go_wp2
              go_region_held3 (fun z => z.cell? ⟨qa, offa + k * 4 + 1, none⟩ = some (.int .i64 a) ∧ z.cell? ⟨qa, offa + k * 4 + 2, none⟩ = some (.int .i64 b)) (go_keep) (first | (go_at_call 22; refine (unhide C1 _ (below_drewN (Below.refl _ _) 1)).mono ?_; rintro e w1 ⟨rfl, hgp⟩; obtain ⟨y1, y2⟩ := AC.out _ w1 (below_drewN (Below.refl _ _) 1) hgp; dsimp only at hgp))
              all_goals
                go_wp2
                go_meet
                case rel => exact ⟨rfl, GrP.from (below_drewN (Below.refl _ _) 1) hgp⟩
            case rest =>
            obtain ⟨rfl, HGP⟩ := hcut
            have b1 := (World.cell?_of_block (HP.out.cellsOk (Below.refl _ _) HGP.out HQA.out)).trans a1
            have b2 := (World.cell?_of_block (HP.out.cellsOk (Below.refl _ _) HGP.out HQA.out)).trans a2
            obtain ⟨v', hph⟩ := HP.out.prog HGP.out
            have HPH := hide hph
            have A2 : Hid (∀ W, Below wc.heap.size wc W → W.cell? ⟨qa, offa + k * 4 + 1, none⟩ = some (.int .i64 a) ∧ W.cell? ⟨qa, offa + k * 4 + 2, none⟩ = some (.int .i64 b)) := fun W hb => ⟨(World.cell?_of_block (hb.block qa (by have := HPH.out.bel.size; have := HQA.out; omega))).trans b1, (World.cell?_of_block (hb.block qa (by have := HPH.out.bel.size; have := HQA.out; omega))).trans b2⟩
            clear a0 a1 a2 a3 AC C1 hph HP HGP HAC
            obtain ⟨W1, rfl⟩ : ∃ W, W = wc := ⟨_, rfl⟩
            go_upto_region 16 with fail
            go_wp2
            go_region_held3 (fun z => z.cell? ⟨qa, offa + k * 4 + 1, none⟩ = some (.int .i64 a) ∧ z.cell? ⟨qa, offa + k * 4 + 2, none⟩ = some (.int .i64 b)) (go_keep) (first | (go_at_call 29; refine (unhide D1 _ (HPH.out.gs.below (below_drewN (Below.refl _ _) 1))).mono ?_; rintro e w2 ⟨q', off', cap', rfl, s1, s2, s3⟩; obtain ⟨y1, y2⟩ := A2.out w2 ((below_drewN (Below.refl _ _) 1).trans s2)))
            all_goals
              have hb2 := (below_drewN (Below.refl W1.heap.size W1) 1).trans s2
              have HPL := hide (HPH.out.ref s1 hb2 s3 HORD.out)
              have hrr : (r != r) = false := by simp
              clear A2 HPH D1 s1 s2 s3 hb2
              go_wp2
              go_roundw
              case rel => exact ⟨k + 1, v', q', off', cap', by omega, by omega, by go_num, by rw [HSN.out], by rw [HSN.out]; exact HPL⟩
              case measure => simp [intOf]; omega
          · by_cases hd3 : d = 3
            · subst hd3
              have hR : stepF g ⟨3, a, b, c⟩ = xorF g a b := by simp [stepF]
              have C1 : Hid (∀ W, Below wr.heap.size wr W → Calls Try.prog 23 #[.pointer (some ⟨B, 0, none⟩), .int .i64 a, .int .i64 b] W (ActP W B M v (xorF g a b))) := fun W hW => xor_any W B M v g a b (HP.out.gr.below hW) (by have := HG.out; omega) HOK.out.1 HOK.out.2.1
              have D1 : Hid (∀ W, GS W (some ⟨q, off, none⟩) g → Calls Try.prog 30 #[.slice (some ⟨q, off, none⟩) g.length cq, .int .i64 a, .int .i64 b] W (RefP W q (xorF g a b))) := fun W hW => refXor_any W q off cq g a b hW (by have := HG.out; omega) HMAY.out HP.out.ord HOK.out.1 HOK.out.2.1
              rw [← hR] at C1 D1
              clear hR
              generalize stepF g ⟨3, a, b, c⟩ = R at *
              obtain ⟨g', r⟩ := R
              dsimp only at HSN HORD
              have AC : Hid (∀ W w1, Below wr.heap.size wr W → GrP W B M v g' w1 → w1.cell? ⟨qa, offa + k * 4 + 1, none⟩ = some (.int .i64 a) ∧ w1.cell? ⟨qa, offa + k * 4 + 2, none⟩ = some (.int .i64 b)) := fun W w1 hb hg => ⟨(World.cell?_of_block (HP.out.cellsOk hb hg HQA.out)).trans a1, (World.cell?_of_block (HP.out.cellsOk hb hg HQA.out)).trans a2⟩
              go_upto_region 18 with fail
              go_cut [10] from 99 to 110 (fun x W => x = .int .i64 r ∧ Hid (GrP wr B M v g' W))
              case first =>
                go_wp2
                go_region_held3 (fun z => z.cell? ⟨qa, offa + k * 4 + 1, none⟩ = some (.int .i64 a) ∧ z.cell? ⟨qa, offa + k * 4 + 2, none⟩ = some (.int .i64 b)) (go_keep) (first | (go_at_call 23; refine (unhide C1 _ (below_drewN (Below.refl _ _) 1)).mono ?_; rintro e w1 ⟨rfl, hgp⟩; obtain ⟨y1, y2⟩ := AC.out _ w1 (below_drewN (Below.refl _ _) 1) hgp; dsimp only at hgp))
                all_goals
                  go_wp2
                  go_meet
                  case rel => exact ⟨rfl, GrP.from (below_drewN (Below.refl _ _) 1) hgp⟩
              case rest =>
              obtain ⟨rfl, HGP⟩ := hcut
              have b1 := (World.cell?_of_block (HP.out.cellsOk (Below.refl _ _) HGP.out HQA.out)).trans a1
              have b2 := (World.cell?_of_block (HP.out.cellsOk (Below.refl _ _) HGP.out HQA.out)).trans a2
              obtain ⟨v', hph⟩ := HP.out.prog HGP.out
              have HPH := hide hph
              have A2 : Hid (∀ W, Below wc.heap.size wc W → W.cell? ⟨qa, offa + k * 4 + 1, none⟩ = some (.int .i64 a) ∧ W.cell? ⟨qa, offa + k * 4 + 2, none⟩ = some (.int .i64 b)) := fun W hb => ⟨(World.cell?_of_block (hb.block qa (by have := HPH.out.bel.size; have := HQA.out; omega))).trans b1, (World.cell?_of_block (hb.block qa (by have := HPH.out.bel.size; have := HQA.out; omega))).trans b2⟩
              clear a0 a1 a2 a3 AC C1 hph HP HGP HAC
              obtain ⟨W1, rfl⟩ : ∃ W, W = wc := ⟨_, rfl⟩
              go_upto_region 19 with fail
              go_wp2
              go_region_held3 (fun z => z.cell? ⟨qa, offa + k * 4 + 1, none⟩ = some (.int .i64 a) ∧ z.cell? ⟨qa, offa + k * 4 + 2, none⟩ = some (.int .i64 b)) (go_keep) (first | (go_at_call 30; refine (unhide D1 _ (HPH.out.gs.below (below_drewN (Below.refl _ _) 1))).mono ?_; rintro e w2 ⟨q', off', cap', rfl, s1, s2, s3⟩; obtain ⟨y1, y2⟩ := A2.out w2 ((below_drewN (Below.refl _ _) 1).trans s2)))
              all_goals
                have hb2 := (below_drewN (Below.refl W1.heap.size W1) 1).trans s2
                have HPL := hide (HPH.out.ref s1 hb2 s3 HORD.out)
                have hrr : (r != r) = false := by simp
                clear A2 HPH D1 s1 s2 s3 hb2
                go_wp2
                go_roundw
                case rel => exact ⟨k + 1, v', q', off', cap', by omega, by omega, by go_num, by rw [HSN.out], by rw [HSN.out]; exact HPL⟩
                case measure => simp [intOf]; omega
            · by_cases hd4 : d = 4
              · subst hd4
                have hR : stepF g ⟨4, a, b, c⟩ = iteF g c a b := by simp [stepF]
                have C1 : Hid (∀ W, Below wr.heap.size wr W → Calls Try.prog 24 #[.pointer (some ⟨B, 0, none⟩), .int .i64 c, .int .i64 a, .int .i64 b] W (ActP W B M v (iteF g c a b))) := fun W hW => ite_any W B M v g c a b (HP.out.gr.below hW) (by have := HG.out; omega) HOK.out.2.2
                have D1 : Hid (∀ W, GS W (some ⟨q, off, none⟩) g → Calls Try.prog 31 #[.slice (some ⟨q, off, none⟩) g.length cq, .int .i64 c, .int .i64 a, .int .i64 b] W (RefP W q (iteF g c a b))) := fun W hW => refIte_any W q off cq g c a b hW (by have := HG.out; omega) HMAY.out HP.out.ord HOK.out.2.2
                rw [← hR] at C1 D1
                clear hR
                generalize stepF g ⟨4, a, b, c⟩ = R at *
                obtain ⟨g', r⟩ := R
                dsimp only at HSN HORD
                have AC : Hid (∀ W w1, Below wr.heap.size wr W → GrP W B M v g' w1 → w1.cell? ⟨qa, offa + k * 4 + 1, none⟩ = some (.int .i64 a) ∧ w1.cell? ⟨qa, offa + k * 4 + 2, none⟩ = some (.int .i64 b) ∧ w1.cell? ⟨qa, offa + k * 4 + 3, none⟩ = some (.int .i64 c)) := fun W w1 hb hg => ⟨(World.cell?_of_block (HP.out.cellsOk hb hg HQA.out)).trans a1, (World.cell?_of_block (HP.out.cellsOk hb hg HQA.out)).trans a2, (World.cell?_of_block (HP.out.cellsOk hb hg HQA.out)).trans a3⟩
                go_upto_region 21 with fail
                go_cut [10] from 128 to 144 (fun x W => x = .int .i64 r ∧ Hid (GrP wr B M v g' W))
                case first =>
                  go_wp2
                  go_region_held3 (fun z => z.cell? ⟨qa, offa + k * 4 + 1, none⟩ = some (.int .i64 a) ∧ z.cell? ⟨qa, offa + k * 4 + 2, none⟩ = some (.int .i64 b) ∧ z.cell? ⟨qa, offa + k * 4 + 3, none⟩ = some (.int .i64 c)) (go_keep) (first | (go_at_call 24; refine (unhide C1 _ (below_drewN (Below.refl _ _) 1)).mono ?_; rintro e w1 ⟨rfl, hgp⟩; obtain ⟨y1, y2, y3⟩ := AC.out _ w1 (below_drewN (Below.refl _ _) 1) hgp; dsimp only at hgp))
                  all_goals
                    go_wp2
                    go_meet
                    case rel => exact ⟨rfl, GrP.from (below_drewN (Below.refl _ _) 1) hgp⟩
                case rest =>
                obtain ⟨rfl, HGP⟩ := hcut
                have b1 := (World.cell?_of_block (HP.out.cellsOk (Below.refl _ _) HGP.out HQA.out)).trans a1
                have b2 := (World.cell?_of_block (HP.out.cellsOk (Below.refl _ _) HGP.out HQA.out)).trans a2
                have b3 := (World.cell?_of_block (HP.out.cellsOk (Below.refl _ _) HGP.out HQA.out)).trans a3
                obtain ⟨v', hph⟩ := HP.out.prog HGP.out
                have HPH := hide hph
                have A2 : Hid (∀ W, Below wc.heap.size wc W → W.cell? ⟨qa, offa + k * 4 + 1, none⟩ = some (.int .i64 a) ∧ W.cell? ⟨qa, offa + k * 4 + 2, none⟩ = some (.int .i64 b) ∧ W.cell? ⟨qa, offa + k * 4 + 3, none⟩ = some (.int .i64 c)) := fun W hb => ⟨(World.cell?_of_block (hb.block qa (by have := HPH.out.bel.size; have := HQA.out; omega))).trans b1, (World.cell?_of_block (hb.block qa (by have := HPH.out.bel.size; have := HQA.out; omega))).trans b2, (World.cell?_of_block (hb.block qa (by have := HPH.out.bel.size; have := HQA.out; omega))).trans b3⟩
                clear a0 a1 a2 a3 AC C1 hph HP HGP HAC
                obtain ⟨W1, rfl⟩ : ∃ W, W = wc := ⟨_, rfl⟩
                go_upto_region 22 with fail
                go_wp2
                go_region_held3 (fun z => z.cell? ⟨qa, offa + k * 4 + 1, none⟩ = some (.int .i64 a) ∧ z.cell? ⟨qa, offa + k * 4 + 2, none⟩ = some (.int .i64 b) ∧ z.cell? ⟨qa, offa + k * 4 + 3, none⟩ = some (.int .i64 c)) (go_keep) (first | (go_at_call 31; refine (unhide D1 _ (HPH.out.gs.below (below_drewN (Below.refl _ _) 1))).mono ?_; rintro e w2 ⟨q', off', cap', rfl, s1, s2, s3⟩; obtain ⟨y1, y2, y3⟩ := A2.out w2 ((below_drewN (Below.refl _ _) 1).trans s2)))
                all_goals
                  have hb2 := (below_drewN (Below.refl W1.heap.size W1) 1).trans s2
                  have HPL := hide (HPH.out.ref s1 hb2 s3 HORD.out)
                  have hrr : (r != r) = false := by simp
                  clear A2 HPH D1 s1 s2 s3 hb2
                  go_wp2
                  go_roundw
                  case rel => exact ⟨k + 1, v', q', off', cap', by omega, by omega, by go_num, by rw [HSN.out], by rw [HSN.out]; exact HPL⟩
                  case measure => simp [intOf]; omega
              · have hR : stepF g ⟨d, a, b, c⟩ = (g, 0) := by simp [stepF, hd0, hd1, hd2, hd3, hd4]
                rw [hR] at HSN
                dsimp only at HSN
                have e0 : (d == 0) = false := by simpa using hd0
                have e1 : (d == 1) = false := by simpa using hd1
                have e2 : (d == 2) = false := by simpa using hd2
                have e3 : (d == 3) = false := by simpa using hd3
                have e4 : (d == 4) = false := by simpa using hd4
                clear hR hd0 hd1 hd2 hd3 hd4 HAC a1 a2 a3
                go_wp2
                go_roundw
                case rel => exact ⟨k + 1, v, q, off, cq, by omega, by omega, by go_num, by rw [HSN.out], by rw [HSN.out]; exact HP⟩
                case measure => simp [intOf]; omega
    · have hke : playF [] (l.take k) = playF [] (l.take 25) := by
        by_cases h25 : k = 25
        · rw [h25]
        · have : k = l.length := by have := HL.out; omega
          rw [List.take_of_length_le (by omega), List.take_of_length_le (by omega)]
      rw [hke] at HP ⊢
      have HPE : Hid (PlayP w l (.returned (.tuple #[.pointer (some ⟨B, 0, none⟩), .slice (some ⟨q, off, none⟩) (playF [] (l.take 25)).length cq, .bool true])) wr) := ⟨B, M, v, q, off, cq, rfl, HP.out⟩
      clear hke HP HAC
      generalize (playF [] (l.take 25)).length = n25 at *
      by_cases h1 : k < L
      · have h2 : ¬ k < 25 := fun h => hlt ⟨h1, h⟩
        clear hlt
        go_wp2
        exact bodyPost_ret (v := .tuple #[.pointer (some ⟨B, 0, none⟩), .slice (some ⟨q, off, none⟩) n25 cq, .bool true]) (by simp [results, Try.results8, go_sem]) rfl HPE.out
      · clear hlt
        go_wp2
        exact bodyPost_ret (v := .tuple #[.pointer (some ⟨B, 0, none⟩), .slice (some ⟨q, off, none⟩) n25 cq, .bool true]) (by simp [results, Try.results8, go_sem]) rfl HPE.out
end Go.Proofs.Ytjfjigpmaeaopaa
