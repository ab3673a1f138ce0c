/- Contracts: total: what the bits of one worth come to. -/
import Derived.Test.YtbilhiklfficoaaCc
import Derived.Test.YtbilhiklfficoaaVd
import Derived.Deep.RegionHeld3
set_option linter.unusedVariables false
set_option linter.unusedSimpArgs false
namespace Go.Proofs.Ytbilhiklfficoaa
open Go.RowKit Go.Maps

/-- What total tells: a bit, and what is carried. -/
def TotP (w : World) (B M : Nat) (v : Value) (g : List Gt) (cv : Value) (n : Nat) (A : List Bool → List Bool) (e : Ending) (w' : World) : Prop :=
  ∃ x rv car v' g' col cv' X R, e = .returned (.tuple #[.int .i64 x, rv]) ∧ Tl w w' B M v v' g g' (7 * (n / 2)) cv cv' col rv car ∧ car.length = n / 2 ∧ Lt g' x X ∧ Wt g' car R ∧ ∀ ins, b2n (X ins) + 2 * cntT (R ins) = cntT (A ins)
def lenV : Value → Nat
  | .slice _ n _ => n
  | _ => 0

section
variable (w : World) (B M : Nat) (v : Value) (g : List Gt)
theorem cell_new (W : World) (x : Value) (t : TypeId) : (W.alloc (.cells #[x] t)).cell? ⟨W.heap.size, 0, none⟩ = some x := cell_of_block (heap_alloc_new _ _) rfl

/-- The sum in its midst: what it says of the bits. -/
structure Tm (w W : World) (B M : Nat) (v : Value) (g : List Gt) (cv0 cv rv : Value) (n : Nat) (A : List Bool → List Bool) (v' : Value) (g' : List Gt) (col car : List Int) (C R : List Bool → List Bool) : Prop where
  tl : Tl w W B M v v' g g' (7 * car.length) cv0 cv col rv car
  odd : col.length % 2 = 1
  len : car.length + col.length / 2 = n / 2
  wc : Wt g' col C
  wr : Wt g' car R
  num : ∀ ins, cntT (C ins) + 2 * cntT (R ins) = cntT (A ins)

set_option maxHeartbeats 4000000 in
theorem total_any (al : Option Addr) (cap : Nat) (col : List Int) (n : Nat) (A : List Bool → List Bool)
    (hA : Gr w B M v g) (hl : g.length ≤ 990000) (hn : col.length = n) (h64 : n ≤ 64) (hc : RX w (.slice al n cap) col) (hf : ∀ b, blkX (.slice al n cap) = some b → ¬ Sv B M v b) (hw : Wt g col A) :
    Calls Try.prog 29 #[.pointer (some ⟨B, 0, none⟩), .slice al n cap] w (TotP w B M v g (.slice al n cap) n A) := by
  have TN : Hid (∀ W v' g' x y z X Y Z, Gr W B M v' g' → g'.length ≤ 999960 → Lt g' x X → Lt g' y Y → Lt g' z Z → Calls Try.prog 47 #[.pointer (some ⟨B, 0, none⟩), .int .i64 x, .int .i64 y, .int .i64 z] W (PP W B M v' g' 7 (fun ins => threeS (X ins) (Y ins) (Z ins)) (fun ins => threeC (X ins) (Y ins) (Z ins)))) := fun W v' g' x y z X Y Z h h1 h2 h3 h4 => three_any W B M v' g' x y z X Y Z h h1 h2 h3 h4
  have HT := Tl.start hA hc hf
  have HL := hide hl
  have H64 := hide h64
  go_enter Try.func29, Try.ntmps29
  by_cases hp : n % 2 = 0
  case' pos =>
    have h0 : ((n : Int) % 2 == 0) = true := by simp; omega
    have HT0 := HT.below (below_alloc w (.cells #[.int .i64 0] 3))
    have hcl := cell_new w (.int .i64 0) 3
    go_upto_region 3 with (first
      | (at_builtin; refine wpList_append_rx (v := .slice al n cap) rfl _ _ rfl rfl HT0.c ⟨w.heap.size, 0, none⟩ 0 rfl hcl (by omega) ?_; intro a1 c1 w1 r1 gr1 n1))
    have HT1 := HT0.colT r1 gr1 n1
    have HM0 : Hid (Tm w w1 B M v g (.slice al n cap) (.slice a1 (n + 1) c1) (.slice none 0 0) n A v g (col ++ [0]) [] (fun ins => A ins ++ [false]) (fun _ => [])) :=
      ⟨by rw [← hn]; rw [← hn] at HT1; exact HT1, by simp; omega, by simp; omega, hw.snoc (lt_zero g), Wt.nil, fun ins => by rw [cntT_snoc]; simp [b2n, cntT]⟩
    clear HT HT0 HT1 hcl r1 gr1 n1 h0 hA hc hf hw
  case' neg =>
    have h0 : ((n : Int) % 2 == 0) = false := by simp; omega
    have HM0 : Hid (Tm w w B M v g (.slice al n cap) (.slice al n cap) (.slice none 0 0) n A v g col [] A (fun _ => [])) :=
      ⟨HT, by omega, by simp; omega, hw, Wt.nil, fun ins => by simp [cntT]⟩
    clear HT hA hc hf hw
    go_upto_region 3 with fail
    clear h0
  all_goals
    go_loopw [1, 5] (fun c r W => ∃ a m cp v' g' col car C R, c = .slice a m cp ∧ Hid (Tm w W B M v g (.slice al n cap) (.slice a m cp) r n A v' g' col car C R)) (fun c _ _ => lenV c)
    case atStart => exact ⟨_, _, _, _, _, _, _, _, _, rfl, HM0⟩
    case round =>
      clear HM0
      obtain ⟨a, m, cp, v', g', col, car, C, R, rfl, HM⟩ := hrel
      obtain ⟨ra, rc, rfl⟩ := HM.out.tl.r.form
      have hm : m = col.length := HM.out.tl.c.row.2
      have hodd := HM.out.odd
      have hlen := HM.out.len
      by_cases h1 : m = 1
      · subst h1
        obtain ⟨x, rfl⟩ : ∃ x, col = [x] := List.length_eq_one_iff.1 hm.symm
        obtain ⟨b, off, rfl, hb, hcell⟩ := HM.out.tl.c.row.1 0 (by simp)
        have hx := HM.out.wc.at (i := 0) (by simp)
        have HF : Hid (TotP w B M v g (.slice al n cap) n A (.returned (.tuple #[.int .i64 x, .slice ra car.length rc])) wr) := by
          refine ⟨x, _, car, v', g', _, _, fun ins => (C ins).getD 0 false, R, rfl, HM.out.tl.mono (by simp at hlen; omega), by simp at hlen; omega, hx, HM.out.wr, fun ins => ?_⟩
          have e := HM.out.num ins
          have hl1 := HM.out.wc.len ins
          obtain ⟨c, hc⟩ := List.length_eq_one_iff.1 hl1
          show b2n ((C ins).getD 0 false) + 2 * cntT (R ins) = cntT (A ins)
          rw [hc] at e ⊢
          simpa [cntT] using e
        have hcell' : wr.cell? ⟨b, off, none⟩ = some (.int .i64 x) := hcell
        clear hm hodd hlen hx HM hcell
        go_wp2
        go_ret2
        exact HF.out
      · obtain ⟨x, y, z, rest, rfl⟩ : ∃ x y z rest, col = x :: y :: z :: rest := by
          match col, hm, hodd, h1 with
          | [], _, h, _ => simp at h
          | [_], h, _, h' => exact absurd h h'
          | [_, _], _, h, _ => simp at h
          | x :: y :: z :: r, _, _, _ => exact ⟨x, y, z, r, rfl⟩
        obtain ⟨r, hr⟩ : ∃ r, rest.length = r := ⟨_, rfl⟩
        obtain rfl : m = r + 3 := by rw [hm, ← hr]; rfl
        obtain ⟨b, off, rfl, hb, hcell⟩ := HM.out.tl.c.row.1 0 (by simp)
        have ht3 := HM.out.tl.c
        rw [← hr] at ht3
        obtain ⟨k0, k1, k2, hcp, hcm, hbs, t0, t1, hbk⟩ := ht3.tail3
        rw [hr] at hcp hbk
        have T1 := hide (unhide TN (wr.drewN 1) v' g' x y z _ _ _ (HM.out.tl.gr.drewN 1) (by have := HM.out.tl.grow.len; have := H64.out; have := HL.out; simp at hlen; omega) (HM.out.wc.at (i := 0) (by simp)) (HM.out.wc.at (i := 1) (by simp)) (HM.out.wc.at (i := 2) (by simp)))
        have HLE := hide hlen
        have HR := hide hr
        have hbs0 := hbs
        have HOD := hide hodd
        have i0 : (0 : Int) < (r : Int) + 3 := by omega
        have i2 : (2 : Int) < (r : Int) + 3 := by omega
        have HNF := hide (HM.out.tl.cf b hbk)
        have hbs1 : Hid (b < (wr.drewN 1).heap.size) := hbs0
        clear hbk hbs0
        clear hm h1 hcell hlen hr t0 t1 hodd ht3 hcm hbs
        go_wp2
        go_region_held3 (fun W => W.cell? ⟨b, off, none⟩ = some (.int .i64 x) ∧ W.cell? ⟨b, off + 1, none⟩ = some (.int .i64 y) ∧ W.cell? ⟨b, off + 2, none⟩ = some (.int .i64 z)) (go_keep)
          (first
            | (go_at_call 47; refine (unhide T1).mono ?_; rintro e w1 ⟨s, c, v1, g1, rfl, s1, b1, d1⟩; have y0 := s1.cell hbs1.out HNF.out k0; have y1 := s1.cell hbs1.out HNF.out k1; have y2 := s1.cell hbs1.out HNF.out k2))
        have HM1 := hide ((HM.out.tl.below (below_drewN (Below.refl _ _) 1)).act s1)
        have hcn := cell_new w1 (.int .i64 s) 3
        have HWS := hide (((HM.out.wc.grow s1.grow).drop 3).snoc b1)
        have HWR := hide ((HM.out.wr.grow s1.grow).snoc d1)
        have HN3 := hide (fun ins => round3 (C := C ins) (R := R ins) (by rw [HM.out.wc.len ins]; simp) (HM.out.num ins))
        clear k0 k1 k2 y0 y1 y2 T1 s1 b1 d1 HM i0 i2 hbs1 HNF
        have ht3 := HM1.out.c
        rw [show (.slice (some ⟨b, off, none⟩) (r + 3) cp : Value) = .slice (some ⟨b, off, none⟩) (rest.length + 3) cp by rw [HR.out]] at ht3
        obtain ⟨_, _, _, _, _, _, t0, t1, _⟩ := ht3.tail3
        clear ht3
        have HM2 := hide (HM1.out.below (below_alloc w1 (.cells #[.int .i64 s] 3)))
        have hrl : rest.length ≤ 64 := by have q1 := HLE.out; have q2 := H64.out; simp at q1; omega
        by_cases h3 : cp = 3
        case' pos =>
          obtain rfl : r = 0 := by omega
          have R3 := (t0 h3).below (below_alloc w1 (.cells #[.int .i64 s] 3))
          have HM3 := HM2.out.colT R3 (World.grownBy.refl _ _) (fun b' e => (by simp [blkX] at e))
          subst h3
          clear t0 t1
          go_upto_region 6 with (first
            | (at_builtin; refine wpList_append_rx (v := .slice (some ⟨b, off, none⟩) 0 0) rfl _ _ rfl rfl R3 ⟨w1.heap.size, 0, none⟩ s rfl hcn (by omega) ?_; intro a2 c2 w2 r2 gr2 n2))
        case' neg =>
          have R3 := (t1 h3).below (below_alloc w1 (.cells #[.int .i64 s] 3))
          rw [HR.out] at R3
          have HM3 := HM2.out.colT R3 (World.grownBy.refl _ _) (fun b' e => .inl (by
            have : blkX (.slice (some ⟨b, off + 3, none⟩) r (cp - 3)) = some b := by
              obtain ⟨u, hu⟩ : ∃ u, cp - 3 = u + 1 := ⟨cp - 4, by omega⟩
              rw [hu]; rfl
            rw [this] at e
            obtain ⟨u, hu⟩ : ∃ u, cp = u + 1 := ⟨cp - 1, by omega⟩
            rw [hu]; exact e))
          clear t0 t1
          go_upto_region 6 with (first
            | (at_builtin; refine wpList_append_rx (v := .slice (some ⟨b, off + 3, none⟩) r (cp - 3)) rfl _ _ rfl rfl R3 ⟨w1.heap.size, 0, none⟩ s rfl hcn (by omega) ?_; intro a2 c2 w2 r2 gr2 n2))
        all_goals
          have HM4 := hide ((HM3.colT r2 gr2 n2).below (below_alloc w2 (.cells #[.int .i64 c] 3)))
          have hcn2 := cell_new w2 (.int .i64 c) 3
          have hcl : car.length ≤ 64 := by have q1 := HLE.out; have q2 := H64.out; simp at q1; omega
          clear HM1 HM2 HM3 R3 r2 gr2 n2 hcn
          go_wp2_with (first
            | (at_builtin; refine wpList_append_rx (v := .slice ra car.length rc) rfl _ _ rfl rfl HM4.out.r ⟨w2.heap.size, 0, none⟩ c rfl hcn2 (by omega) ?_; intro a3 c3 w3 r3 gr3 n3))
          have HM5 := hide (HM4.out.carT r3 gr3 n3)
          go_roundw
          case rel =>
            refine ⟨a2, _, c2, v1, g1, rest ++ [s], car ++ [c], _, _, rfl, ⟨HM5.out.mono (by simp; omega), ?_, ?_, HWS.out, HWR.out, HN3.out⟩⟩
            · have := HOD.out; simp at this ⊢; omega
            · have := HLE.out; simp at this ⊢; omega
          case measure =>
            have := HR.out
            simp [lenV]; omega
end
end Go.Proofs.Ytbilhiklfficoaa
