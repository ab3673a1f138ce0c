/- Contracts: the law's world at its beginning. -/
import Derived.Test.YtlmbgaconjcaiaaHd
import Derived.Deep.RegionHeld3
set_option linter.unusedVariables false
set_option linter.unusedSimpArgs false
namespace Go.Proofs.Ytlmbgaconjcaiaa
open Go.RowKit

theorem Try.size36 : (Try.prog.info? 36).map (·.size) = some 5 := by kernel_rfl
theorem Try.info4b : (Try.prog.info? 4).map (fun i => (i.zero, i.size, i.bytes)) = some (some (.bool false), 1, 1) := by kernel_rfl

/-- What is nobody's may turn. -/
theorem Rep.off {ρ : Nat → Rl} {w w' : World} {B : Nat} {H : Hd} {s : PS} (h : Rep ρ w B H s) (hk : ∀ b, b < w.heap.size → ρ b ≠ oth → w'.heap[b]? = w.heap[b]?) : Rep ρ w' B H s := by
  refine ⟨⟨fun r x hr => own_same (h.hold.own r x hr) (fun k e => hk k (h.hold.lt hr e) ?_), h.hold.rl⟩, h.wr, h.lr⟩
  rw [h.hold.rl r x k hr e]
  rintro rfl
  cases hr

/-- One block turned, a struct's. -/
structure U5 (w W : World) (g : Nat) (xs : List Value) : Prop where
  own : W.ownsRow 0 36 5 (obj1 g) 1 xs
  off : ∀ b, b ≠ g → W.heap[b]? = w.heap[b]?
  size : W.heap.size = w.heap.size
  rest : W.os = w.os ∧ W.tape = w.tape ∧ W.output = w.output

theorem U5.set {w W : World} {g : Nat} {xs : List Value} (h : U5 w W g xs) (i : Nat) (v : Value) : U5 w (W.setCell ⟨g, i, none⟩ v) g (xs.set i v) :=
  ⟨own_set h.own rfl v, fun b hb => (Below.heap_setCell _ _ _ _ hb).trans (h.off b hb), by rw [← h.size]; simp [World.setCell], h.rest⟩
theorem U5.first {w : World} {g : Nat} {x : Array Value} (hx : x.size = 5) (hb : w.heap[g]? = some (.cells x 36 (0, 0))) : U5 w w g x.toList :=
  ⟨own_of_block hb hx, fun _ _ => rfl, rfl, rfl, rfl, rfl⟩
theorem U5.last {w W : World} {g : Nat} {xs : List Value} (h : U5 w W g xs) (o : Obj) :
    (∀ b, b ≠ g → b < w.heap.size → (W.alloc o).drew.heap[b]? = w.heap[b]?) ∧ (W.alloc o).drew.heap[w.heap.size]? = some o ∧ (W.alloc o).drew.heap.size = w.heap.size + 1 ∧ ((W.alloc o).drew.os = w.os ∧ (W.alloc o).drew.tape = w.tape ∧ (W.alloc o).drew.output = w.output) ∧
    ∀ i u, xs[i]? = some u → (W.alloc o).drew.cell? ⟨g, i, none⟩ = some u := by
  refine ⟨fun b hb hl => ?_, ?_, ?_, h.rest, fun i u hi => own_cell (g := g) (h.own.alloc o) rfl hi⟩
  · show (W.alloc o).heap[b]? = _
    rw [heap_alloc_old _ _ (by rw [h.size]; exact hl)]
    exact h.off b hb
  · show (W.alloc o).heap[w.heap.size]? = _
    rw [← h.size]; exact heap_alloc_new _ _
  · show (W.alloc o).heap.size = _
    rw [← h.size]; simp

def BeginP (w : World) (V : Nat) (css : List (List Int)) (B g : Nat) (w' : World) : Prop :=
  ∃ ρ H, Rep ρ w' B H (css.foldl PS.attach (PS.zero V)) ∧ Ev free w ρ w' ∧ w.heap.size ≤ g ∧ ρ g = oth ∧ w'.heap[g]? = some (.cells (madeCells #[.bool false] css.length) 4 (0, 0))

set_option maxRecDepth 100000 in
set_option maxHeartbeats 4000000 in
theorem begin_any (a : Option Addr) (cap : Nat) (V : Nat) (css : List (List Int)) (w : World) (hg : GridC w a css) (hl : css.length ≤ 900) (hyes : cnfB V css = true) (hV : V ≤ 1048576) :
    Calls Try.prog 11 #[.agg #[.int .i64 V, .slice a css.length cap]] w fun e w' => ∃ B g, e = .returned (.tuple #[.agg #[.pointer (some ⟨B, 0, none⟩), .int .i64 V, .slice a css.length cap, .slice (some ⟨g, 0, none⟩) css.length css.length, .slice none 0 0], .bool true]) ∧ BeginP w V css B g w' := by
  obtain ⟨N, hN⟩ : ∃ N : Nat, N = css.length := ⟨_, rfl⟩
  have hb0 := below_alloc w (.cells #[.int .i64 V, .slice a css.length cap] 24)
  have hb1 := (below_alloc (w.alloc (.cells #[.int .i64 V, .slice a css.length cap] 24)) (.cells #[.pointer none, .int .i64 0, .slice none 0 0, .slice none 0 0, .slice none 0 0] 36)).mono (B' := w.heap.size) (by simp)
  have hb2 := hb0.trans hb1
  have NW := hide (new_yes a cap V css _ (hg.below hb2) hl hyes hV)
  obtain ⟨j1, hj1, hj1z, hj1s, hj1b⟩ := info_parts Try.info4b
  have mk1 : ∀ W : World, (Instr.makeSlice 33 (.int .i64 (css.length : Int)) (.int .i64 (css.length : Int))).run Try.prog W = .ok (.slice (some ⟨W.heap.size, 0, none⟩) css.length css.length) (W.alloc (.cells (madeCells #[.bool false] css.length) 4)) := fun W => run_make_row 33 4 j1 _ Try.underlying33 hj1 hj1z hj1s rfl .i64 .i64 css.length (by rw [hj1b]; omega) (by omega) W
  have HB2 := hide hb2
  clear hb0 hb1 hb2 hg hyes hj1 hj1z hj1s hj1b hN
  go_enter Try.func11, Try.ntmps11
  go_wp2_with fail
  refine Calls.mono (unhide NW) ?_
  rintro e w1 ⟨B, rfl, ρ, H, hR, hE⟩
  have hbel := hE.bel
  have hsz : ((w.alloc (.cells #[.int .i64 V, .slice a css.length cap] 24)).alloc (.cells #[.pointer none, .int .i64 0, .slice none 0 0, .slice none 0 0, .slice none 0 0] 36)).heap.size = w.heap.size + 1 + 1 := by simp
  have hw1 := hbel.size
  rw [hsz] at hw1
  have blk0 : w1.heap[w.heap.size]? = some (.cells #[.int .i64 V, .slice a css.length cap] 24 (0, 0)) := by
    rw [hbel.block _ (by rw [hsz]; omega), heap_alloc_old _ _ (by simp)]
    have e : (w.alloc (.cells #[.int .i64 V, .slice a css.length cap] 24)).heap = w.heap.push (.cells #[.int .i64 V, .slice a css.length cap] 24 (0, 0)) := rfl
    rw [e]; simp
  have blk1 : w1.heap[w.heap.size + 1]? = some (.cells #[.pointer none, .int .i64 0, .slice none 0 0, .slice none 0 0, .slice none 0 0] 36 (0, 0)) := by
    rw [hbel.block _ (by rw [hsz]; omega)]
    have e : ((w.alloc (.cells #[.int .i64 V, .slice a css.length cap] 24)).alloc (.cells #[.pointer none, .int .i64 0, .slice none 0 0, .slice none 0 0, .slice none 0 0] 36)).heap = (w.heap.push (.cells #[.int .i64 V, .slice a css.length cap] 24 (0, 0))).push (.cells #[.pointer none, .int .i64 0, .slice none 0 0, .slice none 0 0, .slice none 0 0] 36 (0, 0)) := rfl
    rw [e, Array.getElem?_push]; simp
  have l0 : w1.cell? ⟨w.heap.size, 0, none⟩ = some (.int .i64 V) := cell_of_block blk0 rfl
  have l1 : w1.cell? ⟨w.heap.size, 1, none⟩ = some (.slice a css.length cap) := cell_of_block blk0 rfl
  have m0 : w1.cell? ⟨w.heap.size + 1, 0, none⟩ = some (.pointer none) := cell_of_block blk1 rfl
  have m1 : w1.cell? ⟨w.heap.size + 1, 1, none⟩ = some (.int .i64 0) := cell_of_block blk1 rfl
  have m2 : w1.cell? ⟨w.heap.size + 1, 2, none⟩ = some (.slice none 0 0) := cell_of_block blk1 rfl
  have m3 : w1.cell? ⟨w.heap.size + 1, 3, none⟩ = some (.slice none 0 0) := cell_of_block blk1 rfl
  have m4 : w1.cell? ⟨w.heap.size + 1, 4, none⟩ = some (.slice none 0 0) := cell_of_block blk1 rfl
  have fz : ∀ i, w1.frozen? ⟨w.heap.size + 1, i, none⟩ = false := fun i => frz_of_block blk1
  have hnew0 := World.new_ne w1 _ l0
  have hnew1 := World.new_ne w1 _ m0
  have HR := hide hR
  have HE := hide hE
  have HB := hide hbel
  have Hb0 := hide blk0
  have Hb1 := hide blk1
  have HSZ := hide hsz
  clear NW hR hE hbel blk0 blk1 hsz
  have f0 := fz 0
  have f1 := fz 1
  have f2 := fz 2
  have f3 := fz 3
  have f4 := fz 4
  clear fz hnew0 hnew1
  have hw0 : w.heap.size + 1 < w1.heap.size := by omega
  have hx01 : w.heap.size ≠ w.heap.size + 1 := by omega
  generalize hb1e : w.heap.size + 1 = b1 at *
  generalize hb0e : w.heap.size = b0 at *
  have HW0 := hide hb0e
  have hn0 : b0 ≠ w1.heap.size := by omega
  have hn1 : b1 ≠ w1.heap.size := by omega
  have hn0' : w1.heap.size ≠ b0 := by omega
  have hn1' : w1.heap.size ≠ b1 := by omega
  have hx10 : b1 ≠ b0 := by omega
  have HW1 := hide hb1e
  clear hb1e hw1 hb0e
  go_wp2_with fail
  go_region_held3 (fun w' => w'.cell? ⟨b0, 0, none⟩ = some (.int .i64 V) ∧ w'.cell? ⟨b0, 1, none⟩ = some (.slice a css.length cap)) (go_keep) (fail)
  refine forget (P := fun W => Exit.then _ _ Exit.normal _ W) (fun W => (W.cell? ⟨b1, 0, none⟩ = some (.pointer (some ⟨B, 0, none⟩)) ∧ W.cell? ⟨b1, 1, none⟩ = some (.int .i64 V) ∧ W.cell? ⟨b1, 2, none⟩ = some (.slice a css.length cap) ∧ W.cell? ⟨b1, 3, none⟩ = some (.slice (some ⟨w1.heap.size, 0, none⟩) css.length css.length) ∧ W.cell? ⟨b1, 4, none⟩ = some (.slice none 0 0)) ∧ Hid (BeginP w V css B w1.heap.size W)) ?_ ?_
  · obtain ⟨s1, s2, s3, s4, s5⟩ := ((((((U5.first rfl Hb1.out).set 0 (.pointer (some ⟨B, 0, none⟩))).set 1 (.int .i64 V)).set 2 (.slice a css.length cap)).set 3 (.slice (some ⟨w1.heap.size, 0, none⟩) css.length css.length)).set 4 (.slice none 0 0)).last (.cells (madeCells #[.bool false] css.length) 4)
    refine ⟨⟨s5 0 _ rfl, s5 1 _ rfl, s5 2 _ rfl, s5 3 _ rfl, s5 4 _ rfl⟩, rs ρ w1.heap.size oth, H, ?_, ?_, ?_, rs_same _ _ _, s2⟩
    · refine (HR.out.role (fun b hb => rs_other _ _ (by omega))).off (fun b hb hr => s1 b ?_ hb)
      rintro rfl
      refine hr ?_
      rw [rs_other _ _ (by omega)]
      exact HE.out.agree _ (by rw [HSZ.out]; have := HW1.out; omega)
    · obtain ⟨e1, e2, e3⟩ := s4
      have hB2 := HB2.out
      have hB := HB.out
      refine ⟨e1.trans (hB.os.trans hB2.os), e2.trans (hB.tape.trans hB2.tape), e3.trans (hB.output.trans hB2.output), ?_, fun b hb => ?_, fun b hb _ => ?_⟩
      · have h1 := hB2.size
        have h2 := hB.size
        omega
      · have h1 := hB2.size
        have h2 := hB.size
        rw [rs_other _ _ (by omega)]
        exact HE.out.agree b (by omega)
      · have h1 := hB2.size
        have h2 := hB.size
        have h3 := HW1.out
        have h4 := HW0.out
        rw [s1 b (by omega) (by omega), hB.block b (by omega), hB2.block b (by omega)]
    · have h1 := HB2.out.size
      have h2 := HB.out.size
      omega
  clear mk1
  rintro W ⟨⟨r0, r1, r2, r3, r4⟩, HP⟩
  go_wp2
  refine bodyPost_ret (v := .tuple #[.agg #[.pointer (some ⟨B, 0, none⟩), .int .i64 V, .slice a css.length cap, .slice (some ⟨w1.heap.size, 0, none⟩) css.length css.length, .slice none 0 0], .bool true]) (by simp [results, Try.results11, go_sem, r0, r1, r2, r3, r4]) rfl ?_
  exact ⟨B, w1.heap.size, rfl, HP.out⟩
end Go.Proofs.Ytlmbgaconjcaiaa
