/- Contracts: how many bits a small number has; a path of which nothing was read. -/
import Derived.Test.YtaepanmkofhgoaaWalkI
set_option linter.unusedVariables false
set_option linter.unusedSimpArgs false
namespace Go.Proofs.Ytaepanmkofhgoaa
open Go.RowKit

theorem len8tab_all : ∀ n : Fin 256, (Lib.len8tab[n.val]!).toNat = Lib.bitLen n.val := by decide +kernel
theorem len8tab_size : Lib.len8tab.size = 256 := by decide +kernel
theorem len8tab_at (n : Nat) (h : n < Lib.len8tab.size) : Lib.len8tab[n].toNat = Lib.bitLen n := by
  have hn : n < 256 := by rw [len8tab_size] at h; exact h
  have := len8tab_all ⟨n, hn⟩
  rw [← this]
  simp only [getElem!_pos Lib.len8tab n h]
theorem wrap_small {a : Int} (h0 : 0 ≤ a) (h1 : a ≤ 1000) : wrap64 a = a := by
  unfold wrap64; omega

set_option maxHeartbeats 4000000 in
set_option maxRecDepth 100000 in
theorem len64_any (x : Int) (w : World) (h0 : 0 ≤ x) (h1 : x ≤ 255) :
    Calls Try.prog 67 #[.int .u64 x] w fun e w' => e = .returned (.int .i64 (Lib.bitLen x.toNat)) ∧ w' = w := by
  have hz : ((Lib.len8tab.size : Nat) : Int) = 256 := by rw [len8tab_size]; rfl
  have HB := hide (Lib.bitLen_le8' x (by omega) (by omega))
  go_enter Try.func67, Try.ntmps67
  go_wp2
  go_ret
  refine ⟨ret_int ?_, rfl⟩
  have l := HB.out
  rw [Lib.len8_of x h0 h1, wrap_small (a := (Lib.bitLen x.toNat : Int)) (by omega) (by omega), wrap_small (by omega) (by omega)]

set_option maxHeartbeats 4000000 in
set_option maxRecDepth 100000 in
theorem len_any (x : Int) (w : World) (h0 : 0 ≤ x) (h1 : x ≤ 255) :
    Calls Try.prog 60 #[.int .u64 x] w fun e w' => e = .returned (.int .i64 (Lib.bitLen x.toNat)) ∧ w' = w := by
  go_enter Try.func60, Try.ntmps60
  go_wp2_with (go_at_call 67; refine (len64_any _ _ h0 h1).mono ?_; rintro e w0 ⟨rfl, hw0⟩; subst w0)
  go_ret
  exact ⟨rfl, rfl⟩

theorem wd_all : ∀ n : Fin 21, Lib.bitLen (2 * n.val) ≤ 6 ∧ n.val < 2 ^ Lib.bitLen (2 * n.val) := by decide +kernel

theorem Try.info59 : (Try.prog.info? 59).map (fun i => (i.zero, i.size, i.bytes)) = some (some (.int .i16 0), 1, 2) := by kernel_rfl

/-- What a new path leaves. -/
structure NewP (w w' : World) (pb : Nat) (ts : List As) (x : PP) : Prop where
  pth : Pth w' pb ts 0 x
  bel : Below w.heap.size w w'
  hpb : w.heap.size ≤ pb
  hqb : w.heap.size ≤ x.qb
  ne : pb ≠ x.qb
  fz : ∀ i, w'.frozen? ⟨x.qb, i, none⟩ = false
  cp : w'.cell? ⟨pb, 0, none⟩ = some (.slice x.a ts.length x.cap)

theorem made_at (M j : Nat) (h : j < M) : (madeCells (Value.int IntKind.i16 0).cells (M * 1)).toList[j]? = some (.int .i16 0) := by
  have e : j % 1 = 0 := Nat.mod_one j
  simp [madeCells, Value.cells, h, e]

theorem newp_of {w w1 : World} {a : Option Addr} {cap M wd : Nat} {ts : List As} {o : Obj} (ho : o = .cells #[.slice a ts.length cap, .slice (some ⟨w.heap.size, 0, none⟩) M M, .int .i64 (32 - (wd : Int))] 62) (hM : M = 2 ^ wd) (hE : ((32 - wd : Nat) : Int) = 32 - (wd : Int)) (hT : Tab ts 0 wd fun _ => 0) (h : Trl w a ts) (h20 : ts.length ≤ 20)
    (hown : w1.ownsRow w.heap.size 59 1 (.slice (some ⟨w.heap.size, 0, none⟩) M M) M (madeCells (Value.int IntKind.i16 0).cells (M * 1)).toList) (hg : w.grownBy w1 none) :
    NewP w (w1.alloc o) w1.heap.size ts ⟨a, cap, w.heap.size, wd, fun _ => 0⟩ := by
  have hlt : w.heap.size < w1.heap.size := (hown.lt w.heap.size rfl).2
  have hb1 : Below w.heap.size w w1 := (Below.refl _ _).grown hg (Nat.le_refl _) (by intro k hk; cases hk)
  have hb : Below w.heap.size w (w1.alloc o) := hb1.alloc hb1.size _
  have hnew : (w1.alloc o).heap[w1.heap.size]? = some o := heap_alloc_new w1 o
  have hcell : ∀ j u, (#[Value.slice a ts.length cap, .slice (some ⟨w.heap.size, 0, none⟩) M M, .int .i64 (32 - (wd : Int))] : Array Value)[j]? = some u → (w1.alloc o).cell? ⟨w1.heap.size, j, none⟩ = some u := by
    intro j u hu
    rw [ho] at hnew
    rw [ho]
    simp only [World.cell?, hnew]
    exact hu
  have hold : ∀ i, (w1.alloc o).cell? ⟨w.heap.size, i, none⟩ = w1.cell? ⟨w.heap.size, i, none⟩ := fun i => (below_alloc w1 o).cell (p := ⟨w.heap.size, i, none⟩) hlt
  refine ⟨⟨by simp, by simp; omega, hcell 0 _ rfl, ?_, ?_, ?_, h.below hb, hT, fun i hi => by omega, h20⟩, hb, by omega, Nat.le_refl _, by dsimp only; omega, ?_, hcell 0 _ rfl⟩
  · dsimp only; rw [← hM]; exact hcell 1 _ rfl
  · dsimp only; rw [hE]; exact hcell 2 _ rfl
  · intro i hi
    dsimp only at *
    rw [← hM] at hi
    rw [hold, hown.cellAt i (by omega), made_at M i hi]
  · intro i
    dsimp only
    have h1 := hown.frozenAt i
    have h2 := (below_alloc w1 o).frozen (p := ⟨w.heap.size, i, none⟩) hlt
    rw [h2]; exact h1

set_option maxHeartbeats 4000000 in
set_option maxRecDepth 100000 in
theorem newPath_any (w : World) (a : Option Addr) (cap : Nat) (ts : List As) (h : Trl w a ts) (h20 : ts.length ≤ 20) :
    Calls Try.prog 45 #[.slice a ts.length cap] w fun e w' => ∃ pb x, e = .returned (.pointer (some ⟨pb, 0, none⟩)) ∧ x.a = a ∧ NewP w w' pb ts x := by
  obtain ⟨i0, hi, hz0, hz1, hz2⟩ := info_parts Try.info59
  have hw := wd_all ⟨ts.length, by omega⟩
  dsimp only at hw
  have CL := len_any (2 * (ts.length : Int)) w (by omega) (by omega)
  have e2 : (2 * (ts.length : Int)).toNat = 2 * ts.length := by omega
  rw [e2] at CL
  replace CL := hide CL
  clear e2
  generalize Lib.bitLen (2 * ts.length) = wd at *
  obtain ⟨h6, hroom⟩ := hw
  have h64 := pow6 h6
  have hp : (2 : Int) ^ wd = ((2 ^ wd : Nat) : Int) := by simp
  have HT := hide (Tab.zero (ts := ts) h6 hroom)
  have HL := hide h
  clear h
  have e32 : ((32 - wd : Nat) : Int) = 32 - (wd : Int) := by omega
  obtain ⟨M, hM⟩ : ∃ M, M = 2 ^ wd := ⟨_, rfl⟩
  rw [← hM] at hp h64 hroom
  have HM := hide hM
  have HE := hide e32
  clear hM e32
  go_enter Try.func45, Try.ntmps45
  go_wp2_with (first | (go_at_call 60; refine (unhide CL).mono ?_; rintro e w0 ⟨rfl, hw0⟩; subst w0) | (at_make; refine wpList_make_full _ rfl _ _ 60 rfl w.heap.size 59 i0 (.int .i16 0) 1 Try.underlying60 hi hz0 hz1 .i64 .i64 _ _ M rfl rfl rfl rfl (by rw [hz2]; omega) (by unfold maxLen; omega) (Nat.le_refl _) ?_; intro w1 hown1 hgrow1))
  go_ret
  exact ⟨_, _, rfl, rfl, newp_of rfl HM.out HE.out HT.out HL.out h20 hown1 hgrow1⟩

end Go.Proofs.Ytaepanmkofhgoaa
