/- A trail and its table in memory; contracts: a number's amount; where a variable is looked for. -/
import Derived.Test.YtaepanmkofhgoaaWalkE
import Derived.Test.YtaepanmkofhgoaaPlainS
import Derived.OneCell
import Derived.Deep.DeepCutAuto
import Derived.Deep.CutBlock
import Derived.Deep.RegionHeld3
import Derived.Deep.RegionLaw
set_option linter.unusedVariables false
set_option linter.unusedSimpArgs false
namespace Go.Proofs.Ytaepanmkofhgoaa
open Go.RowKit

/-- A world is forgotten but for what is known of it. -/
theorem forget {P : World → Prop} {w : World} (I : World → Prop) (h : I w) (k : ∀ w', I w' → P w') : P w := k w h

/-- The amount, as 64 bits tell it. -/
def varW (l : Int) : Int := max l (wrap64 (-l))

set_option maxHeartbeats 400000 in
theorem variable_all (l : Int) (w : World) :
    Calls Try.prog 48 #[.int .i64 l] w fun e w' => e = .returned (.int .i64 (varW l)) ∧ w' = w := by
  go_enter Try.func48, Try.ntmps48
  go_wp2
  all_goals
    go_ret
    exact ⟨ret_int (by unfold varW; omega), rfl⟩

theorem varW_lit {l : Int} (h0 : -1048576 ≤ l) (h1 : l ≤ 1048576) : varW l = varI l := by
  unfold varW varI
  have : wrap64 (-l) = -l := IntWalk.wrap64_in _ (by omega)
  rw [this]; split <;> omega

/-- An assignment's cells. -/
structure AsAt (w : World) (b off : Nat) (x : As) : Prop where
  lt : b < w.heap.size
  c0 : w.cell? ⟨b, off, none⟩ = some (.int .i64 x.lit)
  c1 : w.cell? ⟨b, off + 1, none⟩ = some (.int .i64 x.lev)
  c2 : ∃ ra rc, w.cell? ⟨b, off + 2, none⟩ = some (.slice ra x.rsn.length rc) ∧ Row w ra x.rsn
  len : x.rsn.length ≤ maxLen
  fit : Fit x.rsn ∧ (-9223372036854775808 ≤ x.lit ∧ x.lit ≤ 9223372036854775807) ∧ (-9223372036854775808 ≤ x.lev ∧ x.lev ≤ 9223372036854775807)

/-- Assignments behind a slice. -/
def Trl (w : World) (a : Option Addr) (ts : List As) : Prop :=
  ∀ i, i < ts.length → ∃ b off, a = some ⟨b, off, none⟩ ∧ AsAt w b (off + i * 3) (nth ts i)

theorem AsAt.below {w w' : World} {b off : Nat} {x : As} (h : AsAt w b off x) (hb : Below w.heap.size w w') : AsAt w' b off x := by
  obtain ⟨ra, rc, h2, h3⟩ := h.c2
  exact ⟨Nat.lt_of_lt_of_le h.lt hb.size, (hb.cell (p := ⟨b, off, none⟩) h.lt).trans h.c0, (hb.cell (p := ⟨b, off + 1, none⟩) h.lt).trans h.c1, ⟨ra, rc, (hb.cell (p := ⟨b, off + 2, none⟩) h.lt).trans h2, h3.below hb⟩, h.len, h.fit⟩

theorem Trl.below {w w' : World} {a : Option Addr} {ts : List As} (h : Trl w a ts) (hb : Below w.heap.size w w') : Trl w' a ts := by
  intro i hi
  obtain ⟨b, off, e, h⟩ := h i hi
  exact ⟨b, off, e, h.below hb⟩

theorem AsAt.drewN {w : World} {b off : Nat} {x : As} (h : AsAt w b off x) (n : Nat) : AsAt (w.drewN n) b off x := ⟨h.lt, h.c0, h.c1, h.c2, h.len, h.fit⟩
theorem Trl.drewN {w : World} {a : Option Addr} {ts : List As} (h : Trl w a ts) (n : Nat) : Trl (w.drewN n) a ts := by
  intro i hi
  obtain ⟨b, off, e, h⟩ := h i hi
  exact ⟨b, off, e, h.drewN n⟩

/-- A path: its trail's slice, its slots' block and how many there are, and what they hold. -/
structure PP where
  a : Option Addr
  cap : Nat
  qb : Nat
  wd : Nat
  s : Nat → Int

/-- A path in memory, of which the first k were read. -/
structure Pth (w : World) (pb : Nat) (ts : List As) (k : Nat) (x : PP) : Prop where
  hp : pb < w.heap.size
  hq : x.qb < w.heap.size
  c0 : w.cell? ⟨pb, 0, none⟩ = some (.slice x.a ts.length x.cap)
  c1 : w.cell? ⟨pb, 1, none⟩ = some (.slice (some ⟨x.qb, 0, none⟩) (2 ^ x.wd) (2 ^ x.wd))
  c2 : w.cell? ⟨pb, 2, none⟩ = some (.int .i64 ((32 - x.wd : Nat) : Int))
  cs : ∀ i, i < 2 ^ x.wd → w.cell? ⟨x.qb, i, none⟩ = some (.int .i16 (x.s i))
  tr : Trl w x.a ts
  tab : Tab ts k x.wd x.s
  ok : OkTo ts k
  n20 : ts.length ≤ 20

theorem Pth.below {w w' : World} {pb : Nat} {ts : List As} {k : Nat} {x : PP} (h : Pth w pb ts k x) (hb : Below w.heap.size w w') : Pth w' pb ts k x where
  hp := Nat.lt_of_lt_of_le h.hp hb.size
  hq := Nat.lt_of_lt_of_le h.hq hb.size
  c0 := (hb.cell (p := ⟨pb, 0, none⟩) h.hp).trans h.c0
  c1 := (hb.cell (p := ⟨pb, 1, none⟩) h.hp).trans h.c1
  c2 := (hb.cell (p := ⟨pb, 2, none⟩) h.hp).trans h.c2
  cs i hi := (hb.cell (p := ⟨x.qb, i, none⟩) h.hq).trans (h.cs i hi)
  tr := h.tr.below hb
  tab := h.tab
  ok := h.ok
  n20 := h.n20

theorem Pth.drewN {w : World} {pb : Nat} {ts : List As} {k : Nat} {x : PP} (h : Pth w pb ts k x) (n : Nat) : Pth (w.drewN n) pb ts k x := ⟨h.hp, h.hq, h.c0, h.c1, h.c2, h.cs, h.tr.drewN n, h.tab, h.ok, h.n20⟩

theorem and_nxt : ∀ wd : Fin 7, ∀ i : Fin 64, i.val < 2 ^ wd.val → bits .and .i64 ((i.val : Int) + 1) ((2 ^ wd.val : Nat) - 1 : Int) = (nxt (2 ^ wd.val) i.val : Nat) := by decide +kernel

theorem and_nxt' {wd i : Nat} (h6 : wd ≤ 6) (hi : i < 2 ^ wd) : bits .and .i64 ((i : Int) + 1) (((2 ^ wd : Nat) : Int) - 1) = (nxt (2 ^ wd) i : Nat) := by
  have := pow6 h6
  exact and_nxt ⟨wd, by omega⟩ ⟨i, by omega⟩ hi

theorem quietC {P : Program} {f : FuncId} {args : Array Value} {w : World} {n k : Nat} {v : Value}
    (h : Calls P f args (w.drewN (n + k)) fun e w' => e = .returned v ∧ w' = w.drewN (n + k)) : Calls P f args (w.drewN (n + k)) fun e w'' => e = .returned v ∧ ∃ m, w'' = w.drewN (n + m) :=
  h.mono fun _ _ ⟨he, hm⟩ => ⟨he, k, hm⟩

theorem hsh_wrap (wd : Nat) (v : Int) (h6 : wd ≤ 6) : wrap64 (v % 4294967296 * 2654435769 % 4294967296 / 2 ^ (32 - wd)) = (hsh wd v : Nat) := by
  have h1 := hsh_lt wd v (by omega)
  have h2 := (pow6 h6).2
  have h0 : 0 ≤ v % 4294967296 * 2654435769 % 4294967296 / 2 ^ (32 - wd) := Int.ediv_nonneg (Int.emod_nonneg _ (by decide)) (by have : (0 : Int) < 2 ^ (32 - wd) := Int.pow_pos (by decide); omega)
  have e : ((hsh wd v : Nat) : Int) = v % 4294967296 * 2654435769 % 4294967296 / 2 ^ (32 - wd) := by unfold hsh; omega
  rw [← e]
  exact IntWalk.wrap64_in _ (by omega)

theorem and_nxtW {wd i : Nat} (h6 : wd ≤ 6) (hi : i < 2 ^ wd) : bits .and .i64 ((i : Int) + 1) (wrap64 ((2 : Int) ^ wd - 1)) = (nxt (2 ^ wd) i : Nat) := by
  have h := and_nxt' h6 hi
  have := pow6 h6
  have e : ((2 ^ wd : Nat) : Int) = (2 : Int) ^ wd := by simp
  rw [e] at h
  rw [IntWalk.wrap64_in _ (by omega)]
  exact h

set_option maxHeartbeats 2000000 in
theorem slot_any (w : World) (pb : Nat) (ts : List As) (k : Nat) (x : PP) (v : Int) (h : Pth w pb ts k x) :
    Calls Try.prog 47 #[.pointer (some ⟨pb, 0, none⟩), .int .i64 v] w fun e w' => ∃ r : Nat, e = .returned (.int .i64 r) ∧ End ts x.wd x.s v r ∧ ∃ n, w' = w.drewN n := by
  obtain ⟨a, cap, qb, wd, s⟩ := x
  have hp := h.hp
  have hq := h.hq
  have c0 := h.c0
  have c1 := h.c1
  have c2 := h.c2
  have h6 := h.tab.wd6
  obtain ⟨z, hz, hz0⟩ := h.tab.free
  dsimp only at h6 hz hz0
  have h64 := pow6 h6
  have HW := hide (hsh_wrap wd v h6)
  have hlt := hsh_lt wd v (by omega)
  have hn20 := h.n20
  have hkl := h.tab.kl
  dsimp only at *
  go_enter Try.func47, Try.ntmps47
  go_upto_region 2 with fail
  go_loopw [5] (fun i wr => ∃ r n : Nat, i = .int .i64 r ∧ r < 2 ^ wd ∧ (∃ d, r = stp (2 ^ wd) (hsh wd v) d ∧ ∀ e, e < d → Past ts s v (stp (2 ^ wd) (hsh wd v) e)) ∧ wr = w.drewN n) (fun i _ => dst (2 ^ wd) z (intOf i).toNat)
  case atStart => exact ⟨hsh wd v, 0, by rw [HW.out], hlt, ⟨0, rfl, fun e he => by omega⟩, rfl⟩
  case round =>
    obtain ⟨r, n, rfl, hr, HWY, rfl⟩ := hrel
    replace HWY := hide HWY
    have hc := h.cs r hr
    have hent := h.tab.ent r hr
    dsimp only at hc hent
    by_cases h0 : s r = 0
    · have hb : (s r != 0) = false := by simp [h0]
      have HE : Hid (End ts wd s v r) := ⟨hr, HWY.out, .inl h0⟩
      generalize s r = y at *
      clear h0 hent h c0
      go_wp2
      go_quiet (fail)
      go_wp2
      go_ret
      exact ⟨r, rfl, HE.out, n + nq, World.drewN_drewN _ _ _⟩
    · have hent' := hent.resolve_left h0
      obtain ⟨j, hj⟩ : ∃ j : Nat, s r = (j : Int) + 1 := ⟨(s r).toNat - 1, by omega⟩
      have hjk : j < k := by omega
      obtain ⟨b, off, rfl, hA⟩ := h.tr j (by omega)
      have hA0 := hA.c0
      have hlit := (okB_parts (h.ok j hjk)).1
      have hl2 := litB_true.1 hlit
      have CV := fun w => variable_all (nth ts j).lit w
      rw [varW_lit hl2.2.1 hl2.2.2] at CV
      have e1 : (s r).toNat - 1 = j := by omega
      have hlen : (j : Int) < ts.length := by omega
      have hne : r ≠ z := fun e => by rw [e] at h0; exact h0 hz0
      have hnx := and_nxtW h6 hr
      by_cases hv : varI (nth ts j).lit = v
      · have HE : Hid (End ts wd s v r) := ⟨hr, HWY.out, .inr (by rw [e1]; exact hv)⟩
        rw [hv] at CV
        replace CV := hide CV
        rw [hj] at hc
        have hj1 : ((j : Int) + 1 != 0) = true := by simp; omega
        generalize (nth ts j).lit = l at *
        clear h hent hent' hlit hl2 hA e1 hv h0 hj
        go_wp2
        go_quiet ((go_at_call 48; exact quietC (unhide CV _)))
        go_wp2
        go_ret
        exact ⟨r, rfl, HE.out, n + nq, World.drewN_drewN _ _ _⟩
      · have HE : Hid (Past ts s v r) := ⟨h0, by rw [e1]; exact hv⟩
        have hb : (varI (nth ts j).lit != v) = true := by simp [hv]
        generalize varI (nth ts j).lit = u at *
        replace CV := hide CV
        rw [hj] at hc
        have hj1 : ((j : Int) + 1 != 0) = true := by simp; omega
        generalize (nth ts j).lit = l at *
        clear h hent hent' hlit hl2 hA e1 hv h0 hj
        go_wp2
        go_quiet ((go_at_call 48; exact quietC (unhide CV _)))
        go_wp2
        go_roundw
        case rel => exact ⟨nxt (2 ^ wd) r, _, by rfl, nxt_lt hr, End.go HWY.out HE.out, rfl⟩
        case measure => simp only [intOf]; exact dst_nxt hr hz hne

end Go.Proofs.Ytaepanmkofhgoaa
