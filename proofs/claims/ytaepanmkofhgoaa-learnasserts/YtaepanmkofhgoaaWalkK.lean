/- Contract: a trail is read. -/
import Derived.Test.YtaepanmkofhgoaaWalkJ
set_option linter.unusedVariables false
set_option linter.unusedSimpArgs false
namespace Go.Proofs.Ytaepanmkofhgoaa
open Go.RowKit

theorem box_cell (w : World) (cs : Array Value) (t : TypeId) {j : Nat} {u : Value} (h : cs[j]? = some u) : (w.alloc (.cells cs t)).cell? ⟨w.heap.size, j, none⟩ = some u := by
  have := heap_alloc_new w (.cells cs t)
  simp only [World.cell?, this]
  exact h

theorem wrap_k : ∀ k : Fin 21, IntKind.i64.wrap ((k.val : Int) + 1) = (k.val : Int) + 1 ∧ IntKind.i16.wrap ((k.val : Int) + 1) = (k.val : Int) + 1 := by decide +kernel

/-- In the midst of reading. -/
structure RdP (w wr : World) (pb : Nat) (ts : List As) (k : Nat) (x : PP) : Prop where
  pth : Pth wr pb ts k x
  bel : Below w.heap.size w wr
  hpb : w.heap.size ≤ pb
  hqb : w.heap.size ≤ x.qb
  ne : pb ≠ x.qb
  fz : ∀ i, wr.frozen? ⟨x.qb, i, none⟩ = false

theorem RdP.below {w wr w' : World} {pb : Nat} {ts : List As} {k : Nat} {x : PP} (h : RdP w wr pb ts k x) (hb : Below wr.heap.size wr w') : RdP w w' pb ts k x :=
  ⟨h.pth.below hb, h.bel.trans (hb.mono h.bel.size), h.hpb, h.hqb, h.ne, fun i => by rw [hb.frozen (p := ⟨x.qb, i, none⟩) h.pth.hq]; exact h.fz i⟩

/-- A slot is set: one more is read. -/
theorem RdP.store {w wr : World} {pb : Nat} {ts : List As} {k : Nat} {x : PP} (h : RdP w wr pb ts k x) (htr : Trl w x.a ts) (hk : k < ts.length) (hok : okB (ts.take k) (prevL ts k) (nth ts k) = true) {r : Nat} (hr : End ts x.wd x.s (varI (nth ts k).lit) r) :
    RdP w (wr.setCell ⟨x.qb, r, none⟩ (.int .i16 ((k : Int) + 1))) pb ts (k + 1) { x with s := upd x.s r ((k : Int) + 1) } := by
  have h0 : x.s r = 0 := by
    have := h.pth.tab.place (h.pth.ok.dst h.pth.tab.kl) hr
    have h2 := (okB_parts hok).2.1
    omega
  have hc := h.pth.cs r hr.lt
  have hsz : (wr.setCell ⟨x.qb, r, none⟩ (.int .i16 ((k : Int) + 1))).heap.size = wr.heap.size := by simp
  have hoth : ∀ p : Addr, p ≠ ⟨x.qb, r, none⟩ → (wr.setCell ⟨x.qb, r, none⟩ (.int .i16 ((k : Int) + 1))).cell? p = wr.cell? p := fun p hp => World.cell?_setCell_other _ _ _ _ (fun e => hp e.symm)
  have hbel : Below w.heap.size w (wr.setCell ⟨x.qb, r, none⟩ (.int .i16 ((k : Int) + 1))) := h.bel.setCell h.hqb _
  refine ⟨⟨by rw [hsz]; exact h.pth.hp, by rw [hsz]; exact h.pth.hq, ?_, ?_, ?_, ?_, htr.below hbel, h.pth.tab.more hk hr h0, h.pth.ok.succ hok, h.pth.n20⟩, hbel, h.hpb, h.hqb, h.ne, ?_⟩
  · rw [hoth _ (by intro e; cases e; exact h.ne rfl)]; exact h.pth.c0
  · rw [hoth _ (by intro e; cases e; exact h.ne rfl)]; exact h.pth.c1
  · rw [hoth _ (by intro e; cases e; exact h.ne rfl)]; exact h.pth.c2
  · intro i hi
    dsimp only at *
    by_cases e : i = r
    · subst e
      rw [upd_same]
      exact World.cell?_setCell_same _ _ _ hc
    · rw [upd_other _ _ e, hoth _ (by intro e2; cases e2; exact e rfl)]
      exact h.pth.cs i hi
  · intro i
    dsimp only
    rw [World.frozen?_setCell]
    exact h.fz i

theorem RdP.drewN {w wr : World} {pb : Nat} {ts : List As} {k : Nat} {x : PP} (h : RdP w wr pb ts k x) (n : Nat) : RdP w (wr.drewN n) pb ts k x :=
  ⟨h.pth.drewN n, below_drewN h.bel n, h.hpb, h.hqb, h.ne, h.fz⟩

theorem OkTo.lev_bd {ts : List As} {k : Nat} (h : OkTo ts k) : ∀ i, i < k → 0 ≤ (nth ts i).lev ∧ (nth ts i).lev ≤ i + 1 := by
  intro i
  induction i with
  | zero => intro hi; have := (okB_parts (h 0 hi)).2.2; rw [prevL_zero] at this; omega
  | succ i ih => intro hi; have := (okB_parts (h (i + 1) hi)).2.2; rw [prevL_succ] at this; have := ih (by omega); omega

theorem OkTo.prev_bd {ts : List As} {k : Nat} (h : OkTo ts k) : 0 ≤ prevL ts k ∧ prevL ts k ≤ k := by
  cases k with
  | zero => rw [prevL_zero]; omega
  | succ k => rw [prevL_succ]; have := h.lev_bd k (by omega); omega

/-- What reading tells. -/
def ReadP (w w' : World) (ts : List As) (e : Ending) : Prop := (mayT ts = false ∧ e = .returned (.tuple #[.pointer none, .bool false]) ∧ Below w.heap.size w w') ∨
      ∃ pb x, mayT ts = true ∧ e = .returned (.tuple #[.pointer (some ⟨pb, 0, none⟩), .bool true]) ∧ RdP w w' pb ts ts.length x

set_option maxHeartbeats 4000000 in
set_option maxRecDepth 100000 in
theorem read_any (w : World) (a : Option Addr) (cap : Nat) (ts : List As) (h : Trl w a ts) (h20 : ts.length ≤ 20) :
    Calls Try.prog 26 #[.slice a ts.length cap] w fun e w' => ReadP w w' ts e := by
  have CN := hide (newPath_any w a cap ts h h20)
  go_enter Try.func26, Try.ntmps26
  go_wp2_with (go_at_call 45; refine (unhide CN).mono ?_; rintro e w1 ⟨pb, x, rfl, hxa, HN⟩)
  clear CN
  go_loopw [5, 15] (fun lv i wr => ∃ (k : Nat) (x : PP), k ≤ ts.length ∧ i = .int .i64 k ∧ lv = .int .i64 (prevL ts k) ∧ x.a = a ∧ RdP w wr pb ts k x) (fun _ i _ => ts.length - (intOf i).toNat)
  case atStart => exact ⟨0, x, Nat.zero_le _, rfl, rfl, hxa, ⟨HN.pth, HN.bel, HN.hpb, HN.hqb, HN.ne, HN.fz⟩⟩
  case round =>
    clear HN hxa x
    obtain ⟨k, x, hk, rfl, rfl, hxa, R⟩ := hrel
    by_cases hlt : k < ts.length
    · have hwr := R.bel
      obtain ⟨b, off, ea, hA0⟩ := h k hlt
      have hA : AsAt wr b (off + k * 3) (nth ts k) := by
        have hbw := hA0.lt
        obtain ⟨ra, rc, h2, h3⟩ := hA0.c2
        exact ⟨Nat.lt_of_lt_of_le hbw hwr.size, (hwr.cell (p := ⟨b, off + k * 3, none⟩) hbw).trans hA0.c0, (hwr.cell (p := ⟨b, off + k * 3 + 1, none⟩) hbw).trans hA0.c1, ⟨ra, rc, (hwr.cell (p := ⟨b, off + k * 3 + 2, none⟩) hbw).trans h2, h3.below hwr⟩, hA0.len, hA0.fit⟩
      have hlv : 0 ≤ prevL ts k ∧ prevL ts k ≤ 100 := by have := R.pth.ok.prev_bd; omega
      obtain ⟨ra, rc, hc2, hrow⟩ := hA.c2
      have hc0 := hA.c0
      have hc1 := hA.c1
      have hbl := hA.lt
      have CF := fun w' (hb : Below wr.heap.size wr w') => follows_any w' pb ts k x (nth ts k) ra rc (prevL ts k) (R.pth.below hb) (hrow.below hb) hA.len hA.fit.1 hlv.1 hlv.2
      have HB := hide (below_alloc wr (.cells #[.int .i64 (nth ts k).lit, .int .i64 (nth ts k).lev, .slice ra (nth ts k).rsn.length rc] 38))
      have hps := prevL_succ ts k
      by_cases hok : okB (ts.take k) (prevL ts k) (nth ts k) = true
      · rw [hok] at CF
        replace CF := hide CF
        obtain ⟨r, hr⟩ := R.pth.tab.end_ex (varI (nth ts k).lit)
        have hrl := hr.lt
        have h64 := pow6 R.pth.tab.wd6
        have hl2 := litB_true.1 (okB_parts hok).1
        have CV := fun w => variable_all (nth ts k).lit w
        rw [varW_lit hl2.2.1 hl2.2.2] at CV
        replace CV := hide CV
        have CS := hide (fun w' (hb : Below wr.heap.size wr w') => slot_at w' pb ts k x (varI (nth ts k).lit) (R.pth.below hb) r hr)
        have HS := hide (fun w' (hb : Below wr.heap.size wr w') => (R.below hb).store (by rw [hxa]; exact h) hlt hok hr)
        have HP := hide (fun w' (hb : Below wr.heap.size wr w') => R.pth.below hb)
        have hpw := R.pth.hp
        have hqw := R.pth.hq
        have hfz : Hid (∀ w', Below wr.heap.size wr w' → w'.frozen? ⟨x.qb, r, none⟩ = false) := fun w' hb => (R.below hb).fz r
        have HPS := hide hps
        have hpq := R.ne
        have hpq' : x.qb ≠ pb := fun e => R.ne e.symm
        subst ea
        clear hA hA0 h R hok hwr hrow hps hl2 hr
        generalize varI (nth ts k).lit = vv at *
        generalize prevL ts k = lv at *
        generalize (nth ts k).lit = lt at *
        generalize (nth ts k).lev = le at *
        generalize (nth ts k).rsn.length = rn at *
        have hlen : (k : Int) < ts.length := by omega
        go_upto_region 10 with (go_at_call 46; refine (unhide CF _ HB.out).mono ?_; rintro e w3 ⟨rfl, hb3⟩)
        have hbw : Below wr.heap.size wr w3 := HB.out.trans (hb3.mono (by simp))
        have P3 := HP.out w3 hbw
        have c1 := P3.c1
        have cq := P3.cs r hrl
        have fq := hfz.out w3 hbw
        have cb0 : w3.cell? ⟨wr.heap.size, 0, none⟩ = some (.int .i64 lt) := (hb3.cell (p := ⟨wr.heap.size, 0, none⟩) (by simp)).trans (box_cell wr _ _ rfl)
        have cb1 : w3.cell? ⟨wr.heap.size, 1, none⟩ = some (.int .i64 le) := (hb3.cell (p := ⟨wr.heap.size, 1, none⟩) (by simp)).trans (box_cell wr _ _ rfl)
        have CS3 := hide (fun n => unhide CS (w3.drewN n) (below_drewN hbw n))
        have HS3 := hide (fun n => HS.out (w3.drewN n) (below_drewN hbw n))
        have hne : wr.heap.size ≠ x.qb := by omega
        have hne' : x.qb ≠ wr.heap.size := by omega
        have hnp : pb ≠ wr.heap.size := by omega
        clear P3 HP hfz HB hb3 hbw CS HS CF hc0 hc1 hc2
        generalize wr.heap.size = N at *
        generalize x.s r = sr at *
        obtain ⟨M, hM⟩ : ∃ M, M = 2 ^ x.wd := ⟨_, rfl⟩
        rw [← hM] at c1 hrl h64
        clear hM
        have hrM : (r : Int) < (M : Int) := by omega
        have w1 : IntKind.i64.wrap ((k : Int) + 1) = (k : Int) + 1 := (wrap_k ⟨k, by omega⟩).1
        have w2 : IntKind.i16.wrap ((k : Int) + 1) = (k : Int) + 1 := (wrap_k ⟨k, by omega⟩).2
        go_region_held3 (fun z => z.cell? ⟨pb, 1, none⟩ = some (.slice (some ⟨x.qb, 0, none⟩) M M) ∧ z.cell? ⟨N, 0, none⟩ = some (.int .i64 lt)) (go_keep) (first | (go_at_call 48; refine (unhide CV _).mono ?_; rintro e w0 ⟨rfl, hw0⟩; subst w0) | (go_at_call 47; refine (unhide CS3 _).mono ?_; rintro e w0 ⟨rfl, n, hw0⟩; subst w0))
        rename_i hHeld
        clear hHeld
        refine forget (I := fun z => RdP w z pb ts (k + 1) ⟨x.a, x.cap, x.qb, x.wd, upd x.s r ((k : Int) + 1)⟩ ∧ z.cell? ⟨N, 1, none⟩ = some (.int .i64 le)) ⟨HS3.out (1 + n), by rw [World.cell?_setCell_other _ _ _ _ (by intro e; cases e; exact hne rfl)]; exact cb1⟩ ?_
        rintro w4 ⟨R4, cb4⟩
        have HR4 := hide R4
        clear R4 HS3 CS3 c1 cq fq cb0 cb1 w1 w2 CV
        go_wp2
        go_roundw
        case rel => exact ⟨k + 1, ⟨x.a, x.cap, x.qb, x.wd, upd x.s r ((k : Int) + 1)⟩, by omega, by go_num, by rw [HPS.out], hxa, HR4.out⟩
        case measure => simp [intOf]; omega
      · have hok' : okB (ts.take k) (prevL ts k) (nth ts k) = false := by simpa using hok
        rw [hok'] at CF
        replace CF := hide CF
        have HM := hide (mayT_no hlt hok')
        have HW := hide hwr
        subst ea
        clear hA hA0 h R hok hok' hwr hrow hps hxa
        generalize prevL ts k = lv at *
        generalize (nth ts k).lit = lt at *
        generalize (nth ts k).lev = le at *
        generalize (nth ts k).rsn.length = rn at *
        have hlen : (k : Int) < ts.length := by omega
        go_wp2_with (go_at_call 46; refine (unhide CF _ HB.out).mono ?_; rintro e w3 ⟨rfl, hb3⟩)
        go_ret2
        exact .inl ⟨HM.out, rfl, (HW.out.trans (HB.out.mono HW.out.size)).trans (hb3.mono (by have := HW.out.size; simp; omega))⟩
    · have hz : ts.length = k := by omega
      subst hz
      have HM := hide ((mayT_iff (by omega)).2 R.pth.ok)
      have HR := hide R
      clear h R
      go_wp2
      go_ret2
      exact .inr ⟨pb, x, HM.out, rfl, HR.out⟩

end Go.Proofs.Ytaepanmkofhgoaa
