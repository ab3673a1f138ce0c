/- The law of propagation, of a formula and acts that are light. -/
import Derived.Test.YtlmbgaconjcaiaaNi
import Derived.Test.YtlmbgaconjcaiaaNc
import Derived.Test.YtlmbgaconjcaiaaHe
import Derived.Deep.RegionHeld3
import Derived.Deep.RegionWith
import Derived.Deep.DeepCutAuto
set_option linter.unusedVariables false
set_option linter.unusedSimpArgs false
namespace Go.Proofs.Ytlmbgaconjcaiaa
open Go.RowKit

/-- In the midst of the law: its world, which lies in a block of its own. -/
structure LX (w wr : World) (B V b7 M : Nat) : Prop where
  ex : ∃ ρ s css gs a2 a3 a4 c2 c3 c4, LW ρ w.heap.size wr B V s css gs a2 a3 a4 c2 c3 c4 ∧ Ev free w ρ wr ∧ ρ b7 = oth ∧ wr.heap[b7]? = some (.cells #[.pointer (some ⟨B, 0, none⟩), .int .i64 V, .slice a2 css.length c2, .slice a3 gs.length c3, .slice a4 s.dec.length c4] 36 (0, 0)) ∧ css.length ≤ M
  ge : w.heap.size ≤ b7
theorem LX.below {w wr wr' : World} {B V b7 M : Nat} (h : LX w wr B V b7 M) (hb : Below wr.heap.size wr wr') : LX w wr' B V b7 M := by
  obtain ⟨ρ, s, css, gs, a2, a3, a4, c2, c3, c4, h1, h2, h3, h4, h5⟩ := h.ex
  exact ⟨⟨ρ, s, css, gs, a2, a3, a4, c2, c3, c4, h1.below hb, h2.trans (Ev.below hb), h3, (hb.block _ (lt_of_block h4)).trans h4, h5⟩, h.ge⟩
theorem LX.bel {w wr : World} {B V b7 M : Nat} (h : LX w wr B V b7 M) : Below w.heap.size w wr := by
  obtain ⟨ρ, s, css, gs, a2, a3, a4, c2, c3, c4, _, h2, _⟩ := h.ex
  exact h2.bel
theorem LX.le {w wr : World} {B V b7 M M' : Nat} (h : LX w wr B V b7 M) (hM : M ≤ M') : LX w wr B V b7 M' := by
  obtain ⟨ρ, s, css, gs, a2, a3, a4, c2, c3, c4, h1, h2, h3, h4, h5⟩ := h.ex
  exact ⟨⟨ρ, s, css, gs, a2, a3, a4, c2, c3, c4, h1, h2, h3, h4, Nat.le_trans h5 hM⟩, h.ge⟩

/-- The law's world at its beginning. -/
theorem begin_lw {w w2 w3 : World} {B V g cap : Nat} {a : Option Addr} {css : List (List Int)} (hg : GridC w a css) (hcap : a = none → cap = 0) (hb : Below w.heap.size w w2) (hl : css.length ≤ 900) (hV : V ≤ 1048576) (hLt : ∀ c ∈ css, c.length ≤ 4096 ∧ ∀ x ∈ c, Lt V x) (hP : BeginP w2 V css B g w3) :
    ∃ ρ, LW ρ w.heap.size w3 B V (css.foldl PS.attach (PS.zero V)) css (List.replicate css.length false) a (some ⟨g, 0, none⟩) none cap css.length 0 ∧ Ev free w ρ w3 ∧ (css.foldl PS.attach (PS.zero V)).dec = [] := by
  obtain ⟨ρ, H, hR, hE, hge, hrg, hblk⟩ := hP
  obtain ⟨e1, e2, e3, e4, e5, e6, e7⟩ := news V hV css (fun c hc => (hLt c hc).2) hl
  have hEv : Ev free w ρ w3 := (Ev.below hb).trans hE
  have hd : (css.foldl PS.attach (PS.zero V)).dec = [] := by simp [PS.dec, e5]
  have hbr := BR.new hblk hrg (by unfold maxLen; omega)
  refine ⟨ρ, ⟨⟨H, hR⟩, e1, Cnt.new e3 e6 e7, e2, Kys.new e3, fun c hc => ?_, hg.gv hEv, hcap, by rw [List.length_replicate]; exact hbr, by rw [hd]; exact DR.nil _ _⟩, hEv, hd⟩
  have hk : key c ∈ (css.foldl PS.attach (PS.zero V)).cls.map key := List.mem_map_of_mem hc
  rw [e3] at hk
  obtain ⟨d, hd', e⟩ := List.mem_map.1 hk
  have e9 : d = c.lits := congrArg Prod.fst e
  have := (hLt d hd').1
  rw [e9] at this; omega

set_option maxHeartbeats 40000000 in
set_option maxRecDepth 100000 in
theorem runs_main (a al : Option Addr) (cap cal : Nat) (V : Nat) (css : List (List Int)) (L : List ActD) (w : World) (hg : GridC w a css) (hcap : a = none → cap = 0) (hlb : lightB css = true) (h60 : ¬ 60 < css.length) (hV : V ≤ 60) (hc : cnfB V css = true) (hA : Acts w al L) (hll : L.length ≤ maxLen) (hla : lightA L = true) :
    Calls Try.prog 3 #[.agg #[.int .i64 V, .slice a css.length cap], .slice al L.length cal] w fun e w' => e = .returned (.bool true) ∧ Below w.heap.size w w' := by
  have hlm : css.length ≤ maxLen := by unfold maxLen; omega
  have hb0 := below_alloc w (.cells #[.int .i64 V, .slice a css.length cap] 24)
  have L1 := light_any a cap V css _ (hg.grid.below hb0) hlm
  rw [hlb] at L1
  replace L1 := hide L1
  have LA : Hid (∀ x, Below w.heap.size w x → Calls Try.prog 7 #[.slice al L.length cal] x fun e w' => e = .returned (.bool true) ∧ w' = x) := fun x hx => by have := lightA_any al cal L x (hA.below hx) hll; rw [hla] at this; exact this
  have HC : Hid (∀ x, Below w.heap.size w x → Calls Try.prog 9 #[.agg #[.int .i64 V, .slice a css.length cap]] x fun e w' => e = .returned (.bool true) ∧ Below x.heap.size x w') := fun x hx => by have := refCnf_any a cap V css x (hg.grid.below hx) hlm; rw [hc] at this; exact this
  have HBG : Hid (∀ x, Below w.heap.size w x → Calls Try.prog 11 #[.agg #[.int .i64 V, .slice a css.length cap]] x fun e w' => ∃ B g, e = .returned (.tuple #[.agg #[.pointer (some ⟨B, 0, none⟩), .int .i64 V, .slice a css.length cap, .slice (some ⟨g, 0, none⟩) css.length css.length, .slice none 0 0], .bool true]) ∧ BeginP x V css B g w') := fun x hx => begin_any a cap V css x (hg.below hx) (by omega) hc (by omega)
  have HAW := fun x => hide (awake_any x)
  have HLX : Hid (∀ w2 w3 B g, Below w.heap.size w w2 → BeginP w2 V css B g w3 → LX w (w3.alloc (.cells #[.pointer (some ⟨B, 0, none⟩), .int .i64 V, .slice a css.length cap, .slice (some ⟨g, 0, none⟩) css.length css.length, .slice none 0 0] 36)) B V w3.heap.size 60) := by
    intro w2 w3 B g hb hP
    obtain ⟨ρ, hL, hE, hd⟩ := begin_lw hg hcap hb (by omega) (by omega) (cnf_lt hc) hP
    have hba := below_alloc w3 (.cells #[.pointer (some ⟨B, 0, none⟩), .int .i64 V, .slice a css.length cap, .slice (some ⟨g, 0, none⟩) css.length css.length, .slice none 0 0] 36)
    refine ⟨⟨fr ρ w3.heap.size, _, css, _, a, _, none, cap, css.length, 0, hL.fr hba, hE.trans (Ev.fr hba), fr_new (Nat.le_refl _), ?_, by omega⟩, hE.size⟩
    rw [hd, List.length_replicate]
    exact heap_alloc_new w3 _
  have HB0 := hide hb0
  have HK := hide (heap_alloc_new w (.cells #[.int .i64 V, .slice a css.length cap] 24))
  have HACT := hide hA
  have h60' : ¬ (60 : Int) < css.length := by omega
  have hV' : ¬ (60 : Int) < V := by omega
  have hd1 : decide ((60 : Int) < css.length) = false := decide_eq_false h60'
  have hd2 : decide ((60 : Int) < V) = false := decide_eq_false hV'
  unfold maxLen at hll
  clear hg hb0 hlb hc hlm h60 hA hla hcap
  go_enter Try.func3, Try.ntmps3
  go_wp2_with (first | (go_at_call 6; refine (unhide L1).mono ?_; rintro e w1 ⟨rfl, hb1⟩; have k1 := (hb1.cell (p := ⟨w.heap.size, 1, none⟩) (by simp)).trans (cell_of_block HK.out (i := 1) rfl); have k0 := (hb1.cell (p := ⟨w.heap.size, 0, none⟩) (by simp)).trans (cell_of_block HK.out (i := 0) rfl); have hb1w := HB0.out.trans (hb1.mono HB0.out.size); have hlt1 : w.heap.size < w1.heap.size := Nat.lt_of_lt_of_le (by simp) hb1.size) | (go_at_call 7; refine (LA.out _ hb1w).mono ?_; rintro e w0 ⟨rfl, hw0⟩; subst w0) | (go_at_call 9; refine (HC.out _ hb1w).mono ?_; rintro e w2 ⟨rfl, hb2⟩; have j1 := (hb2.cell (p := ⟨w.heap.size, 1, none⟩) hlt1).trans k1; have j0 := (hb2.cell (p := ⟨w.heap.size, 0, none⟩) hlt1).trans k0; have hb2w := hb1w.trans (hb2.mono hb1w.size); have hlt2 : w.heap.size < w2.heap.size := Nat.lt_of_lt_of_le hlt1 hb2.size))
  refine Calls.mono (HBG.out w2 hb2w) ?_
  rintro e w3 ⟨B, g, rfl, hP⟩
  have HLX1 := hide (HLX.out w2 w3 B g hb2w hP)
  clear hP hb2w hb1w hb1 hb2 k0 k1 j0 j1 HC HBG L1 LA HLX hlt1 hlt2 HK HB0
  simp only
  go_wp2_with fail
  generalize hb7 : w3.heap.size = b7 at *
  clear hb7
  generalize w3.alloc (.cells #[.pointer (some ⟨B, 0, none⟩), .int .i64 V, .slice a css.length cap, .slice (some ⟨g, 0, none⟩) css.length css.length, .slice none 0 0] 36) = w4 at *
  go_loopw [8, 9] (fun j8 j9 wr => ∃ k : Nat, j9 = .int .i64 k ∧ j8 = .bool true ∧ k ≤ 40 ∧ k ≤ L.length ∧ Hid (LX w wr B V b7 (60 + k))) (fun _ j9 _ => 40 - (intOf j9).toNat)
  case atStart => exact ⟨0, rfl, rfl, by omega, by omega, HLX1⟩
  case round =>
    clear HLX1
    obtain ⟨k, rfl, rfl, hk4, hkL, HL⟩ := hrel
    by_cases hlt : k < L.length ∧ k < 40
    · obtain ⟨hl1, hl2⟩ := hlt
      have hl1' : (k : Int) < L.length := by omega
      have hl2' : (k : Int) < 40 := by omega
      have d1 : decide (k < L.length) = true := decide_eq_true hl1
      have d2 : decide (k < 40) = true := decide_eq_true hl2
      obtain ⟨bd, od, ai, ci, rfl, hbd, hAt⟩ := HACT.out k hl1
      obtain ⟨ρ, s, css1, gs, a2, a3, a4, c2, c3, c4, hLW, hE, hr7, hblk, hcM⟩ := HL.out.ex
      have hbr : bd < wr.heap.size := Nat.lt_of_lt_of_le hbd hE.size
      have q0 := (HL.out.bel.cell (p := ⟨bd, _, none⟩) hbd).trans hAt.c0
      have q1 := (HL.out.bel.cell (p := ⟨bd, _, none⟩) hbd).trans hAt.c1
      have q2 := (HL.out.bel.cell (p := ⟨bd, _, none⟩) hbd).trans hAt.c2
      have AC : Hid (∀ x, Below wr.heap.size wr x → Calls Try.prog 12 #[.agg #[.pointer (some ⟨B, 0, none⟩), .int .i64 V, .slice a2 css1.length c2, .slice a3 gs.length c3, .slice a4 s.dec.length c4], .agg #[.int .i64 L[k].d, .int .i64 L[k].l, .slice ai L[k].c.length ci]] x fun e w' => ActR ρ w.heap.size x B V (css1.length + 1) e w') := fun x hx => act_any (hLW.below hx) (Nat.le_trans hE.size hx.size) (by omega) (by omega) ai L[k].c ci L[k].d L[k].l ((hAt.row.rowO hE).ev (Ev.below hx)) hAt.len hAt.nil
      have p0 := cell_of_block hblk (i := 0) rfl
      have p1 := cell_of_block hblk (i := 1) rfl
      have p2 := cell_of_block hblk (i := 2) rfl
      have p3 := cell_of_block hblk (i := 3) rfl
      have p4 := cell_of_block hblk (i := 4) rfl
      have HFIN : Hid (∀ x e w6, Below wr.heap.size wr x → ActR ρ w.heap.size x B V (css1.length + 1) e w6 → ∃ e2 m2 d2 e3 m3 d3 e4 m4 d4, e = .returned (.tuple #[.agg #[.pointer (some ⟨B, 0, none⟩), .int .i64 V, .slice e2 m2 d2, .slice e3 m3 d3, .slice e4 m4 d4], .bool true]) ∧ w6.heap[b7]? = some (.cells #[.pointer (some ⟨B, 0, none⟩), .int .i64 V, .slice a2 css1.length c2, .slice a3 gs.length c3, .slice a4 s.dec.length c4] 36 (0, 0)) ∧ b7 < w6.heap.size ∧ ∀ W, U5 w6 W b7 [.pointer (some ⟨B, 0, none⟩), .int .i64 V, .slice e2 m2 d2, .slice e3 m3 d3, .slice e4 m4 d4] → LX w W B V b7 (60 + (k + 1))) := by
        rintro x e w6 hx ⟨ρ', s', css', gs', a2', a3', a4', c2', c3', c4', rfl, hL', hE', hM'⟩
        have hx7 := (hx.block b7 (lt_of_block hblk)).trans hblk
        have hk7 := (hE'.keep b7 (lt_of_block hx7) hr7).trans hx7
        refine ⟨_, _, _, _, _, _, _, _, _, rfl, hk7, lt_of_block hk7, fun W hU => ?_⟩
        have hO := hU.offs hk7
        have hge := HL.out.ge
        have hE2 : Ev free w ρ' w6 := (hE.trans (Ev.below hx)).trans hE'
        exact ⟨⟨ρ', s', css', gs', a2', a3', a4', c2', c3', c4', hO.lw hge hL', hO.ev hE2 hge, (hE'.agree b7 (lt_of_block hx7)).trans hr7, hU.block, by omega⟩, hge⟩
      have hb7 := lt_of_block hblk
      have HHL := hide hE.size
      clear hLW hE hr7 hblk hcM hAt HL
      generalize L[k] = act at *
      obtain ⟨ad, alt, acl⟩ := act
      simp only at q0 q1 q2 AC
      go_wp2_with fail
      first | (go_region_with (go_at_call 12; refine (AC.out _ (by first | exact Below.refl _ _ | exact (Below.refl _ _).drew)).mono ?_; intro e w6 hR6; obtain ⟨e2, m2, d2', e3, m3, d3, e4, m4, d4, rfl, hk6, hl6, hLM⟩ := HFIN.out _ _ _ (by first | exact Below.refl _ _ | exact (Below.refl _ _).drew) hR6; have u0 := cell_of_block hk6 (i := 0) rfl; have u1 := cell_of_block hk6 (i := 1) rfl; have u2 := cell_of_block hk6 (i := 2) rfl; have u3 := cell_of_block hk6 (i := 3) rfl; have u4 := cell_of_block hk6 (i := 4) rfl; have f0 := frz_of_block hk6 (i := 0); have f1 := frz_of_block hk6 (i := 1); have f2 := frz_of_block hk6 (i := 2); have f3 := frz_of_block hk6 (i := 3); have f4 := frz_of_block hk6 (i := 4))) | fail
      all_goals
        refine forget (P := fun W => Exit.then _ _ Exit.normal _ W) (fun W => Hid (LX w W B V b7 (60 + (k + 1)))) (hLM _ ((((((U5.first rfl hk6).set 0 (.pointer (some ⟨B, 0, none⟩))).set 1 (.int .i64 V)).set 2 (.slice e2 m2 d2')).set 3 (.slice e3 m3 d3)).set 4 (.slice e4 m4 d4))) ?_
        clear hLM u0 u1 u2 u3 u4 f0 f1 f2 f3 f4 hk6 hl6 p0 p1 p2 p3 p4 q0 q1 q2 hR6 HFIN AC hb7
        intro W7 HL7
        obtain ⟨ρ7, s7, css7, gs7, i2, i3, i4, o2, o3, o4, hLW7, hE7, hr7, hblk7, hcM7⟩ := HL7.out.ex
        obtain ⟨H7, hR7⟩ := hLW7.rep
        have SO := hide (lawSound_any hR7 hLW7.inv (fun c hc => by have := hLW7.lits c hc; omega) V i2 i3 i4 css7.length o2 gs7.length o3 o4 hLW7.d)
        have p0 := cell_of_block hblk7 (i := 0) rfl
        have p1 := cell_of_block hblk7 (i := 1) rfl
        have p2 := cell_of_block hblk7 (i := 2) rfl
        have p3 := cell_of_block hblk7 (i := 3) rfl
        have p4 := cell_of_block hblk7 (i := 4) rfl
        clear hLW7 hE7 hr7 hblk7 hcM7 hR7
        go_wp2_with (go_at_call 13; refine (unhide SO).mono ?_; rintro e w8 ⟨rfl, hb8⟩)
        go_roundw
        case rel => exact ⟨k + 1, by go_num, rfl, by omega, by omega, HL7.out.below hb8⟩
        case measure => simp [intOf]; omega
    · have HB := hide HL.out.bel
      clear HL
      by_cases h1 : k < L.length
      · have h1' : (k : Int) < L.length := by omega
        have h2' : ¬ (k : Int) < 40 := by omega
        have d1 : decide (k < L.length) = true := decide_eq_true h1
        have d2 : decide (k < 40) = false := decide_eq_false (by omega)
        clear hlt
        go_wp2_with (go_at_call 8; refine (unhide (HAW _)).mono ?_; rintro e w9 ⟨rfl, hb9⟩)
        go_ret
        exact ⟨rfl, HB.out.trans (hb9.mono HB.out.size)⟩
      · have h1' : ¬ (k : Int) < L.length := by omega
        have d1 : decide (k < L.length) = false := decide_eq_false h1
        clear hlt
        go_wp2_with (go_at_call 8; refine (unhide (HAW _)).mono ?_; rintro e w9 ⟨rfl, hb9⟩)
        go_ret
        exact ⟨rfl, HB.out.trans (hb9.mono HB.out.size)⟩
end Go.Proofs.Ytlmbgaconjcaiaa
