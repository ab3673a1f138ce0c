/- Contracts: a clause is taken in. -/
import Derived.Test.YtlmbgaconjcaiabGe
set_option linter.unusedVariables false
set_option linter.unusedSimpArgs false
namespace Go.Proofs.Ytlmbgaconjcaiab
open Go.RowKit

theorem Try.info80 : (Try.prog.info? 80).map (fun i => (i.zero, i.size, i.bytes)) = some (some (.pointer none), 1, 8) := by kernel_rfl

/-- The numbers of a state are small. -/
structure Small (s : PS) : Prop where
  cls : s.cls.length ≤ 1048576
  wat : ∀ q ∈ s.wat, q.length ≤ 1048576
  late : s.late.length ≤ 1048576
  lvl : ∀ v ∈ s.lvs, v.late.length ≤ 1048576
  lvs : s.lvs.length ≤ 1048576
  trail : s.trail.length ≤ 1048576
  count : 0 ≤ s.count ∧ s.count ≤ 1048576
  stale : 0 ≤ s.stale ∧ s.stale ≤ 1048576
  lits : ∀ c ∈ s.cls, c.lits.length ≤ 10000

/-- Behind an append onto one row another one is as it was. -/
theorem Hold.after {ρ : Nat → Rl} {w x0 w' : World} {E : Ents} {r q : Rl} {x y : Ent} {g : Nat} (h : Hold ρ w E) (hr : E r = some x) (hq : E q = some y) (hne : q ≠ r) (hb : Below w.heap.size w x0) (hg : x0.grownBy w' x.v.ownBlock) (hy : y.v.ownBlock = some g) :
    (∀ i u, y.xs[i]? = some u → w'.cell? ⟨g, i, none⟩ = some u) ∧ (∀ i, w'.frozen? ⟨g, i, none⟩ = false) ∧ w'.ownsRow 0 y.e y.sz y.v y.n y.xs := by
  have hlt := h.lt hq hy
  have e : w'.heap[g]? = w.heap[g]? := (hg.block g (Nat.lt_of_lt_of_le hlt hb.size) (fun e => h.ne hq hy hr e.symm hne rfl)).trans (hb.block g hlt)
  exact ⟨fun i u hi => (World.cell?_of_block (a := ⟨g, i, none⟩) e).trans (h.cell hq hy hi), fun i => (World.frozen?_of_block (a := ⟨g, i, none⟩) e).trans (h.fz hq hy i),
    own_same (h.own q y hq) (fun k hk => by rw [hy] at hk; cases hk; exact e)⟩

section
variable {ρ : Nat → Rl} {w : World} {B : Nat} {H : Hd} {s : PS}

theorem Rep.lateAfter (h : Rep ρ w B H s) {n : Nat} {c : Cl} (hc : s.cls[n]? = some c) {o : Obj} {g3 cap3 : Nat} {w5 : World} (hown : w5.ownsRow 0 80 1 (.slice (some ⟨g3, 0, none⟩) (s.late.length + 1) cap3) (s.late.length + 1) (ptrsC H.cb s.late ++ [.pointer (some ⟨H.cb n, 0, none⟩)]))
    (hg : (w.alloc o).grownBy w5 H.av.ownBlock) (hat : H.av.ownBlock = some g3 ∨ g3 = w.heap.size + 1) :
    (w5.cell? ⟨B, 11, none⟩ = some H.av ∧ w5.frozen? ⟨B, 11, none⟩ = false ∧ w5.cell? ⟨H.cb n, 0, none⟩ = some (.int .i64 n)) ∧
    ∃ ρ', Rep ρ' (w5.setCell ⟨B, 11, none⟩ (.slice (some ⟨g3, 0, none⟩) (s.late.length + 1) cap3)) B { H with av := .slice (some ⟨g3, 0, none⟩) (s.late.length + 1) cap3 } { s with late := s.late ++ [n] } ∧ Ev ρ w ρ' (w5.setCell ⟨B, 11, none⟩ (.slice (some ⟨g3, 0, none⟩) (s.late.length + 1) cap3)) := by
  have hr : ents B H s (2, n) = some ⟨84, 5, obj1 (H.cb n), 1, objC n (H.cl n) c⟩ := by simp [ents, hc]
  obtain ⟨a1, a2, _⟩ := h.hold.after (r := (11, 0)) (q := (0, 0)) rfl rfl (by decide) (below_alloc w o) hg (g := B) rfl
  obtain ⟨b1, _, _⟩ := h.hold.after (r := (11, 0)) (q := (2, n)) rfl hr (by simp) (below_alloc w o) hg (g := H.cb n) rfl
  have hfin := (h.alloc o).avTurn (v := .slice (some ⟨g3, 0, none⟩) (s.late.length + 1) cap3) (tr := s.late ++ [n]) (gg := g3) hg (by simpa [ptrsC, ptrC] using hown) (fun g hg => by simp [Value.ownBlock] at hg; exact hg.symm) (by rcases hat with h | h; exact .inl h; exact .inr (by simp; omega))
  exact ⟨⟨a1 11 _ rfl, a2 11, b1 0 _ rfl⟩, _, hfin.1, (Ev.alloc o).trans hfin.2⟩

theorem watch_len {t : PS} {l h l' : Int} {i : Nat} {q : List (Nat × Int)} (hM : ∀ q ∈ t.wat, q.length ≤ 1999999) (hq : (t.watch l i h).wat[ix t.vars l']? = some q) : q.length ≤ 2000000 := by
  unfold PS.watch at hq
  rw [List.getElem?_modify] at hq
  obtain ⟨u, hu, e⟩ := Option.map_eq_some_iff.1 hq
  have := hM u (List.mem_of_getElem? hu)
  subst e
  split
  · simp; omega
  · omega

theorem later_first (s : PS) {p : Int × Int} {l : Int} (hl : l ≠ 0) (h : p.2 ≠ 0 → p.1 ≠ 0) : (s.later p l).2 ≠ 0 → (s.later p l).1 ≠ 0 := by
  unfold PS.later; split
  · exact h
  · split
    · exact fun _ => hl
    · rename_i h2
      split
      · exact fun _ e => h2 (.inl e)
      · exact h
theorem latest_first (s : PS) : ∀ (ls : List Int) (p : Int × Int), (∀ x ∈ ls, x ≠ 0) → (p.2 ≠ 0 → p.1 ≠ 0) → ((ls.foldl s.later p).2 ≠ 0 → (ls.foldl s.later p).1 ≠ 0)
  | [], p, _, h => h
  | l :: r, p, hl, h => latest_first s r (s.later p l) (fun x hx => hl x (List.mem_cons_of_mem _ hx)) (later_first s (hl l (by simp)) h)

def AttachP (ρ : Nat → Rl) (w : World) (B : Nat) (s : PS) (lits : List Int) (w' : World) : Prop :=
  ∃ ρ' H', Rep ρ' w' B H' (s.attach lits) ∧ Ev ρ w ρ' w'

theorem attach_end {ρ' : Nat → Rl} {w' : World} {H' : Hd} {lits : List Int} {t : PS} (e : s.attach lits = t) (h : Rep ρ' w' B H' t) (hE : Ev ρ w ρ' w') : AttachP ρ w B s lits w' := ⟨ρ', H', by rw [e]; exact h, hE⟩

set_option maxHeartbeats 4000000 in
set_option maxRecDepth 100000 in
theorem attach_any (h : Rep ρ w B H s) (hS : Shp s) (hV : Vld s) (hM : Small s) (a : Option Addr) (cap : Nat) (lits : List Int) (hr : Row w a lits) (hl : ∀ x ∈ lits, Lt s.vars x) (hlen : lits.length ≤ 10000) (hcap : a = none → cap = 0) :
    Calls Try.prog 31 #[.pointer (some ⟨B, 0, none⟩), .slice a lits.length cap] w fun e w' => e = .returned (.int .i64 s.cls.length) ∧ AttachP ρ w B s lits w' := by
  have c2 := h.c2
  obtain ⟨ac, cc, ecv⟩ := h.cvForm
  rw [ecv] at c2
  have hBlt := h.lt
  have hn := hM.cls
  have CL : Hid (∀ m, Calls Try.prog 47 #[.slice a lits.length cap] (w.drewN m) fun e w1 => ∃ a1 cap1, e = .returned (.slice a1 lits.length cap1) ∧ Own w.heap.size w1 (.slice a1 lits.length cap1) lits ∧ Below w.heap.size w w1 ∧ w1.cell? ⟨B, 2, none⟩ = some (.slice ac s.cls.length cc)) := by
    intro m
    refine (clone_any a cap lits (w.drewN m) hr (by omega) hcap).mono ?_
    rintro e w1 ⟨v, rfl, ho, hb⟩
    obtain ⟨a1, cap1, rfl, _⟩ := own_form ho
    have hb' : Below w.heap.size w w1 := ⟨hb.os, hb.tape, hb.output, hb.size, hb.block⟩
    exact ⟨a1, cap1, rfl, ho, hb', (hb'.cell (p := ⟨B, 2, none⟩) hBlt).trans c2⟩
  have HH := hide h
  have HR := hide hr
  clear h hr ecv hcap
  generalize hnn : s.cls.length = n at *
  go_enter Try.func31, Try.ntmps31
  go_wp2_with fail
  go_region_held3 (fun w' => w'.cell? ⟨B, 2, none⟩ = some (.slice ac n cc)) (go_keep) (first | (go_at_call 47; refine (unhide CL 1).mono ?_; rintro e w1 ⟨a1, cap1, rfl, ho1, hb1, hc21⟩))
  obtain ⟨ρ1, hh1, hev1⟩ := HH.out.newCl n hb1 ho1
  refine forget (P := fun W => Exit.then _ _ Exit.normal _ W) (fun W => Hold ρ1 W (newE (ents B H s) n w1.heap.size (.slice a1 lits.length cap1) lits) ∧ Ev ρ w ρ1 W) ⟨hh1, hev1⟩ ?_
  rintro w2 ⟨hh2, hev2⟩
  clear hh1 hev1 hb1 ho1 hc21 CL c2
  generalize w1.heap.size = b at *
  have hr0 : newE (ents B H s) n b (.slice a1 lits.length cap1) lits (0, 0) = some ⟨67, 12, obj1 B, 1, headC B H s⟩ := by unfold newE; rw [up_other _ _ (by simp), up_other _ _ (by simp)]; rfl
  have hr1 : newE (ents B H s) n b (.slice a1 lits.length cap1) lits (1, 0) = some ⟨80, 1, H.cv, n, clsC H.cb s.cls⟩ := by unfold newE; rw [up_other _ _ (by simp), up_other _ _ (by simp)]; simp [ents, hnn]
  have hr2 : newE (ents B H s) n b (.slice a1 lits.length cap1) lits (2, n) = some ⟨84, 5, obj1 b, 1, objC n (.slice a1 lits.length cap1) ⟨lits, 0, 0, false⟩⟩ := up_same _ _ _
  have c2 : w2.cell? ⟨B, 2, none⟩ = some H.cv := hh2.cell hr0 rfl rfl
  have hown2 := hh2.own _ _ hr1
  have AF := hide (fun x0 w' (hb : Below w2.heap.size w2 x0) (hg : x0.grownBy w' H.cv.ownBlock) => (⟨hh2.after hr1 hr0 (by simp) hb hg (g := B) rfl, hh2.after hr1 hr2 (by simp) hb hg (g := b) rfl⟩ : _ ∧ _))
  obtain ⟨i0, hi0, hz0, hz1, hz2⟩ := info_parts Try.info80
  have HHH := hide hh2
  have HEV2 := hide hev2
  have hcnt := hM.count
  have hBlt2 := hh2.lt hr0 (g := B) rfl
  have hblt2 := hh2.lt hr2 (g := b) rfl
  clear hh2 hev2 hr0 hr1 hr2
  generalize hcv : H.cv = cv at *
  go_wp2_with (at_builtin; refine wpList_append_lies _ rfl _ _ 64 rfl 0 80 i0 (.pointer none) 1 8 Try.underlying64 hi0 hz0 hz1 hz2 rfl (by decide) cv n _ rfl (hown2.alloc _) ⟨w2.heap.size, 0, none⟩ 1 1 [.pointer (some ⟨b, 0, none⟩)] rfl rfl (World.news_of_block (cs := #[.pointer (some ⟨b, 0, none⟩)]) (heap_alloc_new w2 _)) (by simp [Value.oneCell']) (by decide) (by unfold maxLen; omega) (by omega) (Nat.zero_le _) (w2.heap.size + 1) (by simp) ?_; intro g3 cap3 w3 hown3 hgrow3 hat3 hlt3; obtain ⟨⟨x1, x2, _⟩, ⟨y1, _, _⟩⟩ := AF.out _ _ (below_alloc w2 _) hgrow3; have p2 := x1 2 _ rfl; have p3 := x1 3 _ rfl; have f2 := x2 2; have f3 := x2 3; have q1 := y1 1 _ rfl; clear x1 x2 y1)
  have hB1 : ρ1 B ≠ oth := by rw [HEV2.out.agree B hBlt]; exact HH.out.roleB
  have hfin := HH.out.clApp hV (w3 := w3) (b := b) (gg := g3) (v := .slice a1 lits.length cap1) (u := .slice (some ⟨g3, 0, none⟩) (n + 1) cap3) (lits := lits) (by rw [hnn]; exact HHH.out.alloc (.cells #[.pointer (some ⟨b, 0, none⟩)] 80)) hB1 (by rw [hcv]; exact hgrow3) (by rw [hnn]; exact hown3) (fun g hg => by simp [Value.ownBlock] at hg; exact hg.symm) (by rw [hcv]; rcases hat3 with h | h; exact .inl h; exact .inr (by simp; omega))
  rw [hnn] at hfin
  have hrep := hfin.1.setCount (s.count + 1)
  have hev3 := ((HEV2.out.trans (Ev.alloc _)).trans hfin.2).trans (Ev.set hfin.1.roleB 3 (.int .i64 (s.count + 1)))
  refine forget (P := fun W => Calls Try.prog 48 _ W _) (fun W => Rep (rs ρ1 g3 (1, 0)) W B { H with cv := .slice (some ⟨g3, 0, none⟩) (n + 1) cap3, cb := addCb H.cb n b, cl := addV H.cl n (.slice a1 lits.length cap1) } (s.added lits) ∧ Ev ρ w (rs ρ1 g3 (1, 0)) W) ⟨hrep, hev3⟩ ?_
  rintro W ⟨hR, hE⟩
  clear hrep hev3 hfin hown3 hgrow3 hat3 hlt3 p2 p3 f2 f3 q1 hown2 c2 AF HHH HEV2
  generalize rs ρ1 g3 (1, 0) = ρ3 at *
  have hcn : (s.added lits).cls[n]? = some ⟨lits, 0, 0, false⟩ := by unfold PS.added; subst hnn; simp
  have hS3 : Shp (s.added lits) := ⟨hS.vars, hS.vals, hS.wat, hS.fac, hS.bit, hS.num⟩
  have hbn : addCb H.cb n b n = b := if_pos rfl
  have hln : addV H.cl n (.slice a1 lits.length cap1) n = .slice a1 lits.length cap1 := if_pos rfl
  generalize hH1 : ({ H with cv := .slice (some ⟨g3, 0, none⟩) (n + 1) cap3, cb := addCb H.cb n b, cl := addV H.cl n (.slice a1 lits.length cap1) } : Hd) = H1 at *
  have hcb1 : H1.cb n = b := by rw [← hH1]; exact hbn
  have hcl1 : H1.cl n = .slice a1 lits.length cap1 := by rw [← hH1]; exact hln
  clear hH1 hbn hln
  obtain ⟨ar, capr, er, hrow, _, _⟩ := hR.lits hcn
  rw [hcl1] at er
  simp at er
  obtain ⟨rfl, rfl⟩ := er
  refine (latest_any hR a1 cap1 lits hrow hl (by omega) hS3).mono ?_
  rintro e W1 ⟨rfl, m1, rfl⟩
  have eL : (s.added lits).latest lits = s.latest lits := rfl
  rw [eL]
  have o2 : ((s.latest lits).1 = 0 ∨ Lt s.vars (s.latest lits).1) ∧ ((s.latest lits).2 = 0 ∨ Lt s.vars (s.latest lits).2) := latest_ok s (V := s.vars) lits (0, 0) hl (.inl rfl) (.inl rfl)
  have o1 : (s.latest lits).2 ≠ 0 → (s.latest lits).1 ≠ 0 := latest_first s lits (0, 0) (fun x hx => (hl x hx).1) (fun h => h)
  have hAT : s.attach lits = (if (s.latest lits).2 = 0 ∨ s.val (s.latest lits).2 < 0 then { s.hooked lits (s.latest lits).1 (s.latest lits).2 with late := (s.hooked lits (s.latest lits).1 (s.latest lits).2).late ++ [s.cls.length] } else s.hooked lits (s.latest lits).1 (s.latest lits).2) := rfl
  generalize s.latest lits = p at *
  obtain ⟨f, g⟩ := p
  simp only at o1 o2 hAT ⊢
  have hlate := hM.late
  by_cases hg0 : g = 0
  · have hg0' : (g != 0) = false := by simp [hg0]
    have hg0'' : (g == 0) = true := by simp [hg0]
    have e1 : s.attach lits = { s.added lits with late := s.late ++ [n] } := by
      rw [hAT, if_pos (.inl hg0), hnn]; unfold PS.hooked; rw [if_pos hg0]; rfl
    replace hR := hR.drewN m1
    replace hE := hE.trans (Ev.drewN ρ3 W m1)
    have c11 := hR.c11
    have hown : (W.drewN m1).ownsRow 0 80 1 H1.av s.late.length (ptrsC H1.cb s.late) := hR.hold.own (11, 0) _ rfl
    have hBlt' := hR.lt
    obtain ⟨ob0, _, _, _, _, _, hobl, _⟩ := hR.obj hcn
    rw [hcb1] at ob0 hobl
    have LA := hide (fun g4 cap4 w5 => hR.lateAfter hcn (o := .cells #[.pointer (some ⟨b, 0, none⟩)] 80) (g3 := g4) (cap3 := cap4) (w5 := w5))
    rw [hcb1] at LA
    have HE1 := hide e1
    have HEE := hide hE
    clear hR hE e1 hAT hcn
    generalize W.drewN m1 = W1 at *
    go_wp2_with (at_builtin; refine wpList_append_lies _ rfl _ _ 64 rfl 0 80 i0 (.pointer none) 1 8 Try.underlying64 hi0 hz0 hz1 hz2 rfl (by decide) H1.av s.late.length _ rfl (hown.alloc _) ⟨W1.heap.size, 0, none⟩ 1 1 [.pointer (some ⟨b, 0, none⟩)] rfl rfl (World.news_of_block (cs := #[.pointer (some ⟨b, 0, none⟩)]) (heap_alloc_new W1 _)) (by simp [Value.oneCell']) (by decide) (by unfold maxLen; omega) (by omega) (Nat.zero_le _) (W1.heap.size + 1) (by simp) ?_; intro g4 cap4 w5 hown5 hgrow5 hat5 hlt5; obtain ⟨⟨k1, k2, k3⟩, ρ5, hrep5, hev5⟩ := LA.out _ _ _ hown5 hgrow5 hat5; have HREP5 := hide hrep5; have HEV5 := hide hev5; clear hrep5 hev5)
    go_ret
    refine ⟨rfl, ρ5, { H1 with av := .slice (some ⟨g4, 0, none⟩) (s.late.length + 1) cap4 }, ?_, HEE.out.trans HEV5.out⟩
    rw [HE1.out]; exact HREP5.out
  · have hg0' : (g != 0) = true := by simp [hg0]
    have hg0'' : (g == 0) = false := by simp [hg0]
    have hgl := o2.2.resolve_left hg0
    have hfl := o2.1.resolve_left (o1 hg0)
    have e1 : s.hooked lits f g = (((s.added lits).setCl n ⟨lits, f, g, false⟩).watch f n g).watch g n f := by
      unfold PS.hooked; rw [if_neg hg0, hnn]
    rw [e1, hnn] at hAT
    replace hR := hR.drewN m1
    replace hE := hE.trans (Ev.drewN ρ3 W m1)
    obtain ⟨_, _, ob2, ob3, _, obf, hobl, hobB⟩ := hR.obj hcn
    have hWat := hR.setWatched hcn f g
    have hrole : ρ3 b ≠ oth := by rw [← hcb1]; exact hR.roleOf (r := (2, n)) (x := ⟨84, 5, obj1 (H1.cb n), 1, objC n (H1.cl n) ⟨lits, 0, 0, false⟩⟩) (by simp [ents, hcn]) rfl (by simp [oth])
    rw [hcb1] at ob2 ob3 obf hobl hobB hWat
    have z2 := obf 2
    have z3 := obf 3
    have hE2 := (hE.trans (Ev.set hrole 2 (.int .i64 f))).trans (Ev.set hrole 3 (.int .i64 g))
    have HW := hide hWat
    have HE2 := hide hE2
    have HAT := hide hAT
    clear hWat hE2 hAT hR hE obf
    generalize W.drewN m1 = W1 at *
    go_wp2_with fail
    have hS4 : Shp ((s.added lits).setCl n ⟨lits, f, g, false⟩) := ⟨hS.vars, hS.vals, hS.wat, hS.fac, hS.bit, hS.num⟩
    have W0 := watch_any HW.out f n g hfl hS4 (fun q hq => Nat.le_trans (hM.wat q (List.mem_of_getElem? hq)) (by omega))
    rw [hcb1] at W0
    refine W0.mono ?_
    rintro e W2 ⟨rfl, ρ6, v6, hrep6, hev6⟩
    have hS5 : Shp (((s.added lits).setCl n ⟨lits, f, g, false⟩).watch f n g) := ⟨hS.vars, hS.vals, by simp [PS.watch, PS.setCl, PS.added, hS.wat], hS.fac, hS.bit, hS.num⟩
    have W5 := watch_any hrep6 g n f hgl hS5 (fun q hq => watch_len (fun q hq => Nat.le_trans (hM.wat q hq) (by omega)) hq)
    have hcb6 : ({ H1 with wr := H1.wr.set (ix ((s.added lits).setCl n ⟨lits, f, g, false⟩).vars f) v6 } : Hd).cb n = b := hcb1
    rw [hcb6] at W5
    have HEV6 := hide (HE2.out.trans hev6)
    clear hrep6 hev6 W0 HE2 HW ob2 ob3 z2 z3
    replace W5 := hide W5
    go_wp2_with fail
    refine (unhide W5).mono ?_
    rintro e W3 ⟨rfl, ρ7, v7, hrep7, hev7⟩
    have HEV7 := hide (HEV6.out.trans hev7)
    have hS6 : Shp ((((s.added lits).setCl n ⟨lits, f, g, false⟩).watch f n g).watch g n f) := ⟨hS.vars, hS.vals, by simp [PS.watch, PS.setCl, PS.added, hS.wat], hS.fac, hS.bit, hS.num⟩
    have hcn7 : ((((s.added lits).setCl n ⟨lits, f, g, false⟩).watch f n g).watch g n f).cls[n]? = some ⟨lits, f, g, false⟩ := by
      show ((s.added lits).cls.set n _)[n]? = _
      rw [List.getElem?_set_self (List.getElem?_eq_some_iff.1 hcn).1]
    have GV := value_any hrep7 g hgl (by have := hS.vars; show s.vars ≤ _; omega) hS6.vals
    have eV : ((((s.added lits).setCl n ⟨lits, f, g, false⟩).watch f n g).watch g n f).val g = s.val g := rfl
    rw [eV] at GV
    have hown : ∀ m, (W3.drewN m).ownsRow 0 80 1 H1.av s.late.length (ptrsC H1.cb s.late) := fun m => (hrep7.drewN m).hold.own (11, 0) _ rfl
    have c11 := hrep7.c11
    obtain ⟨ob0, _, _, _, _, _, hobl', _⟩ := hrep7.obj hcn7
    have LA := hide (fun m g4 cap4 w5 => (hrep7.drewN m).lateAfter hcn7 (o := .cells #[.pointer (some ⟨b, 0, none⟩)] 80) (g3 := g4) (cap3 := cap4) (w5 := w5))
    have hcb7 : ({ { H1 with wr := H1.wr.set (ix ((s.added lits).setCl n ⟨lits, f, g, false⟩).vars f) v6 } with wr := ({ H1 with wr := H1.wr.set (ix ((s.added lits).setCl n ⟨lits, f, g, false⟩).vars f) v6 } : Hd).wr.set (ix (((s.added lits).setCl n ⟨lits, f, g, false⟩).watch f n g).vars g) v7 } : Hd).cb n = b := hcb1
    rw [hcb7] at LA ob0 hobl'
    have hBl7 := hrep7.lt
    have HREP7 := hide hrep7
    replace GV := hide GV
    clear hrep7 hev7 W5 HEV6 hcn7 hcn hS4 hS5 hS6
    have hvb := hS.val g
    by_cases hv : s.val g < 0
    · have hAT' := HAT.out
      rw [if_pos (.inr hv)] at hAT'
      replace hAT' := hide hAT'
      generalize s.val g = x at *
      go_wp2_with (first | (go_at_call 50; refine (unhide GV).mono ?_; rintro e W4 ⟨rfl, m4, rfl⟩) | (at_builtin; refine wpList_append_lies _ rfl _ _ 64 rfl 0 80 i0 (.pointer none) 1 8 Try.underlying64 hi0 hz0 hz1 hz2 rfl (by decide) H1.av s.late.length _ rfl ((hown m4).alloc _) ⟨W3.heap.size, 0, none⟩ 1 1 [.pointer (some ⟨b, 0, none⟩)] rfl rfl (World.news_of_block (cs := #[.pointer (some ⟨b, 0, none⟩)]) (heap_alloc_new (W3.drewN m4) _)) (by simp [Value.oneCell']) (by decide) (by unfold maxLen; omega) (by omega) (Nat.zero_le _) (W3.heap.size + 1) (by simp) ?_; intro g4 cap4 w5 hown5 hgrow5 hat5 hlt5; obtain ⟨⟨k1, k2, k3⟩, ρ5, hrep5, hev5⟩ := LA.out m4 _ _ _ hown5 hgrow5 hat5; have HREP5 := hide hrep5; have HEV5 := hide hev5; clear hrep5 hev5))
      go_ret
      exact ⟨rfl, attach_end hAT'.out HREP5.out ((HEV7.out.trans (Ev.drewN ρ7 W3 m4)).trans HEV5.out)⟩
    · have hAT' := HAT.out
      rw [if_neg (by rintro (h | h); exact hg0 h; exact hv h)] at hAT'
      replace hAT' := hide hAT'
      generalize s.val g = x at *
      go_wp2_with (first | (go_at_call 50; refine (unhide GV).mono ?_; rintro e W4 ⟨rfl, m4, rfl⟩) | (at_builtin; refine wpList_append_lies _ rfl _ _ 64 rfl 0 80 i0 (.pointer none) 1 8 Try.underlying64 hi0 hz0 hz1 hz2 rfl (by decide) H1.av s.late.length _ rfl ((hown m4).alloc _) ⟨W3.heap.size, 0, none⟩ 1 1 [.pointer (some ⟨b, 0, none⟩)] rfl rfl (World.news_of_block (cs := #[.pointer (some ⟨b, 0, none⟩)]) (heap_alloc_new (W3.drewN m4) _)) (by simp [Value.oneCell']) (by decide) (by unfold maxLen; omega) (by omega) (Nat.zero_le _) (W3.heap.size + 1) (by simp) ?_; intro g4 cap4 w5 hown5 hgrow5 hat5 hlt5; obtain ⟨⟨k1, k2, k3⟩, ρ5, hrep5, hev5⟩ := LA.out m4 _ _ _ hown5 hgrow5 hat5; have HREP5 := hide hrep5; have HEV5 := hide hev5; clear hrep5 hev5))
      go_ret
      exact ⟨rfl, attach_end hAT'.out (HREP7.out.drewN m4) (HEV7.out.trans (Ev.drewN ρ7 W3 m4))⟩
end

end Go.Proofs.Ytlmbgaconjcaiab
