/- Contracts: add, note, node. -/
import Derived.Test.YtbilhiklfficoaaWalkC
import Derived.Deep.RegionLaw
import Derived.Deep.AppendLies
set_option linter.unusedVariables false
set_option linter.unusedSimpArgs false
namespace Go.Proofs.Ytbilhiklfficoaa
open Go.RowKit Go.Maps

/-- A graph whose map is behind its nodes. -/
structure Gw (w : World) (B M : Nat) (v : Value) (g : List Gt) (D : DataW Unit) (k : Nat) : Prop where
  head : w.heap[B]? = some (.cells #[.pointer (some ⟨B, 0, none⟩), v, .map (some M)] 65 (0, 0))
  row : w.ownsRow 0 60 2 v g.length (gcl g)
  map : w.ownsMap Try.prog 60 (plainElem Try.prog 3) M k D
/-- The nodes' row is where it was, or new. -/
def NewV (w : World) (v v' : Value) : Prop := v'.ownBlock = v.ownBlock ∨ ∃ q, v'.ownBlock = some q ∧ w.heap.size ≤ q

theorem Gr.raw {w : World} {B M : Nat} {v : Value} {g : List Gt} (h : Gr w B M v g) : ∃ D, Gw w B M v g D g.length ∧ MapOk D g := by
  obtain ⟨D, h1, h2⟩ := h.map
  exact ⟨D, ⟨h.head, h.row, h1⟩, h2⟩
section
variable {w w' : World} {B M k : Nat} {v : Value} {g : List Gt} {D : DataW Unit}
theorem Gw.gr (h : Gw w B M v g D g.length) (hm : MapOk D g) (hy : May g) (hl : g.length ≤ 1000000) : Gr w B M v g := ⟨h.head, h.row, ⟨D, h.map, hm⟩, hy, hl⟩
theorem Gw.c1 (h : Gw w B M v g D k) : w.cell? ⟨B, 1, none⟩ = some v := by simp [World.cell?, h.head]
theorem Gw.c2 (h : Gw w B M v g D k) : w.cell? ⟨B, 2, none⟩ = some (.map (some M)) := by simp [World.cell?, h.head]
theorem Gw.fz (h : Gw w B M v g D k) (i : Nat) : w.frozen? ⟨B, i, none⟩ = false := by simp [World.frozen?, h.head]
theorem Gw.form (h : Gw w B M v g D k) : (v = .slice none 0 0 ∧ g = []) ∨ ∃ N c, v = .slice (some ⟨N, 0, none⟩) g.length c ∧ N < w.heap.size := by
  rcases h.row.2 with ⟨e, hz⟩ | ⟨N, c, cur, e, _, hN, _⟩
  · exact .inl ⟨e, List.length_eq_zero_iff.1 hz⟩
  · exact .inr ⟨N, c, e, lt_of_block hN⟩
theorem Gw.lt (h : Gw w B M v g D k) : B < w.heap.size ∧ M < w.heap.size := by
  obtain ⟨es, clock, hb, r⟩ := h.map
  exact ⟨lt_of_block h.head, lt_of_block hb⟩
theorem Gw.apart (h : Gw w B M v g D k) : M ≠ B ∧ v.ownBlock ≠ some B ∧ v.ownBlock ≠ some M := by
  obtain ⟨es, clock, hb, r⟩ := h.map
  refine ⟨fun e => ?_, fun e => ?_, fun e => ?_⟩
  · rw [e, h.head] at hb; cases hb
  · rcases h.row.2 with ⟨e', _⟩ | ⟨N, c, cur, e', _, hN, _⟩
    · rw [e'] at e; cases e
    · rw [e'] at e; cases e; rw [h.head] at hN; cases hN
  · rcases h.row.2 with ⟨e', _⟩ | ⟨N, c, cur, e', _, hN, _⟩
    · rw [e'] at e; cases e
    · rw [e'] at e; cases e; rw [hb] at hN; cases hN
theorem Gw.below (h : Gw w B M v g D k) (hb : Below w.heap.size w w') : Gw w' B M v g D k := by
  obtain ⟨l1, l2⟩ := h.lt
  refine ⟨(hb.block _ l1).trans h.head, ⟨h.row.1, ?_⟩, ?_⟩
  · rcases h.row.2 with hn | ⟨N, c, cur, e, hbb, hN, r⟩
    · exact .inl hn
    · exact .inr ⟨N, c, cur, e, hbb, (hb.block N (lt_of_block hN)).trans hN, r⟩
  · obtain ⟨es, clock, hm, r⟩ := h.map
    exact ⟨es, clock, (hb.block _ l2).trans hm, r⟩
/-- Behind the append and the store. -/
theorem Gw.grow (h : Gw w B M v g D k) {x w3 : World} (hb : Below w.heap.size w x) {q cap : Nat} {t : Gt} (hg : x.grownBy w3 v.ownBlock)
    (ho : w3.ownsRow 0 60 2 (.slice (some ⟨q, 0, none⟩) (g.length + 1) cap) (g.length + 1) (gcl g ++ [.int .i64 t.1, .int .i64 t.2])) (hat : v.ownBlock = some q ∨ w.heap.size ≤ q) :
    Gw (w3.setCell ⟨B, 1, none⟩ (.slice (some ⟨q, 0, none⟩) (g.length + 1) cap)) B M (.slice (some ⟨q, 0, none⟩) (g.length + 1) cap) (g ++ [t]) D k ∧
    Kp (Sv B M v) w (w3.setCell ⟨B, 1, none⟩ (.slice (some ⟨q, 0, none⟩) (g.length + 1) cap)) ∧ NewV w v (.slice (some ⟨q, 0, none⟩) (g.length + 1) cap) := by
  obtain ⟨l1, l2⟩ := h.lt
  obtain ⟨a1, a2, a3⟩ := h.apart
  have hB : w3.heap[B]? = w.heap[B]? := (hg.block B (Nat.lt_of_lt_of_le l1 hb.size) (fun e => a2 e.symm)).trans (hb.block B l1)
  have hM : w3.heap[M]? = w.heap[M]? := (hg.block M (Nat.lt_of_lt_of_le l2 hb.size) (fun e => a3 e.symm)).trans (hb.block M l2)
  have hqB : q ≠ B := by
    intro e
    rcases ho.2 with ⟨e', _⟩ | ⟨N, c, cur, e', _, hN, _⟩
    · cases e'
    · cases e'; rw [e, hB, h.head] at hN; cases hN
  refine ⟨⟨(hd_set (hB.trans h.head)).trans (by simp), ?_, ?_⟩, ?_, ?_⟩
  · rw [List.length_append, gcl_snoc]
    refine ⟨ho.1, ?_⟩
    rcases ho.2 with ⟨e', _⟩ | ⟨N, c, cur, e', hbb, hN, r⟩
    · cases e'
    · refine .inr ⟨N, c, cur, e', hbb, ?_, r⟩
      cases e'
      rw [hd_far hqB]; exact hN
  · obtain ⟨es, clock, hm, r⟩ := h.map
    exact ⟨es, clock, by rw [hd_far a1, hM]; exact hm, r⟩
  · exact ((Kp.of_below hb).grown hg (fun b hb' e => .inr (.inr e))).setCell (fun _ => .inl rfl) _
  · rcases hat with e | e
    · exact .inl e.symm
    · exact .inr ⟨q, rfl, e⟩
/-- Behind a store into the map. -/
theorem Gw.turned (h : Gw w B M v g D k) {D' : DataW Unit} {k' : Nat} (hown : w'.ownsMap Try.prog 60 (plainElem Try.prog 3) M k' D') (ht : w.mapTurned w' M) :
    Gw w' B M v g D' k' ∧ Kp (Sv B M v) w w' := by
  obtain ⟨l1, l2⟩ := h.lt
  obtain ⟨a1, a2, a3⟩ := h.apart
  have hg := ht.grown
  refine ⟨⟨(hg.block B l1 (fun e => a1 (by simpa using e.symm))).trans h.head, ⟨h.row.1, ?_⟩, hown⟩, (Kp.refl _ _).grown hg (fun b _ e => by cases e; exact .inr (.inl rfl))⟩
  rcases h.row.2 with hn | ⟨N, c, cur, e, hbb, hN, r⟩
  · exact .inl hn
  · refine .inr ⟨N, c, cur, e, hbb, (hg.block N (lt_of_block hN) (fun e' => a3 ?_)).trans hN, r⟩
    rw [e]; simpa [Value.ownBlock] using e'
end

theorem below_drew_alloc (w : World) (o : Obj) : Below w.heap.size w (w.drew.alloc o) := (below_drewN (Below.refl _ _) 1).alloc (Nat.le_refl _) o
theorem gcl_one (a b : Int) : ∀ u ∈ [Value.int .i64 a, Value.int .i64 b], u.oneCell' = true := by simp [Value.oneCell']
set_option maxHeartbeats 2000000 in
theorem add_any (w : World) (B M k : Nat) (v : Value) (g : List Gt) (D : DataW Unit) (t : Gt) (hA : Gw w B M v g D k) (hn : g.length ≤ 1000000) :
    Calls Try.prog 66 #[.pointer (some ⟨B, 0, none⟩), .agg #[.int .i64 t.1, .int .i64 t.2]] w fun e w' => e = .returned (.int .i64 (2 * ((g.length : Int) + 1))) ∧
      ∃ v', Gw w' B M v' (g ++ [t]) D k ∧ Kp (Sv B M v) w w' ∧ NewV w v v' := by
  have L := hide (fun W => literal_any W (g.length : Int) (by omega) (by omega))
  obtain ⟨a, b⟩ := t
  dsimp only
  have hbw := below_alloc w (.cells #[.int .i64 a, .int .i64 b] 60)
  have hA1 := hA.below hbw
  obtain ⟨i0, hi0, hz0, hz1, hz2⟩ := info_parts Try.info60
  have k0 : (w.alloc (.cells #[.int .i64 a, .int .i64 b] 60)).cell? ⟨w.heap.size, 0, none⟩ = some (.int .i64 a) := (box2 w _ _ _).1
  have k1 : (w.alloc (.cells #[.int .i64 a, .int .i64 b] 60)).cell? ⟨w.heap.size, 1, none⟩ = some (.int .i64 b) := (box2 w _ _ _).2.1
  have HBW := hide hbw
  have hsz : w.heap.size < (w.alloc (.cells #[.int .i64 a, .int .i64 b] 60)).heap.size := by simp
  have HKW : Hid (Kp (Sv B M v) w (w.alloc (.cells #[.int .i64 a, .int .i64 b] 60))) := Kp.of_below hbw
  have HS := hide hsz
  go_enter Try.func66, Try.ntmps66
  rcases hA.form with ⟨rfl, hg0⟩ | ⟨N, c, rfl, hg0⟩
  all_goals
    clear hg0
    go_upto_region 1 with fail
    generalize hW : w.alloc (.cells #[.int .i64 a, .int .i64 b] 60) = W at *
    generalize hX : w.heap.size = X at *
    have HW := hide hW
    have HX := hide hX
    clear hW hX
    have c1 := hA1.c1
    have f1 := hA1.fz 1
    have HA := hide hA1
    have lB := hA1.lt.1
    have AF := hide (fun (x w3 : World) (hb : Below W.heap.size W x) (hg : x.grownBy w3 _) => (⟨(World.cell?_of_block ((hg.block B (Nat.lt_of_lt_of_le lB hb.size) (fun e => hA1.apart.2.1 e.symm)).trans (hb.block B lB))).trans c1, (World.frozen?_of_block ((hg.block B (Nat.lt_of_lt_of_le lB hb.size) (fun e => hA1.apart.2.1 e.symm)).trans (hb.block B lB))).trans f1⟩ : _ ∧ _))
    clear hA hA1 hbw
    have hge : ¬ (1048576 : Int) ≤ g.length := by omega
    go_wp2
    go_region_law (first
      | (refine step_append_lies _ (by rfl) (.tmp 15) (.tmp 17) 22 (by rfl) 0 60 i0 (.agg #[.int .i64 0, .int .i64 0]) 2 16 Try.underlying22 hi0 hz0 hz1 hz2 rfl (by decide) _ g.length _ (by rfl) ((HA.out.below (below_drew_alloc W _)).row) ⟨W.heap.size, 0, none⟩ 1 1 [.int .i64 a, .int .i64 b] (by rfl) (by rfl) (World.news_of_block (cs := #[.int .i64 a, .int .i64 b]) (t := 60) (fr := (0, 0)) (heap_alloc_new W.drew _)) (gcl_one a b) (by decide) (by unfold maxLen; omega) (by omega) (Nat.zero_le _) (W.heap.size + 1) (by simp) ?_; intro g3 cap3 w3 hown3 hgrow3 hat3 hlt3; obtain ⟨x1, y1⟩ := AF.out _ _ (below_drew_alloc W _) hgrow3))
    all_goals
      have hfin := HA.out.grow (t := (a, b)) (below_drew_alloc W _) hgrow3 hown3 (by rcases hat3 with h | h; exact .inl h; exact .inr (by omega))
      have HF := hide hfin
      have z1 := hfin.1.c1
      clear hfin
      go_wp2_with (first | (go_at_call 41; refine (unhide L _).mono ?_; rintro e w0 ⟨rfl, hw0⟩; subst w0))
      go_ret
      refine ⟨rfl, _, HF.out.1, HKW.out.trans HF.out.2.1 (fun _ _ h => h), ?_⟩
      rcases HF.out.2.2 with h | ⟨q, h1, h2⟩
      · exact .inl h
      · exact .inr ⟨q, h1, by have := HS.out; have := HX.out; omega⟩
end Go.Proofs.Ytbilhiklfficoaa
