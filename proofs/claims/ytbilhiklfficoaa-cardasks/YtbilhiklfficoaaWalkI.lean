/- Contracts: New, Nodes; a list of nodes behind a slice. -/
import Derived.Test.YtbilhiklfficoaaWalkH
import Derived.Carry
set_option linter.unusedVariables false
set_option linter.unusedSimpArgs false
namespace Go.Proofs.Ytbilhiklfficoaa
open Go.RowKit Go.Maps

set_option maxHeartbeats 400000 in
theorem new_any (w : World) :
    Calls Try.prog 25 #[] w fun e w' => ∃ B M, e = .returned (.pointer (some ⟨B, 0, none⟩)) ∧ Gr w' B M (.slice none 0 0) [] ∧ Below w.heap.size w w' ∧ w.heap.size ≤ B ∧ w.heap.size ≤ M := by
  obtain ⟨W, hW⟩ : ∃ W, W = (w.alloc (.map #[] 0)).alloc (.cells #[.pointer (some ⟨w.heap.size + 1, 0, none⟩), .slice none 0 0, .map (some w.heap.size)] 65) := ⟨_, rfl⟩
  have hh : W.heap[w.heap.size + 1]? = some (.cells #[.pointer (some ⟨w.heap.size + 1, 0, none⟩), .slice none 0 0, .map (some w.heap.size)] 65 (0, 0)) := by
    have h := heap_alloc_new (w.alloc (.map #[] 0)) (.cells #[.pointer (some ⟨w.heap.size + 1, 0, none⟩), .slice none 0 0, .map (some w.heap.size)] 65)
    have e : (w.alloc (.map #[] 0)).heap.size = w.heap.size + 1 := by simp
    rw [e] at h
    rw [hW]; exact h
  have hb : Below w.heap.size w W := by rw [hW]; exact ((Below.refl _ _).alloc (Nat.le_refl _) _).alloc (by simp) _
  have hm : W.ownsMap Try.prog 60 (plainElem (H := Unit) Try.prog 3) w.heap.size 0 (.map []) := by
    have h0 := World.ownsMap_made w Try.prog 60 (plainElem (H := Unit) Try.prog 3)
    rw [hW]; exact h0.alloc _
  have HG : Hid (Gr W (w.heap.size + 1) w.heap.size (.slice none 0 0) []) := ⟨hh, World.ownsRow_nil _ _ _ _, ⟨_, hm, map_new⟩, fun i hi => by simp at hi, by simp⟩
  have HB := hide hb
  have HW := hide hW
  clear hh hb hm hW
  have hmk := run_makeMap (P := Try.prog) 63 w
  go_enter Try.func25, Try.ntmps25
  go_wp2
  go_ret
  rw [← HW.out]
  exact ⟨_, _, rfl, HG.out, HB.out, by omega, Nat.le_refl _⟩

/-- Nodes behind a slice. -/
def GS (w : World) (al : Option Addr) (g : List Gt) : Prop :=
  ∀ i (h : i < g.length), ∃ q off, al = some ⟨q, off, none⟩ ∧ q < w.heap.size ∧ w.cell? ⟨q, off + i * 2, none⟩ = some (.int .i64 g[i].1) ∧ w.cell? ⟨q, off + i * 2 + 1, none⟩ = some (.int .i64 g[i].2)
theorem GS.kp {w W : World} {al : Option Addr} {g : List Gt} {S : Nat → Prop} (h : GS w al g) (hk : Kp S w W) (ho : ∀ b off, al = some ⟨b, off, none⟩ → ¬ S b) : GS W al g := by
  intro k hk'
  obtain ⟨b, off, e, hb, h0, h1⟩ := h k hk'
  have := hk.block b hb (ho b off e)
  exact ⟨b, off, e, Nat.lt_of_lt_of_le hb hk.size, (World.cell?_of_block this).trans h0, (World.cell?_of_block this).trans h1⟩
theorem GS.below {w W : World} {al : Option Addr} {g : List Gt} (h : GS w al g) (hb : Below w.heap.size w W) : GS W al g := h.kp (S := fun _ => False) (Kp.of_below hb) (fun _ _ _ e => e)
theorem gs_nil (w : World) (al : Option Addr) : GS w al [] := fun i hi => by simp at hi
/-- Nodes as what is put behind others. -/
theorem GS.src {w : World} {al : Option Addr} {g : List Gt} (h : GS w al g) {q off : Nat} (e : al = some ⟨q, off, none⟩) : ∀ j u, (gcl g)[j]? = some u → w.cell? ((⟨q, off, none⟩ : Addr).add j) = some u := by
  intro j u hu
  obtain ⟨hj, e'⟩ := List.getElem?_eq_some_iff.1 hu
  rw [gcl_len] at hj
  have hi : j / 2 < g.length := by omega
  obtain ⟨q', off', e2, hq, h0, h1⟩ := h (j / 2) hi
  rw [e] at e2; cases e2
  rw [Addr.add_lit]
  have hg := gcl_at g (j / 2) hi
  by_cases hp : j % 2 = 0
  · have ej : j / 2 * 2 = j := by omega
    rw [ej] at h0 hg
    rw [hg.1] at hu
    rw [h0]; exact hu
  · have ej : j / 2 * 2 + 1 = j := by omega
    rw [Nat.add_assoc, ej] at h1
    rw [ej] at hg
    rw [hg.2] at hu
    rw [h1]; exact hu
theorem gcl_cell (g : List Gt) : ∀ u ∈ gcl g, u.oneCell' = true := by
  intro u hu
  simp only [gcl, List.mem_flatMap, List.mem_cons, List.not_mem_nil, or_false] at hu
  obtain ⟨t, _, rfl | rfl⟩ := hu <;> rfl
theorem gs_own {w : World} {base q n c : Nat} {g : List Gt} (h : w.ownsRow base 60 2 (.slice (some ⟨q, 0, none⟩) n c) n (gcl g)) : n = g.length ∧ GS w (some ⟨q, 0, none⟩) g ∧ n ≤ c := by
  have hl : (gcl g).length = n * 2 := h.1
  rw [gcl_len] at hl
  refine ⟨by omega, fun i hi => ⟨q, 0, rfl, (h.lt q rfl).2, ?_, ?_⟩, ?_⟩
  · have := h.cells (g := q) rfl (i * 2) _ (gcl_at g i hi).1
    rw [Addr.add_lit] at this
    exact this
  · have := h.cells (g := q) rfl (i * 2 + 1) _ (gcl_at g i hi).2
    rw [Addr.add_lit] at this
    exact this
  · rcases h.2 with ⟨e, _⟩ | ⟨g', cap, cur, e, _, _, hn, _⟩
    · simp at e
    · simp at e
      obtain ⟨_, rfl⟩ := e
      exact hn
theorem Gr.gs {w : World} {B M : Nat} {v : Value} {g : List Gt} (h : Gr w B M v g) : ∃ al cap, v = .slice al g.length cap ∧ GS w al g ∧ ((al = none ∧ g = [] ∧ cap = 0) ∨ ∃ N, al = some ⟨N, 0, none⟩) := by
  rcases h.form with ⟨rfl, rfl⟩ | ⟨N, c, rfl, hN⟩
  · exact ⟨none, 0, rfl, gs_nil _ _, .inl ⟨rfl, rfl, rfl⟩⟩
  · exact ⟨some ⟨N, 0, none⟩, c, rfl, (gs_own h.row).2.1, .inr ⟨N, rfl⟩⟩

/-- A list of nodes that is told anew. -/
def NewG (w : World) (g : List Gt) (e : Ending) (w' : World) : Prop := ∃ al cap, e = .returned (.slice al g.length cap) ∧ GS w' al g ∧ Below w.heap.size w w' ∧ ((al = none ∧ g = [] ∧ cap = 0) ∨ ∃ q, al = some ⟨q, 0, none⟩ ∧ w.heap.size ≤ q)

theorem lit0 (W : World) (t : TypeId) (s : Nat) : (W.alloc (.cells #[] t)).ownsRow W.heap.size t s (.slice (some ⟨W.heap.size, 0, none⟩) 0 0) 0 [] :=
  World.ownsRow_made W #[] 0 (Nat.le_refl _) (Nat.zero_le _) (by simp)

set_option maxHeartbeats 2000000 in
theorem clone_any (w : World) (al : Option Addr) (cap : Nat) (g : List Gt) (hs : GS w al g) (hf : (al = none ∧ g = [] ∧ cap = 0) ∨ ∃ N, al = some ⟨N, 0, none⟩) (hl : g.length ≤ 1000000) :
    Calls Try.prog 35 #[.slice al g.length cap] w (NewG w g) := by
  have q24 : ∀ (w : World) (a : Option Addr) (n c n' c' : Nat), (binOp .eql 22 (.slice a n c) (.slice none n' c')).run Try.prog w = .ok (.bool a.isNone) w := fun w a n c n' c' => Lib.run_eql_slice_nil w _ _ a n c n' c' Try.underlying22
  rcases hf with ⟨rfl, rfl, rfl⟩ | ⟨N, rfl⟩
  · go_enter Try.func35, Try.ntmps35
    go_wp2
    go_ret
    exact ⟨none, 0, rfl, gs_nil _ _, Below.refl _ _, .inl ⟨rfl, rfl, rfl⟩⟩
  · obtain ⟨i0, hi0, hz0, hz1, hz2⟩ := info_parts Try.info60
    have hb0 := below_alloc w (.cells #[] 60)
    have hnews := (hs.below hb0).src rfl
    have HL := hide (gcl_len g)
    have HS := hide hs
    clear hs
    go_enter Try.func35, Try.ntmps35
    go_wp2_with (at_builtin; refine wpList_append_own_at _ rfl _ _ 22 rfl w.heap.size 60 i0 (.agg #[.int .i64 0, .int .i64 0]) 2 16 Try.underlying22 hi0 hz0 hz1 hz2 rfl (by decide) _ 0 [] rfl (lit0 w 60 2) ⟨N, 0, none⟩ g.length cap (gcl g) rfl HL.out hnews (gcl_cell g) (by unfold maxLen; omega) (by omega) (by simp) ?_; intro v1 w1 hown1 hgrow1 hnil1 hat1)
    have hv1 : v1 ≠ .slice none 0 0 := fun e => by have := (hnil1.1 e).1; cases this
    rcases hown1.2 with ⟨h0, _⟩ | ⟨q, c, cur, rfl, hb, hg, rest⟩
    · exact absurd h0 hv1
    · go_wp2
      rw [List.nil_append] at hown1
      simp only [Nat.zero_add] at hown1
      obtain ⟨e1, e2, e3⟩ := gs_own hown1
      have hbel : Below w.heap.size w w1 := hb0.grown hgrow1 (by simp) (by intro k hk; cases hk; exact Nat.le_refl _)
      go_ret
      exact ⟨some ⟨q, 0, none⟩, c, by simp, e2, hbel, .inr ⟨q, rfl, by rcases hat1 with h | h <;> (simp [Value.ownBlock] at h; omega)⟩⟩

set_option maxHeartbeats 2000000 in
theorem nodes_any (w : World) (B M : Nat) (v : Value) (g : List Gt) (hA : Gr w B M v g) :
    Calls Try.prog 13 #[.pointer (some ⟨B, 0, none⟩)] w (NewG w g) := by
  have GV := hide (given_any w B M v g hA)
  have hl := hA.le
  obtain ⟨al, cap, rfl, hs, hf⟩ := hA.gs
  have c1 := hA.c1
  have CL := hide (clone_any w al cap g hs hf hl)
  clear hA hs hf
  go_enter Try.func13, Try.ntmps13
  go_wp2_with (first
    | (go_at_call 34; refine (unhide GV).mono ?_; rintro e w0 ⟨rfl, hw0⟩; subst w0)
    | (go_at_call 35; refine (unhide CL).mono ?_; rintro e w1 ⟨al', cap', rfl, h1, h2, h3⟩))
  go_ret
  exact ⟨al', cap', rfl, h1, h2, h3⟩
end Go.Proofs.Ytbilhiklfficoaa
