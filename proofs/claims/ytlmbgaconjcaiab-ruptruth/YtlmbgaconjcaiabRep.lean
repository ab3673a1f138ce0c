/- A propagator as it lies in memory. -/
import Derived.Test.YtlmbgaconjcaiabHold
import Derived.Test.YtlmbgaconjcaiabPlainG
set_option linter.unusedVariables false
set_option linter.unusedSimpArgs false
namespace Go.Proofs.Ytlmbgaconjcaiab
open Go.RowKit

/-- The slices and pointers of a propagator: of clauses, values, watches, facts, the trail, levels, late clauses; by number: the clauses' blocks and literals; the watches' and the levels' rows. -/
structure Hd where
  cv : Value
  vv : Value
  wv : Value
  fv : Value
  tv : Value
  lv : Value
  av : Value
  cb : Nat → Nat
  cl : Nat → Value
  wr : List Value
  lr : List Value

def headC (B : Nat) (H : Hd) (s : PS) : List Value :=
  [.pointer (some ⟨B, 0, none⟩), .int .i64 s.vars, H.cv, .int .i64 s.count, .int .i64 s.stale, H.vv, H.wv, H.fv, H.tv, .int .i64 s.head, H.lv, H.av]
def ptrC (cb : Nat → Nat) (i : Nat) : Value := .pointer (some ⟨cb i, 0, none⟩)
def clsC (cb : Nat → Nat) (cs : List Cl) : List Value := cs.mapIdx (fun i c => if c.gone then .pointer none else ptrC cb i)
def objC (i : Nat) (v : Value) (c : Cl) : List Value := [.int .i64 i, v, .int .i64 c.w0, .int .i64 c.w1, .bool c.gone]
def intC (xs : List Int) : List Value := xs.map (Value.int .i64)
def valC (xs : List Int) : List Value := xs.map (Value.int .i8)
def watC (cb : Nat → Nat) : List (Nat × Int) → List Value
  | [] => []
  | p :: r => ptrC cb p.1 :: .int .i64 p.2 :: watC cb r
def facC : List (Int × Int × Int) → List Value
  | [] => []
  | p :: r => .int .i64 p.1 :: .int .i64 p.2.1 :: .int .i64 p.2.2 :: facC r
def lvsC : List Lv → List Value → List Value
  | l :: r, v :: vs => .int .i64 l.start :: .int .i64 l.head :: v :: lvsC r vs
  | _, _ => []
def ptrsC (cb : Nat → Nat) (is : List Nat) : List Value := is.map (ptrC cb)

def obj1 (b : Nat) : Value := .slice (some ⟨b, 0, none⟩) 1 1

def watE (cb : Nat → Nat) : Option (List (Nat × Int)) → Option Value → Option Ent
  | some q, some v => some ⟨100, 2, v, q.length, watC cb q⟩
  | _, _ => none
def lvlE (cb : Nat → Nat) : Option Lv → Option Value → Option Ent
  | some l, some v => some ⟨80, 1, v, l.late.length, ptrsC cb l.late⟩
  | _, _ => none

/-- All rows of a propagator, by roles. -/
def ents (B : Nat) (H : Hd) (s : PS) : Ents
  | (0, 0) => some ⟨67, 12, obj1 B, 1, headC B H s⟩
  | (1, 0) => some ⟨80, 1, H.cv, s.cls.length, clsC H.cb s.cls⟩
  | (2, i) => (s.cls[i]?).map (fun c => ⟨84, 5, obj1 (H.cb i), 1, objC i (H.cl i) c⟩)
  | (3, i) => (s.cls[i]?).map (fun c => ⟨3, 1, H.cl i, c.lits.length, intC c.lits⟩)
  | (4, 0) => some ⟨88, 1, H.vv, s.vals.length, valC s.vals⟩
  | (5, 0) => some ⟨98, 1, H.wv, s.wat.length, H.wr⟩
  | (6, j) => watE H.cb s.wat[j]? H.wr[j]?
  | (7, 0) => some ⟨102, 3, H.fv, s.fac.length, facC s.fac⟩
  | (8, 0) => some ⟨3, 1, H.tv, s.trail.length, intC s.trail⟩
  | (9, 0) => some ⟨95, 3, H.lv, s.lvs.length, lvsC s.lvs H.lr⟩
  | (10, k) => lvlE H.cb s.lvs[k]? H.lr[k]?
  | (11, 0) => some ⟨80, 1, H.av, s.late.length, ptrsC H.cb s.late⟩
  | _ => none

/-- A propagator in memory. -/
structure Rep (ρ : Nat → Rl) (w : World) (B : Nat) (H : Hd) (s : PS) : Prop where
  hold : Hold ρ w (ents B H s)
  wr : H.wr.length = s.wat.length
  lr : H.lr.length = s.lvs.length

section
variable {ρ ρ' : Nat → Rl} {w w' : World} {B : Nat} {H : Hd} {s : PS}

theorem Rep.below (h : Rep ρ w B H s) (hb : Below w.heap.size w w') : Rep ρ w' B H s := ⟨h.hold.below hb, h.wr, h.lr⟩
theorem Rep.alloc (h : Rep ρ w B H s) (o : Obj) : Rep ρ (w.alloc o) B H s := ⟨h.hold.alloc o, h.wr, h.lr⟩
theorem Rep.drew (h : Rep ρ w B H s) : Rep ρ w.drew B H s := ⟨h.hold.drew, h.wr, h.lr⟩
theorem Rep.drewN (h : Rep ρ w B H s) (n : Nat) : Rep ρ (w.drewN n) B H s := ⟨h.hold.drewN n, h.wr, h.lr⟩
theorem Rep.role (h : Rep ρ w B H s) (ha : ∀ b, b < w.heap.size → ρ' b = ρ b) : Rep ρ' w B H s := ⟨h.hold.role ha, h.wr, h.lr⟩

theorem Rep.hd (h : Rep ρ w B H s) {i : Nat} {u : Value} (hi : (headC B H s)[i]? = some u) : w.cell? ⟨B, i, none⟩ = some u := h.hold.cell (r := (0, 0)) rfl rfl hi
theorem Rep.fz (h : Rep ρ w B H s) (i : Nat) : w.frozen? ⟨B, i, none⟩ = false := h.hold.fz (r := (0, 0)) rfl rfl i
theorem Rep.lt (h : Rep ρ w B H s) : B < w.heap.size := h.hold.lt (r := (0, 0)) rfl rfl
theorem Rep.c0 (h : Rep ρ w B H s) : w.cell? ⟨B, 0, none⟩ = some (.pointer (some ⟨B, 0, none⟩)) := h.hd rfl
theorem Rep.c1 (h : Rep ρ w B H s) : w.cell? ⟨B, 1, none⟩ = some (.int .i64 s.vars) := h.hd rfl
theorem Rep.c2 (h : Rep ρ w B H s) : w.cell? ⟨B, 2, none⟩ = some H.cv := h.hd rfl
theorem Rep.c3 (h : Rep ρ w B H s) : w.cell? ⟨B, 3, none⟩ = some (.int .i64 s.count) := h.hd rfl
theorem Rep.c4 (h : Rep ρ w B H s) : w.cell? ⟨B, 4, none⟩ = some (.int .i64 s.stale) := h.hd rfl
theorem Rep.c5 (h : Rep ρ w B H s) : w.cell? ⟨B, 5, none⟩ = some H.vv := h.hd rfl
theorem Rep.c6 (h : Rep ρ w B H s) : w.cell? ⟨B, 6, none⟩ = some H.wv := h.hd rfl
theorem Rep.c7 (h : Rep ρ w B H s) : w.cell? ⟨B, 7, none⟩ = some H.fv := h.hd rfl
theorem Rep.c8 (h : Rep ρ w B H s) : w.cell? ⟨B, 8, none⟩ = some H.tv := h.hd rfl
theorem Rep.c9 (h : Rep ρ w B H s) : w.cell? ⟨B, 9, none⟩ = some (.int .i64 s.head) := h.hd rfl
theorem Rep.c10 (h : Rep ρ w B H s) : w.cell? ⟨B, 10, none⟩ = some H.lv := h.hd rfl
theorem Rep.c11 (h : Rep ρ w B H s) : w.cell? ⟨B, 11, none⟩ = some H.av := h.hd rfl

/-- A row that is there: its block, its cells, that they may be written, that it is not the struct's block. -/
theorem Rep.row (h : Rep ρ w B H s) {r : Rl} {x : Ent} (hr : ents B H s r = some x) (h0 : r ≠ (0, 0)) (hn : 0 < x.n) :
    ∃ g cap, x.v = .slice (some ⟨g, 0, none⟩) x.n cap ∧ x.v.ownBlock = some g ∧ x.n ≤ cap ∧ cap ≤ maxLen ∧ g < w.heap.size ∧ g ≠ B ∧ (∀ i u, x.xs[i]? = some u → w.cell? ⟨g, i, none⟩ = some u) ∧ (∀ i, w.frozen? ⟨g, i, none⟩ = false) := by
  obtain ⟨g, cap, e, h1, h2, h3⟩ := own_some (h.hold.own r x hr) hn
  have hg : x.v.ownBlock = some g := by rw [e]; rfl
  exact ⟨g, cap, e, hg, h1, h2, h3, h.hold.ne hr hg (q := (0, 0)) rfl rfl h0, fun i u hi => h.hold.cell hr hg hi, fun i => h.hold.fz hr hg i⟩
end

theorem valC_get {xs : List Int} {i : Nat} (h : i < xs.length) : (valC xs)[i]? = some (.int .i8 (xs.getD i 0)) := by
  simp [valC, List.getElem?_eq_getElem h]
theorem valC_set (xs : List Int) (i : Nat) (u : Int) : (valC xs).set i (.int .i8 u) = valC (xs.set i u) := by simp [valC, List.map_set]
theorem intC_get {xs : List Int} {i : Nat} {x : Int} (h : xs[i]? = some x) : (intC xs)[i]? = some (.int .i64 x) := by simp [intC, h]
theorem intC_len (xs : List Int) : (intC xs).length = xs.length := by simp [intC]

theorem facC_len : ∀ (l : List (Int × Int × Int)), (facC l).length = l.length * 3
  | [] => rfl
  | p :: r => by simp [facC, facC_len r]; omega
theorem facC_get : ∀ (l : List (Int × Int × Int)) (i : Nat) (p : Int × Int × Int), l[i]? = some p → (facC l)[i * 3]? = some (.int .i64 p.1) ∧ (facC l)[i * 3 + 1]? = some (.int .i64 p.2.1) ∧ (facC l)[i * 3 + 2]? = some (.int .i64 p.2.2)
  | [], i, p, h => by simp at h
  | q :: r, 0, p, h => by simp at h; subst h; simp [facC]
  | q :: r, i + 1, p, h => by
    have := facC_get r i p (by simpa using h)
    rw [show (i + 1) * 3 = i * 3 + 1 + 1 + 1 by omega]
    simpa [facC] using this
theorem facC_set : ∀ (l : List (Int × Int × Int)) (i : Nat) (p : Int × Int × Int), (((facC l).set (i * 3) (.int .i64 p.1)).set (i * 3 + 1) (.int .i64 p.2.1)).set (i * 3 + 2) (.int .i64 p.2.2) = facC (l.set i p)
  | [], i, p => by simp [facC]
  | q :: r, 0, p => by simp [facC]
  | q :: r, i + 1, p => by
    have := facC_set r i p
    rw [show (i + 1) * 3 = i * 3 + 1 + 1 + 1 by omega]
    simp only [facC, List.set_cons_succ, this]

theorem watC_len (cb : Nat → Nat) : ∀ (l : List (Nat × Int)), (watC cb l).length = l.length * 2
  | [] => rfl
  | p :: r => by simp [watC, watC_len cb r]; omega
theorem watC_get (cb : Nat → Nat) : ∀ (l : List (Nat × Int)) (i : Nat) (p : Nat × Int), l[i]? = some p → (watC cb l)[i * 2]? = some (ptrC cb p.1) ∧ (watC cb l)[i * 2 + 1]? = some (.int .i64 p.2)
  | [], i, p, h => by simp at h
  | q :: r, 0, p, h => by simp at h; subst h; simp [watC]
  | q :: r, i + 1, p, h => by
    have := watC_get cb r i p (by simpa using h)
    rw [show (i + 1) * 2 = i * 2 + 1 + 1 by omega]
    simpa [watC] using this
theorem watC_set (cb : Nat → Nat) : ∀ (l : List (Nat × Int)) (i : Nat) (p : Nat × Int), ((watC cb l).set (i * 2) (ptrC cb p.1)).set (i * 2 + 1) (.int .i64 p.2) = watC cb (l.set i p)
  | [], i, p => by simp [watC]
  | q :: r, 0, p => by simp [watC]
  | q :: r, i + 1, p => by
    have := watC_set cb r i p
    rw [show (i + 1) * 2 = i * 2 + 1 + 1 by omega]
    simp only [watC, List.set_cons_succ, this]
theorem watC_append (cb : Nat → Nat) : ∀ (l m : List (Nat × Int)), watC cb (l ++ m) = watC cb l ++ watC cb m
  | [], m => rfl
  | p :: r, m => by simp [watC, watC_append cb r m]
theorem watC_take (cb : Nat → Nat) : ∀ (l : List (Nat × Int)) (n : Nat), (watC cb l).take (n * 2) = watC cb (l.take n)
  | [], n => by simp [watC]
  | p :: r, 0 => by simp [watC]
  | p :: r, n + 1 => by
    rw [show (n + 1) * 2 = n * 2 + 1 + 1 by omega]
    simp only [watC, List.take_succ_cons, watC_take cb r n]
theorem watC_congr {cb cb' : Nat → Nat} : ∀ {l : List (Nat × Int)}, (∀ p ∈ l, cb' p.1 = cb p.1) → watC cb' l = watC cb l
  | [], _ => rfl
  | p :: r, h => by
    have h1 := h p (by simp)
    have h2 : watC cb' r = watC cb r := watC_congr (fun q hq => h q (List.mem_cons_of_mem _ hq))
    simp only [watC, ptrC, h1, h2]

theorem lvsC_len : ∀ (l : List Lv) (v : List Value), v.length = l.length → (lvsC l v).length = l.length * 3
  | [], [], _ => rfl
  | p :: r, u :: v, h => by simp [lvsC, lvsC_len r v (by simpa using h)]; omega
  | [], _ :: _, h => by simp at h
  | _ :: _, [], h => by simp at h
theorem lvsC_get : ∀ (l : List Lv) (v : List Value) (i : Nat) (p : Lv) (u : Value), l[i]? = some p → v[i]? = some u → (lvsC l v)[i * 3]? = some (.int .i64 p.start) ∧ (lvsC l v)[i * 3 + 1]? = some (.int .i64 p.head) ∧ (lvsC l v)[i * 3 + 2]? = some u
  | [], _, i, p, u, h, _ => by simp at h
  | _ :: _, [], i, p, u, _, h => by simp at h
  | q :: r, y :: v, 0, p, u, h, h' => by simp at h h'; subst h h'; simp [lvsC]
  | q :: r, y :: v, i + 1, p, u, h, h' => by
    have := lvsC_get r v i p u (by simpa using h) (by simpa using h')
    rw [show (i + 1) * 3 = i * 3 + 1 + 1 + 1 by omega]
    simpa [lvsC] using this
theorem lvsC_set : ∀ (l : List Lv) (v : List Value) (i : Nat) (u : Value) (f : Lv → Lv), (∀ a, (f a).start = a.start ∧ (f a).head = a.head) → v.length = l.length → (lvsC l v).set (i * 3 + 2) u = lvsC (l.modify i f) (v.set i u)
  | [], _, i, u, f, _, _ => by cases i <;> simp [lvsC]
  | _ :: _, [], i, u, f, _, h => by simp at h
  | q :: r, y :: v, 0, u, f, hf, h => by simp [lvsC, (hf q).1, (hf q).2]
  | q :: r, y :: v, i + 1, u, f, hf, h => by
    have := lvsC_set r v i u f hf (by simpa using h)
    rw [show (i + 1) * 3 = i * 3 + 1 + 1 + 1 by omega, show i * 3 + 1 + 1 + 1 + 2 = i * 3 + 2 + 1 + 1 + 1 by omega]
    simp only [lvsC, List.set_cons_succ, this, List.modify_succ_cons]
theorem lvsC_append : ∀ (l : List Lv) (v : List Value) (p : Lv) (u : Value), v.length = l.length → lvsC (l ++ [p]) (v ++ [u]) = lvsC l v ++ [.int .i64 p.start, .int .i64 p.head, u]
  | [], [], p, u, _ => rfl
  | q :: r, y :: v, p, u, h => by simp [lvsC, lvsC_append r v p u (by simpa using h)]
  | [], _ :: _, _, _, h => by simp at h
  | _ :: _, [], _, _, h => by simp at h
theorem lvsC_take : ∀ (l : List Lv) (v : List Value) (n : Nat), (lvsC l v).take (n * 3) = lvsC (l.take n) (v.take n)
  | [], v, n => by simp [lvsC]
  | _ :: _, [], n => by cases n <;> simp [lvsC]
  | q :: r, y :: v, 0 => by simp [lvsC]
  | q :: r, y :: v, n + 1 => by
    rw [show (n + 1) * 3 = n * 3 + 1 + 1 + 1 by omega]
    simp only [lvsC, List.take_succ_cons, lvsC_take r v n]

theorem clsC_get (cb : Nat → Nat) {cs : List Cl} {i : Nat} {c : Cl} (h : cs[i]? = some c) : (clsC cb cs)[i]? = some (if c.gone then .pointer none else ptrC cb i) := by
  simp [clsC, List.getElem?_mapIdx, h]
theorem clsC_len (cb : Nat → Nat) (cs : List Cl) : (clsC cb cs).length = cs.length := by simp [clsC]

end Go.Proofs.Ytlmbgaconjcaiab
