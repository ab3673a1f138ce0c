/- Words of literals, and what is made of them bit by bit, by inputs: what a graph that grows keeps of them. -/
import Derived.Test.YtbilhiklfficoaaPlainD
import Derived.Test.YtbilhiklfficoaaVecA
set_option linter.unusedVariables false
set_option linter.unusedSimpArgs false
namespace Go.Proofs.Ytbilhiklfficoaa

/-- A word of a graph. -/
def Wd (g : List Gt) (a : List Int) : Prop := ∀ k ∈ a, isB g k = true
/-- Its bits, by inputs. -/
def bitsW (ins : List Bool) (g : List Gt) (a : List Int) : List Bool := a.map (valF (allV ins g))
/-- Its number. -/
def numW (ins : List Bool) (g : List Gt) (a : List Int) : Nat := numB (bitsW ins g a)
theorem bitsW_len (ins : List Bool) (g : List Gt) (a : List Int) : (bitsW ins g a).length = a.length := by simp [bitsW]
theorem Wd.grow {g h : List Gt} {n : Nat} {a : List Int} (x : Grow g h n) (ha : Wd g a) : Wd h a := fun k hk => x.lit (ha k hk)
theorem bitsW_grow {ins : List Bool} {g h : List Gt} {n : Nat} {a : List Int} (x : Grow g h n) (ha : Wd g a) : bitsW ins h a = bitsW ins g a :=
  List.map_congr_left fun k hk => val_grow x (ha k hk)
theorem Wd.cons {g : List Gt} {k : Int} {a : List Int} : Wd g (k :: a) ↔ isB g k = true ∧ Wd g a := by simp [Wd]
theorem Wd.snoc {g : List Gt} {k : Int} {a : List Int} (ha : Wd g a) (hk : isB g k = true) : Wd g (a ++ [k]) := by
  intro j hj
  rcases List.mem_append.1 hj with h | h
  · exact ha j h
  · rw [List.mem_singleton.1 h]; exact hk
theorem wd_const {g : List Gt} {a : List Int} (h : ∀ k ∈ a, k = 0 ∨ k = 1) : Wd g a := by
  intro k hk
  rw [isB_iff]
  rcases h k hk with e | e <;> omega
theorem bits_not {ins : List Bool} {g : List Gt} {a : List Int} (ha : Wd g a) : bitsW ins g (a.map notI) = (bitsW ins g a).map (!·) := by
  unfold bitsW
  rw [List.map_map, List.map_map]
  exact List.map_congr_left fun k hk => val_nots (ha k hk)
theorem wd_not {g : List Gt} {a : List Int} (ha : Wd g a) : Wd g (a.map notI) := by
  intro k hk
  obtain ⟨j, hj, rfl⟩ := List.mem_map.1 hk
  rw [isB_not]; exact ha j hj

/-- An act of two literals. -/
structure Act2 (f : List Gt → Int → Int → List Gt × Int) (op : Bool → Bool → Bool) (n : Nat) : Prop where
  grow : ∀ {g : List Gt}, May g → ∀ a b : Int, Grow g (f g a b).1 n
  lit : ∀ {g : List Gt}, May g → ∀ a b : Int, isB g a = true → isB g b = true → isB (f g a b).1 (f g a b).2 = true
  mean : ∀ {g : List Gt} (ins : List Bool), May g → ∀ a b : Int, isB g a = true → isB g b = true → valF (allV ins (f g a b).1) (f g a b).2 = op (valF (allV ins g) a) (valF (allV ins g) b)
theorem act_and : Act2 andF (fun x y => x && y) 1 := ⟨fun hm a b => (and_grow hm a b).1, fun hm a b => (and_grow hm a b).2.1, fun ins hm a b ha hb => and_mean hm ha hb⟩
theorem act_or : Act2 orF (fun x y => x || y) 1 := ⟨fun hm a b => (or_grow hm a b).1, fun hm a b => (or_grow hm a b).2.1, fun ins hm a b ha hb => or_mean hm ha hb⟩
theorem act_xor : Act2 xorF (fun x y => x != y) 3 := ⟨fun hm a b => (xor_grow hm a b).1, fun hm a b => (xor_grow hm a b).2, fun ins hm a b ha hb => xor_mean hm ha hb⟩
/-- Bit by bit, the lowest first. -/
def zipF (f : List Gt → Int → Int → List Gt × Int) : List Gt → List Int → List Int → List Gt × List Int
  | g, x :: a, y :: b => ((zipF f (f g x y).1 a b).1, (f g x y).2 :: (zipF f (f g x y).1 a b).2)
  | g, _, _ => (g, [])
theorem zip_spec {f : List Gt → Int → Int → List Gt × Int} {op : Bool → Bool → Bool} {n : Nat} (F : Act2 f op n) : ∀ (a b : List Int) {g : List Gt}, a.length = b.length → May g → Wd g a → Wd g b →
    Grow g (zipF f g a b).1 (n * a.length) ∧ Wd (zipF f g a b).1 (zipF f g a b).2 ∧ (zipF f g a b).2.length = a.length ∧
    ∀ ins, bitsW ins (zipF f g a b).1 (zipF f g a b).2 = List.zipWith op (bitsW ins g a) (bitsW ins g b)
  | [], [], g, _, hm, _, _ => ⟨Grow.refl hm _, fun k hk => by simp [zipF] at hk, rfl, fun ins => rfl⟩
  | [], y :: b, g, h, _, _, _ => by simp at h
  | x :: a, [], g, h, _, _, _ => by simp at h
  | x :: a, y :: b, g, h, hm, ha, hb => by
    obtain ⟨hx, ha'⟩ := Wd.cons.1 ha
    obtain ⟨hy, hb'⟩ := Wd.cons.1 hb
    have g1 := F.grow hm x y
    have l1 := F.lit hm x y hx hy
    obtain ⟨p1, p2, p3, p4⟩ := zip_spec F a b (g := (f g x y).1) (by simpa using h) g1.may (ha'.grow g1) (hb'.grow g1)
    refine ⟨(g1.trans p1).mono (by simp [Nat.mul_add]; omega), ?_, by simp [zipF, p3], fun ins => ?_⟩
    · exact Wd.cons.2 ⟨p1.lit l1, p2⟩
    · have hq := p4 ins
      rw [bitsW_grow g1 ha', bitsW_grow g1 hb'] at hq
      show valF (allV ins (zipF f (f g x y).1 a b).1) (f g x y).2 :: bitsW ins (zipF f (f g x y).1 a b).1 (zipF f (f g x y).1 a b).2 = _
      rw [hq, val_grow p1 l1, F.mean ins hm x y hx hy]
      rfl
end Go.Proofs.Ytbilhiklfficoaa
