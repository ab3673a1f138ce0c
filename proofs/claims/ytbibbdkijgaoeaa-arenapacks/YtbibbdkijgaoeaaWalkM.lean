/- Contracts of the document's arena: a clause is added. -/
import Derived.Test.YtbibbdkijgaoeaaWalkK
import Derived.Deep.RegionHeld3
set_option linter.unusedVariables false
set_option linter.unusedSimpArgs false
namespace Go.Proofs.Ytbibbdkijgaoeaa
open Go.RowKit Go.Maps

theorem Try.info65 : (Try.prog.info? 65).map (fun i => (i.zero, i.size, i.bytes)) = some (some (.agg #[.slice none 0 0, .bool false]), 2, 32) := by kernel_rfl

set_option maxHeartbeats 800000 in
theorem refAdd_no (F : Nat → Prop) (w : World) (a : Option Addr) (cap : Nat) (L : List Itm) (ca : Option Addr) (cc : Nat) (c : List Int) (hr : Row w ca c) (hc : c.length ≤ 20000) (hno : mayB c 1048576 = false) :
    Calls Try.prog 19 #[.agg #[.slice a L.length cap], .slice ca c.length cc] w fun e w' => e = .returned (.tuple #[.agg #[.slice a L.length cap], .int .i64 0, .int .i64 1]) ∧ Below w.heap.size w w' := by
  have hB : Below w.heap.size w ((w.alloc (.cells #[.slice a L.length cap] 28)).alloc (.cells #[.slice none 0 0] 28)) := ((Below.refl _ _).alloc (Nat.le_refl _) _).alloc (by simp) _
  have G := hide (may_any ca cc c _ (hr.kp (Kp.of_below (S := fun _ => False) hB) (fun _ _ _ _ h => h)) (by unfold maxLen; omega))
  rw [hno] at G
  clear hr
  go_enter Try.func19, Try.ntmps19
  go_wp2_with (go_at_call 35; refine (unhide G).mono ?_; rintro e w0 ⟨rfl, hw0⟩; subst w0)
  refine bodyPost_ret (v := .tuple #[.agg #[.slice a L.length cap], .int .i64 0, .int .i64 1]) (by simp [results, Try.results19, go_sem]) rfl ⟨rfl, ?_⟩
  exact ((Below.refl _ _).alloc (Nat.le_refl _) _).alloc (by simp) _

/-- append onto a row of the call's own (not nil), of whatever is behind a slice, nil or not. -/
theorem run_append_any {P : Program} (w : World) (t ty : TypeId) (base : Nat) (e : TypeId) (i : TypeInfo) (z : Value) (size bytes : Nat) (ht : P.underlying t = some (.slice e)) (hi : P.info? e = some i) (hz : i.zero = some z)
    (hsize : i.size = size) (hby : i.bytes = bytes) (hzs : z.cells.size = size) (hsz : 0 < size)
    (v : Value) (n : Nat) (xs : List Value) (hown : w.ownsRow base e size v n xs) (hv : v ≠ .slice none 0 0)
    (a : Option Addr) (m c : Nat) (news : List Value) (hsrc : (a = none ∧ m = 0 ∧ c = 0 ∧ news = []) ∨ ∃ ad, a = some ad ∧ news.length = m * size ∧ ∀ j u, news[j]? = some u → w.cell? (ad.add j) = some u) (h1 : ∀ u ∈ news, u.oneCell' = true)
    (h63 : n + m ≤ maxLen) (hbytes : (n + m) * bytes ≤ 140737488355328) (hbase : base ≤ w.heap.size) :
    ∃ g cap w', (Builtin.append_ #[t, t] ty #[v, .slice a m c]).run P w = .ok (.slice (some ⟨g, 0, none⟩) (n + m) cap) w' ∧
      w'.ownsRow base e size (.slice (some ⟨g, 0, none⟩) (n + m) cap) (n + m) (xs ++ news) ∧ w.grownBy w' v.ownBlock ∧ (v.ownBlock = some g ∨ g = w.heap.size) ∧ g < w'.heap.size := by
  rcases hsrc with ⟨rfl, rfl, rfl, rfl⟩ | ⟨ad, rfl, hl, hnews⟩
  · have hrun := run_append_owned_none (P := P) (w := w) base t ty e i size ht hi v n xs hown
    have hown' := hown
    rcases hown.2 with ⟨h0, _⟩ | ⟨g, cap, cur, rfl, hb, hg, rest⟩
    · exact absurd h0 hv
    · exact ⟨g, cap, w, hrun, by simpa using hown', World.grownBy.refl _ _, .inl rfl, lt_of_block hg⟩
  · obtain ⟨v', w', hr, h2, h3, h4, h5⟩ := run_append_own_at (P := P) w base t ty e i z size bytes ht hi hz hsize hby hzs hsz v n xs hown ad m c news hl hnews h1 h63 hbytes hbase
    have hv' : v' ≠ .slice none 0 0 := fun e => hv (h4.1 e).1
    have h2' := h2
    rcases h2.2 with ⟨h0, _⟩ | ⟨g, cap, cur, rfl, hb, hg, rest⟩
    · exact absurd h0 hv'
    · refine ⟨g, cap, w', hr, h2', h3, ?_, lt_of_block hg⟩
      rcases h5 with h5 | h5
      · exact .inl h5.symm
      · exact .inr (by simpa [Value.ownBlock] using h5)

theorem wp_append_any {P : Program} {w : World} {o : Oper} {act : Act} {K : Act → World → Prop} {Q : Exit → Act → World → Prop} (s x : Operand) (t : TypeId)
    (ho : o.op = .call { callee := .builtin .append, args := #[s, x], argTypes := #[t, t] })
    (base : Nat) (e : TypeId) (i : TypeInfo) (z : Value) (size bytes : Nat) (ht : P.underlying t = some (.slice e)) (hi : P.info? e = some i) (hz : i.zero = some z)
    (hsize : i.size = size) (hby : i.bytes = bytes) (hzs : z.cells.size = size) (hsz : 0 < size)
    (v : Value) (n : Nat) (xs : List Value) (hs : act.eval s = v) (hown : w.ownsRow base e size v n xs) (hv : v ≠ .slice none 0 0)
    (a : Option Addr) (m c : Nat) (news : List Value) (hx : act.eval x = .slice a m c) (hsrc : (a = none ∧ m = 0 ∧ c = 0 ∧ news = []) ∨ ∃ ad, a = some ad ∧ news.length = m * size ∧ ∀ j u, news[j]? = some u → w.cell? (ad.add j) = some u) (h1 : ∀ u ∈ news, u.oneCell' = true)
    (h63 : n + m ≤ maxLen) (hbytes : (n + m) * bytes ≤ 140737488355328) (hbase : base ≤ w.heap.size)
    (h : ∀ g cap w', w'.ownsRow base e size (.slice (some ⟨g, 0, none⟩) (n + m) cap) (n + m) (xs ++ news) → w.grownBy w' v.ownBlock → (v.ownBlock = some g ∨ g = w.heap.size) → g < w'.heap.size → K (act.put o.dst (.slice (some ⟨g, 0, none⟩) (n + m) cap)) w') : o.wp P act w K Q := by
  obtain ⟨g, cap, w', hr, h2, h3, h4, h5⟩ := run_append_any (P := P) w t o.type base e i z size bytes ht hi hz hsize hby hzs hsz v n xs hown hv a m c news hsrc h1 h63 hbytes hbase
  unfold Oper.wp execOp
  simp only [ho, resolve, invoke, builtin, Sem.run_bind, Sem.run_pure, Result.andThen_ok, List.map_toArray, List.map_cons, List.map_nil, hs, hx, hr]
  exact h g cap w' h2 h3 h4 h5

theorem step_append_any {P : Program} {w : World} {ops : Array Oper} {o : Oper} {act : Act} {K : Act → World → Prop} {Q : Exit → Act → World → Prop} {E : Prop} (hgd : o.guard = none) (s x : Operand) (t : TypeId)
    (ho : o.op = .call { callee := .builtin .append, args := #[s, x], argTypes := #[t, t] })
    (base : Nat) (e : TypeId) (i : TypeInfo) (z : Value) (size bytes : Nat) (ht : P.underlying t = some (.slice e)) (hi : P.info? e = some i) (hz : i.zero = some z)
    (hsize : i.size = size) (hby : i.bytes = bytes) (hzs : z.cells.size = size) (hsz : 0 < size)
    (v : Value) (n : Nat) (xs : List Value) (hs : act.eval s = v) (hown : w.ownsRow base e size v n xs) (hv : v ≠ .slice none 0 0)
    (a : Option Addr) (m c : Nat) (news : List Value) (hx : act.eval x = .slice a m c) (hsrc : (a = none ∧ m = 0 ∧ c = 0 ∧ news = []) ∨ ∃ ad, a = some ad ∧ news.length = m * size ∧ ∀ j u, news[j]? = some u → w.cell? (ad.add j) = some u) (h1 : ∀ u ∈ news, u.oneCell' = true)
    (h63 : n + m ≤ maxLen) (hbytes : (n + m) * bytes ≤ 140737488355328) (hbase : base ≤ w.heap.size)
    (h : ∀ g cap w', w'.ownsRow base e size (.slice (some ⟨g, 0, none⟩) (n + m) cap) (n + m) (xs ++ news) → w.grownBy w' v.ownBlock → (v.ownBlock = some g ∨ g = w.heap.size) → g < w'.heap.size → K (act.put o.dst (.slice (some ⟨g, 0, none⟩) (n + m) cap)) w') :
    if Region.wanted o (yielded ops act.tmps) = true then Oper.wp P o act w K Q else E := by
  have hw : Region.wanted o (yielded ops act.tmps) = true := by simp [Region.wanted, hgd]
  rw [if_pos hw]
  exact wp_append_any s x t ho base e i z size bytes ht hi hz hsize hby hzs hsz v n xs hs hown hv a m c news hx hsrc h1 h63 hbytes hbase h

theorem wpList_append_any {P : Program} {w : World} {ops : Array Oper} {rest : List Oper} {o : Oper} {act : Act} {Q : Exit → Act → World → Prop} (hgd : o.guard = none) (s x : Operand) (t : TypeId)
    (ho : o.op = .call { callee := .builtin .append, args := #[s, x], argTypes := #[t, t] })
    (base : Nat) (e : TypeId) (i : TypeInfo) (z : Value) (size bytes : Nat) (ht : P.underlying t = some (.slice e)) (hi : P.info? e = some i) (hz : i.zero = some z)
    (hsize : i.size = size) (hby : i.bytes = bytes) (hzs : z.cells.size = size) (hsz : 0 < size)
    (v : Value) (n : Nat) (xs : List Value) (hs : act.eval s = v) (hown : w.ownsRow base e size v n xs) (hv : v ≠ .slice none 0 0)
    (a : Option Addr) (m c : Nat) (news : List Value) (hx : act.eval x = .slice a m c) (hsrc : (a = none ∧ m = 0 ∧ c = 0 ∧ news = []) ∨ ∃ ad, a = some ad ∧ news.length = m * size ∧ ∀ j u, news[j]? = some u → w.cell? (ad.add j) = some u) (h1 : ∀ u ∈ news, u.oneCell' = true)
    (h63 : n + m ≤ maxLen) (hbytes : (n + m) * bytes ≤ 140737488355328) (hbase : base ≤ w.heap.size)
    (h : ∀ g cap w', w'.ownsRow base e size (.slice (some ⟨g, 0, none⟩) (n + m) cap) (n + m) (xs ++ news) → w.grownBy w' v.ownBlock → (v.ownBlock = some g ∨ g = w.heap.size) → g < w'.heap.size → wpList P ops Q rest (act.put o.dst (.slice (some ⟨g, 0, none⟩) (n + m) cap)) w') : wpList P ops Q (o :: rest) act w :=
  wpList_plain hgd fun _ hK => wp_append_any s x t ho base e i z size bytes ht hi hz hsize hby hzs hsz v n xs hs hown hv a m c news hx hsrc h1 h63 hbytes hbase fun g cap w' h2 h3 h4 h5 => hK _ _ (h g cap w' h2 h3 h4 h5)

section
variable {F : Nat → Prop} {w w' : World}

theorem ItC.append : ∀ {cells : List Value} {L : List Itm} {cells' : List Value} {L' : List Itm}, ItC F w cells L → ItC F w cells' L' → ItC F w (cells ++ cells') (L ++ L')
  | [], [], _, _, _, h' => h'
  | v :: g :: r, it :: L, _, _, h, h' => ⟨h.1, ItC.append h.2 h'⟩
  | [], _ :: _, _, _, h, _ => h.elim
  | [_], _, _, _, h, _ => by cases ‹List Itm› <;> exact h.elim
  | _ :: _ :: _, [], _, _, h, _ => h.elim

theorem ItC.one : ∀ {cells : List Value} {L : List Itm}, ItC F w cells L → ∀ u ∈ cells, u.oneCell' = true
  | [], [], _, u, hu => by simp at hu
  | v :: g :: r, it :: L, h, u, hu => by
    rcases List.mem_cons.1 hu with rfl | hu
    · obtain ⟨ai, ci, rfl, _⟩ := h.1.1; rfl
    · rcases List.mem_cons.1 hu with rfl | hu
      · rw [h.1.2]; rfl
      · exact ItC.one h.2 u hu
  | [], _ :: _, h, _, _ => h.elim
  | [_], _, h, _, _ => by cases ‹List Itm› <;> exact h.elim
  | _ :: _ :: _, [], h, _, _ => h.elim

/-- From a row of the call's own to a list of clauses. -/
theorem ref_of_own {base g cap n : Nat} {cells : List Value} {L : List Itm} (ho : w.ownsRow base 65 2 (.slice (some ⟨g, 0, none⟩) n cap) n cells) (hI : ItC F w cells L) (hF : F g) : Ref F w (some ⟨g, 0, none⟩) cap L := by
  refine ⟨cells, hI, .inr ⟨g, 0, rfl, (ho.lt g rfl).2, hF, fun j u hu => ?_⟩⟩
  have := ho.cells (g := g) rfl j u hu
  rw [Addr.add_lit] at this
  exact this

/-- What is appended of a list of clauses. -/
theorem Ref.src {a : Option Addr} {cap : Nat} {L : List Itm} {cells : List Value} (hI : ItC F w cells L) (h : (a = none ∧ L = [] ∧ cap = 0) ∨ ∃ b off, a = some ⟨b, off, none⟩ ∧ b < w.heap.size ∧ F b ∧ ∀ j u, cells[j]? = some u → w.cell? ⟨b, off + j, none⟩ = some u) (hk : ∀ k, k < w.heap.size → F k → w'.heap[k]? = w.heap[k]?) :
    (a = none ∧ L.length = 0 ∧ cap = 0 ∧ cells = []) ∨ ∃ ad, a = some ad ∧ cells.length = L.length * 2 ∧ ∀ j u, cells[j]? = some u → w'.cell? (ad.add j) = some u := by
  rcases h with ⟨rfl, rfl, rfl⟩ | ⟨b, off, rfl, hb, hF, hc⟩
  · have := hI.len
    exact .inl ⟨rfl, rfl, rfl, List.eq_nil_of_length_eq_zero (by simpa using this)⟩
  · refine .inr ⟨_, rfl, by rw [hI.len]; omega, fun j u hu => ?_⟩
    rw [Addr.add_lit, World.cell?_of_block (w := w) (hk b hb hF)]
    exact hc j u hu
end

theorem own_lit0 (W : World) (base : Nat) (hb : base ≤ W.heap.size) : (W.alloc (.cells #[] 65)).ownsRow base 65 2 (.slice (some ⟨W.heap.size, 0, none⟩) 0 0) 0 [] :=
  World.ownsRow_made W #[] 0 hb (Nat.zero_le _) rfl

end Go.Proofs.Ytbibbdkijgaoeaa
