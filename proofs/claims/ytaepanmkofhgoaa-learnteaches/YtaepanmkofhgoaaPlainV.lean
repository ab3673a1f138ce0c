/- Why what is learned is true where the broken clause and all reasons are: also shortened. -/
import Derived.Test.YtaepanmkofhgoaaPlainI
set_option linter.unusedVariables false
set_option linter.unusedSimpArgs false
namespace Go.Proofs.Ytaepanmkofhgoaa

theorem cl_one {m c : List Int} : clauseI m c = 1 ↔ ∃ l ∈ c, valI m l = 1 := by
  constructor
  · intro h
    cases e : c.any (fun l => valI m l == 1) with
    | true => rw [List.any_eq_true] at e; obtain ⟨l, hl, h1⟩ := e; exact ⟨l, hl, by simpa using h1⟩
    | false =>
      exfalso
      cases e2 : c.any (fun l => valI m l == 0) with
      | true => rw [clauseI_zero e e2] at h; omega
      | false => rw [clauseI_low e e2] at h; omega
  · rintro ⟨l, hl, h⟩
    exact clauseI_one (by rw [List.any_eq_true]; exact ⟨l, hl, by simpa using h⟩)

theorem sgn_neg (x : Int) : sgn (-x) = - sgn x := by
  rcases sgn_cases x with ⟨h, e⟩ | ⟨h, e⟩ | ⟨h, e⟩ <;> rcases sgn_cases (-x) with ⟨g, f⟩ | ⟨g, f⟩ | ⟨g, f⟩ <;> omega

theorem valI_neg (m : List Int) (l : Int) : valI m (-l) = - valI m l := by
  unfold valI
  have e1 : litB (-l) 1048576 = litB l 1048576 := by
    rw [Bool.eq_iff_iff, litB_true, litB_true]; omega
  rw [e1, varI_neg, sgn_neg]
  split
  · rw [Int.mul_neg]
  · rfl

/-- A model by which all reasons hold. -/
structure Mdl (ts : List As) (m : List Int) : Prop where
  rs : ∀ i, i < ts.length → (nth ts i).rsn = [] ∨ clauseI m (nth ts i).rsn = 1

/-- Whatever goes has a reason. -/
theorem go_rsn {ts : List As} (T : Tr ts) {lv : Int} {i : Nat} {S : List Int} (h : InvL ts lv (i + 1) S) (hs : stopB ts lv S = false) (hh : hasB S (-(nth ts i).lit) = true) : (nth ts i).rsn ≠ [] := by
  intro e
  have hil := h.il
  have hc := stop_not hs
  have htop := h.top T hc.1 hh
  have hlev : (nth ts i).lev = prevL ts i + 1 := by
    rcases (okB_parts (T.ok i (by omega))).2.2 with ⟨_, hr⟩ | ⟨hl, _⟩
    · unfold rsnB at hr; rw [e] at hr; simp [hasB] at hr
    · exact hl
  have hpos : 0 < lv := by
    have : 0 ≤ prevL ts i := by
      cases i with
      | zero => rw [prevL_zero]; omega
      | succ i => rw [prevL_succ]; exact (T.lev_bd i (by omega)).1
    omega
  have hone : ∀ l ∈ S.filter (fun l => levI ts l == lv), l ∈ [-(nth ts i).lit] := by
    intro l hl
    rw [List.mem_filter] at hl
    have h1 := h.lev T hl.1
    have h2 : levI ts l = lv := by simpa using hl.2
    have hpi : pl ts l = i := by
      rcases Nat.lt_or_ge (pl ts l) i with hlt | hge
      · exfalso
        have h3 : (nth ts (pl ts l)).lev ≤ prevL ts i := by
          cases i with
          | zero => omega
          | succ i => rw [prevL_succ]; exact T.lev_mono i (by omega) (by omega)
        unfold levI at h2
        omega
      · omega
    have h4 := h1.2.2.1
    rw [hpi] at h4
    simp
    omega
  have hnd : (S.filter (fun l => levI ts l == lv)).Nodup := List.Pairwise.filter _ (ordered_nodup h.ord)
  have h5 := filter_le (p := fun _ => true) hnd hone
  have e1 : (S.filter (fun l => levI ts l == lv)).filter (fun _ => true) = S.filter (fun l => levI ts l == lv) := by simp
  rw [e1] at h5
  have h6 := hc.2 hpos
  unfold cnt at h6
  simp at h5
  omega

theorem step_true {ts : List As} (T : Tr ts) {m : List Int} (M : Mdl ts m) {lv : Int} {i : Nat} {S : List Int} (h : InvL ts lv (i + 1) S) (hs : stopB ts lv S = false) (ht : ∃ l ∈ S, valI m l = 1) : ∃ l ∈ stepL ts i S, valI m l = 1 := by
  have hil := h.il
  obtain ⟨l, hl, hv⟩ := ht
  unfold stepL
  split
  · rename_i hh
    by_cases e : l = -(nth ts i).lit
    · rcases M.rs i (by omega) with h0 | h1
      · exact absurd h0 (go_rsn T h hs hh)
      · obtain ⟨y, hy, hvy⟩ := cl_one.1 h1
        refine ⟨y, ?_, hvy⟩
        rw [foldl_mem]
        left
        rw [wo_mem]
        refine ⟨hy, fun e2 => ?_⟩
        rw [e, valI_neg] at hv
        rw [e2] at hvy
        omega
    · exact ⟨l, by rw [foldl_mem]; right; rw [wo_mem]; exact ⟨hl, e⟩, hv⟩
  · exact ⟨l, hl, hv⟩

theorem loop_true {ts : List As} (T : Tr ts) {m : List Int} (M : Mdl ts m) {lv : Int} : ∀ i S, InvL ts lv i S → (∃ l ∈ S, valI m l = 1) → ∃ l ∈ loopL ts lv i S, valI m l = 1
  | 0, S, _, ht => ht
  | i + 1, S, h, ht => by
    unfold loopL
    split
    · exact ht
    · rename_i hs
      exact loop_true T M i _ (h.step T) (step_true T M h (by simpa using hs) ht)

theorem learn_true {ts : List As} (T : Tr ts) {m c : List Int} (M : Mdl ts m) (hf : ∀ l ∈ c, falB ts l = true) (hl : c.length ≤ 100) (hc : clauseI m c = 1) : clauseI m (learnL ts c) = 1 := by
  obtain ⟨l, hlc, hv⟩ := cl_one.1 hc
  have hst := InvL.start T hf hl
  obtain ⟨j, hI, _⟩ := loopL_inv T _ _ hst
  obtain ⟨y, hy, hvy⟩ := loop_true T M _ _ hst ⟨l, order_mem.2 hlc, hv⟩
  exact cl_one.2 ⟨y, (turn_mem T (fun l hl => (hI.lev T hl).1)).2 hy, hvy⟩

theorem short_true {ts : List As} (T : Tr ts) {m L : List Int} (M : Mdl ts m) (hL : ∀ l ∈ L, falB ts l = true) (hc : clauseI m L = 1) : clauseI m (shortL ts L) = 1 := by
  have go : ∀ b y, falB ts y = true → pl ts y < b → valI m y = 1 → (y ∈ L ∨ idleAt ts L (pl ts y) = true) → ∃ z ∈ shortL ts L, valI m z = 1 := by
    intro b
    induction b with
    | zero => intro y _ h; omega
    | succ b ih =>
      intro y hf hp hv hor
      have main : idleAt ts L (pl ts y) = true → ∃ z ∈ shortL ts L, valI m z = 1 := by
        intro hid
        have h1 := T.fal hf
        rw [idle_eq T L h1.1] at hid
        simp only [Bool.and_eq_true, List.all_eq_true, decide_eq_true_eq] at hid
        rcases M.rs _ h1.1 with h0 | hr
        · rw [h0] at hid; simp at hid
        · obtain ⟨y', hy', hv'⟩ := cl_one.1 hr
          have hne : y' ≠ (nth ts (pl ts y)).lit := by
            intro e
            rw [e, h1.2.1, valI_neg] at hv'
            omega
          have h2 := hid.2 y' hy'
          have e3 : (y' == (nth ts (pl ts y)).lit) = false := by simpa using hne
          rw [e3, Bool.false_or, Bool.or_eq_true] at h2
          obtain ⟨i, hi, e⟩ := T.rsn h1.1 hy' hne
          have hpi := (T.pl_of (by omega) e).1
          exact ih y' (falB_iff.2 ⟨i, by omega, e⟩) (by omega) hv' (h2.imp (fun h => hasB_iff.1 h) id)
      rcases hor with hm | hid
      · obtain ⟨k, hk, e⟩ := List.mem_iff_getElem.1 hm
        cases hkp : keepB ts L k with
        | true => exact ⟨y, short_mem.2 ⟨k, hk, hkp, by rw [getD_at hk]; exact e⟩, hv⟩
        | false =>
          unfold keepB at hkp
          simp only [Bool.or_eq_false_iff, Bool.not_eq_false'] at hkp
          rw [getD_at hk, e] at hkp
          exact main hkp.2
      · exact main hid
  obtain ⟨y, hy, hv⟩ := cl_one.1 hc
  obtain ⟨z, hz, hvz⟩ := go (pl ts y + 1) y (hL y hy) (by omega) hv (.inl hy)
  exact cl_one.2 ⟨z, hz, hvz⟩

end Go.Proofs.Ytaepanmkofhgoaa
