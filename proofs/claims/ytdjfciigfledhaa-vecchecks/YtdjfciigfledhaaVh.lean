/- A copy into a row of one's own; contracts: left, right. -/
import Derived.Test.YtdjfciigfledhaaVe
import Derived.Laws.CopyOwn
set_option linter.unusedVariables false
set_option linter.unusedSimpArgs false
namespace Go.Proofs.Ytdjfciigfledhaa
open Go.RowKit Go.Maps

theorem size3 : (Try.prog.info? 3).map (·.size) = some 1 := by kernel_rfl
theorem one_ints (xs : List Int) : ∀ v ∈ xs.map (Value.int .i64), v.oneCell' = true := by
  intro v hv; obtain ⟨x, _, rfl⟩ := List.mem_map.1 hv; rfl
theorem grown_setRow (w : World) (g : Nat) (cs : Array Value) : w.grownBy (w.setRow g cs) (some g) :=
  ⟨rfl, rfl, rfl, by simp [World.setRow], fun k hk hne => setRow_other w g k _ (fun e => hne (by rw [e]))⟩
theorem Rw.splice {w : World} {q off : Nat} {l cs : List Int} (h : Rw w q l) : Rw (w.setRow q ((l.map (Value.int .i64)).toArray.toList.take off ++ (cs.map (Value.int .i64) ++ (l.map (Value.int .i64)).toArray.toList.drop (off + (cs.map (Value.int .i64)).length))).toArray) q (l.take off ++ (cs ++ l.drop (off + cs.length))) := by
  unfold Rw
  rw [setRow_heap w q _ _ 3 _ h]
  simp [List.map_take, List.map_drop]
theorem Row.src {w : World} {b o : Nat} {cs : List Int} (h : Row w (some ⟨b, o, none⟩) cs) : ∀ j u, (cs.map (Value.int .i64))[j]? = some u → w.cell? ((⟨b, o, none⟩ : Addr).add j) = some u := by
  intro j u hu
  rw [List.getElem?_map] at hu
  obtain ⟨x, hx, rfl⟩ := Option.map_eq_some_iff.1 hu
  obtain ⟨hj, rfl⟩ := List.getElem?_eq_some_iff.1 hx
  obtain ⟨b', o', e, _, hc⟩ := h j hj
  cases e
  rw [Addr.add_lit]
  exact hc

section
variable {w : World} {ops : Array Oper} {rest : List Oper} {o : Oper} {a : Act} {Q : Exit → Act → World → Prop}
theorem wpList_copy_rw (hgd : o.guard = none) (d s : Operand) (dT sT : TypeId)
    (ho : o.op = .call { callee := .builtin .copy, args := #[d, s], argTypes := #[dT, sT] }) (hu : Try.prog.underlying dT = some (.slice 3))
    (q off dLen dCap b2 o2 sLen sCap : Nat) (hd : a.eval d = .slice (some ⟨q, off, none⟩) dLen dCap) (hs : a.eval s = .slice (some ⟨b2, o2, none⟩) sLen sCap)
    (l cs : List Int) (hq : Rw w q l) (hn : cs.length = Nat.min sLen dLen) (hr : Row w (some ⟨b2, o2, none⟩) cs) (hfit : off + cs.length ≤ l.length)
    (h : ∀ w', Rw w' q (l.take off ++ (cs ++ l.drop (off + cs.length))) → w.grownBy w' (some q) → wpList Try.prog ops Q rest (a.put o.dst (goInt cs.length)) w') : wpList Try.prog ops Q (o :: rest) a w := by
  refine wpList_copy_own hgd d s dT sT ho 3 hu size3 q off dLen dCap ⟨b2, o2, none⟩ sLen sCap hd hs _ 3 hq (cs.map (Value.int .i64)) (by simpa using hn) hr.src (by simpa using hfit) (one_ints cs) ?_
  have := h _ hq.splice (grown_setRow w q _)
  simpa using this
theorem step_copy_rw {K : Act → World → Prop} {E : Prop} (hgd : o.guard = none) (d s : Operand) (dT sT : TypeId)
    (ho : o.op = .call { callee := .builtin .copy, args := #[d, s], argTypes := #[dT, sT] }) (hu : Try.prog.underlying dT = some (.slice 3))
    (q off dLen dCap b2 o2 sLen sCap : Nat) (hd : a.eval d = .slice (some ⟨q, off, none⟩) dLen dCap) (hs : a.eval s = .slice (some ⟨b2, o2, none⟩) sLen sCap)
    (l cs : List Int) (hq : Rw w q l) (hn : cs.length = Nat.min sLen dLen) (hr : Row w (some ⟨b2, o2, none⟩) cs) (hfit : off + cs.length ≤ l.length)
    (h : ∀ w', Rw w' q (l.take off ++ (cs ++ l.drop (off + cs.length))) → w.grownBy w' (some q) → K (a.put o.dst (goInt cs.length)) w') :
    if Region.wanted o (yielded ops a.tmps) = true then Oper.wp Try.prog o a w K Q else E := by
  have hw : Region.wanted o (yielded ops a.tmps) = true := by simp [Region.wanted, hgd]
  rw [if_pos hw]
  have hrun := run_copy_row (P := Try.prog) w dT sT o.type 3 q off dLen dCap ⟨b2, o2, none⟩ sLen sCap _ 3 (cs.map (Value.int .i64)) hu size3 hq (by simpa using hn) hr.src (by simpa using hfit) (one_ints cs)
  unfold Oper.wp
  simp [execOp, ho, resolve, invoke, builtin, hd, hs, hrun, Result.andThen]
  have := h _ hq.splice (grown_setRow w q _)
  show K (a.put o.dst (goInt cs.length)) _
  simpa using this
end

theorem Ml.copy {w W W1 : World} {B M k n q : Nat} {v v' : Value} {g g' : List Gt} {l l' : List Int} (h : Ml w W B M v v' g g' k n q l) (hg : W.grownBy W1 (some q)) (hr : Rw W1 q l') (hl : l'.length = n) : Ml w W1 B M v v' g g' k n q l' :=
  ⟨h.st.turn h.new h.far hg, hr, hl, h.new, h.far⟩

section
variable (w : World) (B M : Nat) (v : Value) (g : List Gt)

set_option maxHeartbeats 1000000 in
theorem left_any (ax : Option Addr) (ca : Nat) (a : List Int) (n k : Nat) (A : List Bool → List Bool)
    (hA : Gr w B M v g) (hn : a.length = n) (h16 : n ≤ 16) (hk : k < n) (hr : Fr w B M v ax a) (ha : Wt g a A) :
    Calls Try.prog 62 #[.slice ax n ca, .int .i64 (k : Int)] w (WP w B M v g n 0 (fun ins => List.replicate k false ++ (A ins).take (n - k))) := by
  have mk := mk_any n (by omega)
  have hM := Ml.start hA n
  have HS := hide hM
  have hR1 := hM.st.fr hr
  obtain ⟨b, off, rfl⟩ := hr.addr (by omega)
  have HR := hide (hR1.row.take (n - k))
  have hlen : (a.take (n - k)).length = n - k := by simp; omega
  have HLEN := hide hlen
  have HWA := hide ha
  have hk1 : (k : Int) < n := by omega
  clear hA hr ha hn hM hR1 hlen
  go_enter Try.func62, Try.ntmps62
  go_wp2_with (refine wpList_copy_rw rfl _ _ 27 27 rfl Try.underlying27 w.heap.size k (n - k) (n - k) b off n ca (by rfl) (by rfl) (List.replicate n 0) (a.take (n - k)) HS.out.rw (by rw [HLEN.out]; show n - k = min n (n - k); omega) HR.out (by rw [HLEN.out, List.length_replicate]; omega) ?_; intro w2 hr2 hg2)
  have hl2 : ((List.replicate n (0 : Int)).take k ++ (a.take (n - k) ++ (List.replicate n (0 : Int)).drop (k + (a.take (n - k)).length))) = List.replicate k 0 ++ a.take (n - k) := by
    rw [HLEN.out, List.take_replicate, List.drop_replicate, show min k n = k by omega, show n - (k + (n - k)) = 0 by omega]
    simp
  rw [hl2] at hr2
  have hW := (HS.out.copy hg2 hr2 (by rw [List.length_append, HLEN.out]; simp; omega)).wp (((wt_zeros g k).append (HWA.out.take (n - k))))
  have HW := hide hW
  clear hW hr2 hg2 hl2
  go_wp2
  go_ret
  exact HW.out

set_option maxHeartbeats 1000000 in
theorem right_any (ax : Option Addr) (ca : Nat) (a : List Int) (n k : Nat) (A : List Bool → List Bool)
    (hA : Gr w B M v g) (hn : a.length = n) (h16 : n ≤ 16) (hk : k < n) (hca : n ≤ ca) (hr : Fr w B M v ax a) (ha : Wt g a A) :
    Calls Try.prog 63 #[.slice ax n ca, .int .i64 (k : Int)] w (WP w B M v g n 0 (fun ins => (A ins).drop k ++ List.replicate k false)) := by
  have mk := mk_any n (by omega)
  have hM := Ml.start hA n
  have HS := hide hM
  have hR1 := hM.st.fr hr
  obtain ⟨b, off, rfl⟩ := hr.addr (by omega)
  have HR := hide (hR1.drop k).row
  have hlen : (a.drop k).length = n - k := by simp; omega
  have HLEN := hide hlen
  have HWA := hide ha
  have hk1 : (k : Int) < n := by omega
  have hca1 : (n : Int) ≤ ca := by omega
  have hkc : ¬ ca = k := by omega
  clear hA hr ha hn hM hR1 hlen
  go_enter Try.func63, Try.ntmps63
  go_wp2_with (refine wpList_copy_rw rfl _ _ 27 27 rfl Try.underlying27 w.heap.size 0 n n b (off + k) (n - k) (ca - k) (by rfl) (by rfl) (List.replicate n 0) (a.drop k) HS.out.rw (by rw [HLEN.out]; show n - k = min (n - k) n; omega) HR.out (by rw [HLEN.out, List.length_replicate]; omega) ?_; intro w2 hr2 hg2)
  have hl2 : ((List.replicate n (0 : Int)).take 0 ++ (a.drop k ++ (List.replicate n (0 : Int)).drop (0 + (a.drop k).length))) = a.drop k ++ List.replicate k 0 := by
    rw [HLEN.out, List.drop_replicate, show n - (0 + (n - k)) = k by omega]
    simp
  rw [hl2] at hr2
  have hW := (HS.out.copy hg2 hr2 (by rw [List.length_append, HLEN.out]; simp; omega)).wp ((HWA.out.drop k).append (wt_zeros g k))
  have HW := hide hW
  clear hW hr2 hg2 hl2
  go_wp2
  go_ret
  exact HW.out
end
end Go.Proofs.Ytdjfciigfledhaa
