/- Joined: Contract: a clause is noted by what is common to all that are like it. Contract: each clause is noted by what is common to all that are like it. Contract: the first clause that has the same literals goes, where nobody has asked yet and nothing is decided. Contracts: the formula that a keeper keeps. Which clauses are left where the first that has a text is taken out: plain. Contract: a clause is put behind the others, where clauses are noted by their literals. Contract: a new keeper does a step. -/
import Derived.Test.YtlmbgaconjcaiabRiAll
import Derived.Test.YtlmbgaconjcaiabNormAll
import Derived.StringKeys
import Derived.Test.YtlmbgaconjcaiabRIAll
import Derived.Deep.CutBlock
set_option linter.unusedVariables false
set_option linter.unusedSimpArgs false
namespace Go.Proofs.Ytlmbgaconjcaiab
open Go.RowKit

theorem nodup_key : ∀ {l : List MapEntry}, (l.map (·.key)).Nodup → ∀ {x y : MapEntry}, x ∈ l → y ∈ l → x.key = y.key → x = y
  | [], _, _, _, hx, _, _ => by simp at hx
  | z :: r, hn, x, y, hx, hy, e => by
    simp only [List.map_cons, List.nodup_cons] at hn
    rcases List.mem_cons.1 hx with h1 | h1
    · rcases List.mem_cons.1 hy with h2 | h2
      · rw [h1, h2]
      · exact absurd (by rw [← h1, e]; exact List.mem_map_of_mem h2) hn.1
    · rcases List.mem_cons.1 hy with h2 | h2
      · exact absurd (by rw [← h2, ← e]; exact List.mem_map_of_mem h1) hn.1
      · exact nodup_key hn.2 h1 h2 e
/-- What is looked up hangs on the map's block alone. -/
theorem Gro.look {P : Program} {k e t E : TypeId} {σ : Nat → Rl} {w W W' : World} {g base n : Nat} {F : Lit → List Int} (h : Gro P k e σ w g base n F) (K : Maps.Keyed P k) (ht : P.underlying t = some (.map k E)) {z : Value} (hz : ∀ W, (zeroValue E).run P W = .ok z W) {key : Value} {kl : Lit} (hkey : keyOf P k key = some kl) (hW : W.heap[g]? = w.heap[g]?) (hW' : W'.heap[g]? = w.heap[g]?) {v : Value}
    (hr : (Instr.lookup t (.map (some g)) key false).run P W = .ok v W) : (Instr.lookup t (.map (some g)) key false).run P W' = .ok v W' := by
  obtain ⟨⟨D, ⟨es, clock, hb, Ft, hs, hD, hbb, hlen, hap⟩, hat⟩, hro, hrows⟩ := h
  rcases Maps.fit_look false K ht (hz W) (hW.trans hb) Ft hkey with ⟨h1, h2, _⟩ | ⟨e0, y, hm0, h3, h1, _⟩
  · rw [hr] at h1
    simp at h1
    subst h1
    rcases Maps.fit_look false K ht (hz W') (hW'.trans hb) Ft hkey with ⟨q1, _, _⟩ | ⟨e1, y1, hm1, q3, q1, _⟩
    · simpa using q1
    · exact absurd q3 (h2 e1 hm1)
  · rw [hr] at h1
    simp at h1
    subst h1
    rcases Maps.fit_look false K ht (hz W') (hW'.trans hb) Ft hkey with ⟨q1, q2, _⟩ | ⟨e1, y1, hm1, q3, q1, _⟩
    · exact absurd h3 (q2 e0 hm0)
    · have := nodup_key Ft.stamped.2.2 hm0 hm1 (h3.trans q3.symm)
      subst this
      simpa using q1
theorem grown_dd (w : World) (o : Obj) (row : Option Nat) : w.drew.grownBy (w.alloc o).drew row :=
  ⟨rfl, rfl, rfl, by show w.heap.size ≤ (w.alloc o).heap.size; simp, fun b hb _ => Below.heap_alloc w o b hb⟩

theorem law9 : Maps.Keyed Try.prog 9 := Maps.string_keyed Try.underlying9
/-- Rows by texts. -/
def strF (f : List UInt8 → List Int) : Lit → List Int
  | .string x => f x
  | _ => []
def updS (f : List UInt8 → List Int) (l : List UInt8) (zs : List Int) : List UInt8 → List Int := fun x => if x = l then zs else f x
theorem updS_same (f : List UInt8 → List Int) (l : List UInt8) (zs : List Int) : updS f l zs l = zs := if_pos rfl
theorem updS_other (f : List UInt8 → List Int) {l x : List UInt8} (zs : List Int) (h : x ≠ l) : updS f l zs x = f x := if_neg h

section
variable {σ : Nat → Rl} {w : World} {g base n : Nat} {f : List UInt8 → List Int}
theorem gro_at9 (h : Gro Try.prog 9 3 σ w g base n (strF f)) (hn : n < maxLen) (hfr : ∀ b, w.heap.size ≤ b → σ b = oth) (s : ByteArray) (hs : s.size ≤ maxLen) :
    ∃ a cap, (Instr.lookup 50 (.map (some g)) (.string s) false).run Try.prog w = .ok (.slice a (f s.data.toList).length cap) w ∧ w.ownsInts base 3 .i64 (.slice a (f s.data.toList).length cap) (f s.data.toList) ∧ (f s.data.toList).length ≤ n ∧ (∀ b, Value.ownBlock (.slice a (f s.data.toList).length cap) = some b → σ b = oth) ∧
      ∀ (w1 : World) (v' : Value) (zs' : List Int), w.grownBy w1 (Value.ownBlock (.slice a (f s.data.toList).length cap)) → w1.ownsInts base 3 .i64 v' zs' → zs'.length ≤ n + 1 → (v'.ownBlock = Value.ownBlock (.slice a (f s.data.toList).length cap) ∨ ∃ b, v'.ownBlock = some b ∧ w.heap.size ≤ b) →
        ∃ w2, (Instr.mapUpdate 50 (.map (some g)) (.string s) v').run Try.prog w1 = .ok () w2 ∧ Gro Try.prog 9 3 σ w2 g base (n + 1) (strF (updS f s.data.toList zs')) ∧ w1.grownBy w2 (some g) := by
  obtain ⟨v, hr, ho, hl, hro, hb⟩ := h.at (t := 50) (E := 32) law9 Try.underlying50 (zero25 w) hn (WideMaps.keyOf_string_mk Try.underlying9 hs)
  obtain ⟨a, cap, rfl, _⟩ := own_form ho.1
  refine ⟨a, cap, hr, ho, hl, hro, fun w1 v' zs' g1 g2 g3 g4 => ?_⟩
  refine hb w1 v' zs' σ (strF (updS f s.data.toList zs')) g1 g2 g3 g4 (fun _ _ => rfl) (fun b e => ?_) (updS_same f _ zs') (fun q hq => ?_)
  · rcases g4 with g4 | ⟨c, g4, g5⟩
    · exact hro b (g4.symm.trans e)
    · rw [g4] at e; cases e; exact hfr _ g5
  · cases q with
    | string x =>
      by_cases e : x = s.data.toList
      · subst e; exact (hq rfl).elim
      · exact updS_other f zs' e
    | _ => rfl
end

/-- A clause is noted by its text. -/
def alkC (n : Int) (f : List UInt8 → List Int) (c : List Int) : List UInt8 → List Int := updS f (txt (order c)).data.toList (f (txt (order c)).data.toList ++ [n])

set_option maxHeartbeats 4000000 in
set_option maxRecDepth 100000 in
theorem noteAlike_any {σ : Nat → Rl} {w : World} {g base sz k : Nat} {f : List UInt8 → List Int} (hk : w.cell? ⟨k, 5, none⟩ = some (.map (some g))) (hkb : k < base) (hkg : k ≠ g) (hkl : k < w.heap.size)
    (hG : Gro Try.prog 9 3 σ w g base sz (strF f)) (hfr : ∀ b, w.heap.size ≤ b → σ b = oth) (hbase : base ≤ w.heap.size) (n : Nat) (hn : n ≤ 1048576) (a : Option Addr) (cap : Nat) (c : List Int) (hr : Row w a c) (hl : c.length ≤ 4096) (hcap : a = none → cap = 0) (hsz : sz ≤ 4000000000)
    (hc : mayB c 1048576 = true) :
    Calls Try.prog 33 #[.pointer (some ⟨k, 0, none⟩), .int .i64 (n : Int), .slice a c.length cap] w fun e w' => e = .returned (.tuple #[]) ∧ Gro Try.prog 9 3 σ w' g base (sz + 1) (strF (alkC n f c)) ∧ NF base g σ w w' := by
  obtain ⟨i0, hi, hz0, hz1, hz2⟩ := info_parts Try.info3
  have GC := hide (common_any a cap c w hr hl hcap hc)
  have hts := txt_size (order c)
  have hol := order_len c
  have HG := hide hG
  have HFR := hide hfr
  have HK := hide hk
  clear hG hr hc hfr hk
  have HTS : Hid ((txt (order c)).size ≤ maxLen) := by unfold Hid maxLen; omega
  clear hts hol
  unfold alkC
  generalize txt (order c) = T at *
  go_enter Try.func33, Try.ntmps33
  go_upto_region 1 with (go_at_call 34; refine (unhide GC).mono ?_; rintro e w1 ⟨rfl, hb1⟩)
  have HN1 : Hid (NF base g σ w w1) := NF.below hb1
  have hws : w.heap.size ≤ w1.heap.size := hb1.size
  have hG1 : Gro Try.prog 9 3 σ w1 g base sz (strF f) := HG.out.ev (fun _ _ => rfl) (fun b hb _ => hb1.block b hb)
  have hG1d : Gro Try.prog 9 3 σ w1.drew g base sz (strF f) := hG1.ev (fun _ _ => rfl) (fun _ _ _ => rfl)
  have hfr1 : ∀ b, w1.drew.heap.size ≤ b → σ b = oth := fun b hb => HFR.out b (by have : w1.drew.heap.size = w1.heap.size := rfl; omega)
  have k5 : w1.cell? ⟨k, 5, none⟩ = some (.map (some g)) := (hb1.cell (p := ⟨k, 5, none⟩) hkl).trans HK.out
  obtain ⟨a1, cap1, hlook, hoi, hzl, hro, hback⟩ := gro_at9 hG1d (by unfold maxLen; omega) hfr1 T HTS.out
  have HRO := hide hro
  have HRG := hide hG1.ro
  have HBK := hide hback
  have HOI := hide hoi
  have HRL : Hid (g < w1.heap.size) := hG1.lt.1
  have HGL : Hid (∀ W', W'.heap[g]? = w1.heap[g]? → (Instr.lookup 50 (.map (some g)) (.string T) false).run Try.prog W' = .ok (.slice a1 (f T.data.toList).length cap1) W') := fun W' hW' => hG1.look law9 Try.underlying50 zero25 (WideMaps.keyOf_string_mk Try.underlying9 HTS.out) (W := w1.drew) rfl hW' hlook
  clear hG1 hG1d hb1 HG GC hro hback hfr1
  generalize hzs : f T.data.toList = zs at *
  have HZS := hide hzs
  clear hzs
  have HOW := hide (hoi.1)
  clear hoi
  have HAP : Hid (∀ (W : World), w1.drew.grownBy W (Value.ownBlock (.slice a1 zs.length cap1)) → ∀ (g3 cap3 : Nat) (w3 : World), w3.ownsRow base 3 1 (.slice (some ⟨g3, 0, none⟩) (zs.length + 1) cap3) (zs.length + 1) (zs.map (Value.int .i64) ++ [.int .i64 (n : Int)]) → W.grownBy w3 (Value.ownBlock (.slice a1 zs.length cap1)) → (Value.ownBlock (.slice a1 zs.length cap1) = some g3 ∨ g3 = w1.heap.size + 1) →
      w3.cell? ⟨k, 5, none⟩ = some (.map (some g)) ∧ ∃ w4, (Instr.mapUpdate 50 (.map (some g)) (.string T) (.slice (some ⟨g3, 0, none⟩) (zs.length + 1) cap3)).run Try.prog w3 = .ok () w4 ∧ Hid (Gro Try.prog 9 3 σ w4 g base (sz + 1) (strF (updS f T.data.toList (zs ++ [(n : Int)])))) ∧ Hid (NF base g σ w w4)) := by
    intro W hW g3 cap3 w3 ho hg hat
    have hg1 := hW.trans hg
    have hoi3 := HOI.out.appended ho (i64_wf (by omega) (by omega))
    obtain ⟨w4, h1, h2, h3⟩ := HBK.out w3 (.slice (some ⟨g3, 0, none⟩) (zs.length + 1) cap3) (zs ++ [(n : Int)]) hg1 hoi3 (by simp; omega) (by
      rcases hat with hat | hat
      · exact .inl hat.symm
      · exact .inr ⟨g3, rfl, by show w1.heap.size ≤ g3; omega⟩)
    have hNF : NF base g σ w1 w3 := (NF.below (w := w1) (w' := w1.drew) ⟨rfl, rfl, rfl, Nat.le_refl _, fun _ _ => rfl⟩).trans (NF.grown hg1 (fun b e => ⟨HRO.out b e, .inl (HOI.out.1.lt b e).1⟩))
    exact ⟨(hNF.cell (Nat.lt_of_lt_of_le hkl hws) (.inr ⟨hkb, hkg⟩)).trans k5, w4, h1, h2, HN1.out.trans (hNF.trans (NF.grown h3 (fun b e => by cases e; exact ⟨HRG.out, .inr rfl⟩)))⟩
  have HB : Hid (base ≤ w1.heap.size) := Nat.le_trans hbase hws
  have hkf : ∀ o : Obj, (w1.alloc o).cell? ⟨k, 5, none⟩ = some (.map (some g)) := fun o => (World.cell?_of_block (a := ⟨k, 5, none⟩) (Below.heap_alloc w1 o k (Nat.lt_of_lt_of_le hkl hws))).trans k5
  have hlook2 : ∀ o, (Instr.lookup 50 (.map (some g)) (.string T) false).run Try.prog (w1.alloc o).drew = .ok (.slice a1 zs.length cap1) (w1.alloc o).drew := fun o => HGL.out (w1.alloc o).drew (Below.heap_alloc w1 o g HRL.out)
  have hga := hide (grown_dd w1 (.cells #[.int .i64 (n : Int)] 3) (Value.ownBlock (.slice a1 zs.length cap1)))
  clear HOI HBK HRO
  go_region_law (refine step_append_lies _ rfl (.tmp 19) (.tmp 21) 32 rfl base 3 i0 (.int .i64 0) 1 8 Try.underlying32 hi hz0 hz1 hz2 rfl (by decide) (.slice a1 zs.length cap1) zs.length _ (by rfl) (own_same (HOW.out.alloc _) (fun _ _ => rfl)) ⟨w1.heap.size, 0, none⟩ 1 1 [.int .i64 (n : Int)] (by rfl) (by rfl) (World.news_of_block (cs := #[.int .i64 (n : Int)]) (t := 3) (fr := (0, 0)) (show (w1.alloc (.cells #[.int .i64 (n : Int)] 3)).drew.heap[w1.heap.size]? = _ from heap_alloc_new w1 _)) (by simp [Value.oneCell']) (by decide) (by unfold maxLen; omega) (by omega) (by have := HB.out; simp; omega) (w1.heap.size + 1) (by simp) ?_; intro g3 cap3 w3 ho3 hgr3 hat3 hlt3; obtain ⟨hk3, w4, hr4, HG4, HN4⟩ := HAP.out _ hga.out g3 cap3 w3 ho3 hgr3 hat3)
  all_goals
    clear HAP HOW hkf hk3 ho3 hgr3 hat3 hlt3 hr4 k5 hlook hga
    go_wp2
    go_end0
    exact ⟨rfl, by rw [HZS.out]; exact HG4.out, HN4.out⟩
end Go.Proofs.Ytlmbgaconjcaiab

namespace Go.Proofs.Ytlmbgaconjcaiab
open Go.RowKit

theorem own_cap {base : Nat} {w : World} {a : Option Addr} {n cap : Nat} {xs : List Int} (h : Own base w (.slice a n cap) xs) : a = none → cap = 0 := by
  rintro rfl
  rcases h.2 with ⟨e, _⟩ | ⟨g, cap', cur, e, _⟩
  · simp at e; exact e.2
  · simp at e
/-- All clauses that are there are noted by their texts. -/
def alkL : List Cl → Nat → (List UInt8 → List Int) → List UInt8 → List Int
  | [], _, f => f
  | c :: r, j, f => alkL r (j + 1) (if c.gone then f else alkC j f c.lits)
theorem alkL_snoc : ∀ (l : List Cl) (j : Nat) (f : List UInt8 → List Int) (c : Cl), alkL (l ++ [c]) j f = if c.gone then alkL l j f else alkC ((j + l.length : Nat) : Int) (alkL l j f) c.lits
  | [], j, f, c => by simp [alkL]
  | d :: r, j, f, c => by
    show alkL (r ++ [c]) (j + 1) _ = _
    rw [alkL_snoc r (j + 1)]
    show _ = if c.gone then alkL r (j + 1) _ else alkC ((j + (r.length + 1) : Nat) : Int) (alkL r (j + 1) _) c.lits
    rw [show j + 1 + r.length = j + (r.length + 1) by omega]
theorem may_lt {c : List Int} {V : Nat} (h : ∀ x ∈ c, Lt V x) (hV : V ≤ 1048576) (hl : c.length ≤ 4096) : mayB c 1048576 = true := by
  unfold mayB
  simp only [Bool.and_eq_true, decide_eq_true_eq, List.all_eq_true]
  refine ⟨by omega, fun x hx => ?_⟩
  have := h x hx
  unfold Lt at this
  exact litB_true.2 ⟨this.1, by omega, by omega⟩

set_option maxHeartbeats 4000000 in
set_option maxRecDepth 100000 in
theorem each_alk {ρ σ : Nat → Rl} {w : World} {g base k B : Nat} {H : Hd} {s : PS} (hk0 : w.cell? ⟨k, 0, none⟩ = some (.pointer (some ⟨B, 0, none⟩))) (hk3 : w.cell? ⟨k, 3, none⟩ = some (.int .i64 (s.cls.length : Int))) (hk5 : w.cell? ⟨k, 5, none⟩ = some (.map (some g))) (hkb : k < base) (hkg : k ≠ g) (hkl : k < w.heap.size)
    (hR : Rep ρ w B H s) (hI : Inv s) (hlits : ∀ c ∈ s.cls, c.lits.length ≤ 4096) (hcl : s.cls.length ≤ 10000)
    (hG : Gro Try.prog 9 3 σ w g base 0 (fun _ => [])) (hfr : ∀ b, w.heap.size ≤ b → σ b = oth) (hrs : ∀ b, b < w.heap.size → ρ b ≠ oth → σ b ≠ oth) (hbase : base ≤ w.heap.size) :
    Calls Try.prog 32 #[.pointer (some ⟨k, 0, none⟩), .func (.func 33) #[.pointer (some ⟨k, 0, none⟩)] #[]] w fun e w' => e = .returned (.tuple #[]) ∧ Gro Try.prog 9 3 σ w' g base (s.cls.length) (strF (alkL s.cls 0 (fun _ => []))) ∧ NF base g σ w w' := by
  have HG : Hid (Gro Try.prog 9 3 σ w g base 0 (strF (alkL (s.cls.take 0) 0 (fun _ => [])))) := by
    have e : (strF (alkL (s.cls.take 0) 0 (fun _ => []))) = fun _ => [] := by
      funext q
      cases q with
      | string x => rfl
      | _ => rfl
    unfold Hid; rw [e]; exact hG
  have HR := hide hR
  have HI := hide hI
  have HL := hide hlits
  have HFR := hide hfr
  have HRS := hide hrs
  clear hG hR hI hlits hfr hrs
  go_enter Try.func32, Try.ntmps32
  go_wp2
  go_loopw [11] (fun j wr => ∃ i : Nat, i ≤ s.cls.length ∧ j = .int .i64 (i : Int) ∧ Hid (Gro Try.prog 9 3 σ wr g base i (strF (alkL (s.cls.take i) 0 (fun _ => [])))) ∧ Hid (NF base g σ w wr)) (fun j _ => s.cls.length - (intOf j).toNat)
  case atStart => exact ⟨0, Nat.zero_le _, rfl, HG, NF.refl _ _ _ _⟩
  case round =>
    obtain ⟨i, hi', rfl, HG1, HN1⟩ := hrel
    clear HG
    have k0 := (HN1.out.cell (o := 0) hkl (.inr ⟨hkb, hkg⟩)).trans hk0
    have k5 := (HN1.out.cell (o := 5) hkl (.inr ⟨hkb, hkg⟩)).trans hk5
    have hws : w.heap.size ≤ wr.heap.size := HN1.out.size
    by_cases hlt : i < s.cls.length
    · have hii : (i : Int) < s.cls.length := by omega
      have hRr := HR.out.off (fun b hb hr => HN1.out.keep b hb (.inl (HRS.out b hb hr)))
      have hci := List.getElem?_eq_getElem hlt
      have hli := HL.out s.cls[i] (List.getElem_mem hlt)
      have HS : Hid (alkL (s.cls.take (i + 1)) 0 (fun _ => []) = if s.cls[i].gone then alkL (s.cls.take i) 0 (fun _ => []) else alkC (i : Int) (alkL (s.cls.take i) 0 (fun _ => [])) s.cls[i].lits) := by
        unfold Hid
        rw [List.take_succ_eq_append_getElem hlt, alkL_snoc, List.length_take, Nat.min_eq_left (by omega), Nat.zero_add]
      have hlx : mayB s.cls[i].lits 1048576 = true := may_lt (fun x hx => HI.out.wt.ok i s.cls[i] hci x hx) HI.out.sz.vars hli
      generalize alkL (s.cls.take i) 0 (fun _ => []) = f1 at *
      generalize s.cls[i] = c at *
      cases hg : c.gone with
      | true =>
        have G := hide (propClause_no hRr (i : Int) (.inr (.inr ⟨c, by omega, by simpa using hci, hg⟩)) (by omega))
        rw [hg] at HS
        clear hRr hci
        go_wp2_with (go_at_call 41; refine (unhide G).mono ?_; rintro e w1 ⟨rfl, hw1⟩; subst w1)
        go_roundw
        case rel => exact ⟨i + 1, by omega, by go_num, by unfold Hid; rw [HS.out]; exact HG1.out.mono (by omega), HN1⟩
        case measure => simp [intOf]; omega
      | false =>
        rw [hg] at HS
        have G : Hid (Calls Try.prog 41 #[.pointer (some ⟨B, 0, none⟩), .int .i64 (i : Int)] wr fun e w1 => ∃ a cap, e = .returned (.tuple #[.slice a c.lits.length cap, .bool true]) ∧ Calls Try.prog 33 #[.pointer (some ⟨k, 0, none⟩), .int .i64 (i : Int), .slice a c.lits.length cap] w1 fun e w' => e = .returned (.tuple #[]) ∧ Hid (Gro Try.prog 9 3 σ w' g base (i + 1) (strF (alkC (i : Int) f1 c.lits))) ∧ Hid (NF base g σ w w')) := by
          refine (propClause_yes hRr i c hci hg (by omega) (by omega)).mono ?_
          rintro e w1 ⟨v, rfl, ho, hb⟩
          obtain ⟨a, cap, rfl, hrow, _⟩ := ho.row
          have hcap : a = none → cap = 0 := own_cap ho
          refine ⟨a, cap, rfl, ?_⟩
          have hfr1 : ∀ b, w1.heap.size ≤ b → σ b = oth := fun b hb' => HFR.out b (by have := hb.size; omega)
          have := noteAlike_any (σ := σ) (w := w1) (k := k) (f := f1) ((hb.cell (p := ⟨k, 5, none⟩) (Nat.lt_of_lt_of_le hkl hws)).trans k5) hkb hkg (by have := hb.size; omega) (HG1.out.ev (fun _ _ => rfl) (fun b hbb _ => hb.block b hbb)) hfr1 (by have := hb.size; omega) i (by omega) a cap c.lits hrow hli hcap (by omega) hlx
          refine this.mono ?_
          rintro e w2 ⟨rfl, q1, q2⟩
          exact ⟨rfl, q1, HN1.out.trans ((NF.below hb).trans q2)⟩
        clear hRr hci
        go_wp2_with (first
          | (go_at_call 41; refine (unhide G).mono ?_; rintro e w1 ⟨a, cap, rfl, G2⟩; replace G2 := hide G2)
          | (go_at_call 33; refine (unhide G2).mono ?_; rintro e w2 ⟨rfl, HG2, HN2⟩))
        go_roundw
        case rel => exact ⟨i + 1, by omega, by go_num, by unfold Hid; rw [HS.out]; exact HG2.out, HN2⟩
        case measure => simp [intOf]; omega
    · obtain rfl : i = s.cls.length := by omega
      have HG2 := HG1.out
      rw [List.take_length] at HG2
      replace HG2 := hide HG2
      clear HG1
      go_wp2
      go_end0
      exact ⟨rfl, HG2.out, HN1.out⟩
end Go.Proofs.Ytlmbgaconjcaiab

namespace Go.Proofs.Ytlmbgaconjcaiab
open Go.RowKit Go.ChangeMaps Go.MapKept

/-- Whatever is stored at a key: the map's block turns alone. -/
theorem Gro.put {P : Program} {k e t E : TypeId} {σ : Nat → Rl} {w W : World} {g base n : Nat} {F : Lit → List Int} (h : Gro P k e σ w g base n F) (K : Maps.Keyed P k) (ht : P.underlying t = some (.map k E)) (hn : n < maxLen) {key : Value} {kl : Lit} (hkey : keyOf P k key = some kl) (hW : W.heap[g]? = w.heap[g]?) (v : Value) :
    ∃ w2, (Instr.mapUpdate t (.map (some g)) key v).run P W = .ok () w2 ∧ W.grownBy w2 (some g) := by
  obtain ⟨⟨D, ⟨es, clock, hb, Ft, hs, hD, hbb, hlen, hap⟩, hat⟩, hro, hrows⟩ := h
  have hb1 := hW.trans hb
  let R' : Value → Option (DataW Unit × List MemPlace) := fun u => match rowElem (H := Unit) w base e .i64 u with | some z => some z | none => some (.nil, [])
  have hR' : ∃ yv, R' v = some yv := by
    simp only [R']
    cases rowElem (H := Unit) w base e .i64 v with
    | none => exact ⟨_, rfl⟩
    | some z => exact ⟨z, rfl⟩
  obtain ⟨yv, hyv⟩ := hR'
  obtain ⟨es', clock', hrun', _⟩ := Maps.fit_store (R' := R') K ht hb1 Ft (Nat.lt_of_le_of_lt hs hn) (fun x _ _ z hz => by simp only [R', hz]) hkey hyv
  refine ⟨_, hrun', rfl, rfl, rfl, ?_, fun b hb hne => heap_setBlock_other hb1 _ (fun e => hne (by rw [e]))⟩
  show W.heap.size ≤ (setBlock W g _).heap.size
  simp [setBlock]

/-- What remove leaves: the number that is struck, or nothing. -/
def RemP (ρ : Nat → Rl) (w : World) (k B : Nat) (s : PS) (x1 x2 x4 : Int) (m2 : Value) (c : List Int) (e : Ending) (w' : World) : Prop :=
  e = .returned (.tuple #[]) ∧ ∃ ρ' g, EvN k ρ w ρ' w' ∧
    ((alkL s.cls 0 (fun _ => []) (txt (order c)).data.toList = [] ∧ KP ρ' w' k B s x1 x2 (s.cls.length : Int) x4 (.map (some g)) m2) ∨
     ∃ z r i d, alkL s.cls 0 (fun _ => []) (txt (order c)).data.toList = z :: r ∧ z = ((i : Nat) : Int) ∧ s.cls[i]? = some d ∧ d.gone = false ∧ KP ρ' w' k B (s.drop i d) x1 (x2 - 1) (s.cls.length : Int) x4 (.map (some g)) m2)

theorem alkL_here : ∀ (l : List Cl) (j : Nat) (f : List UInt8 → List Int) (T : List UInt8) (z : Int), z ∈ alkL l j f T → z ∈ f T ∨ ∃ (i : Nat) (c : Cl), l[i]? = some c ∧ c.gone = false ∧ z = ((j + i : Nat) : Int)
  | [], j, f, T, z, h => .inl h
  | d :: r, j, f, T, z, h => by
    rcases alkL_here r (j + 1) _ T z h with h1 | ⟨i, c, h1, h2, h3⟩
    · cases hg : d.gone with
      | true => rw [hg] at h1; exact .inl h1
      | false =>
        rw [hg] at h1
        simp only [Bool.false_eq_true, if_false] at h1
        unfold alkC at h1
        by_cases e : T = (txt (order d.lits)).data.toList
        · subst e
          rw [updS_same, List.mem_append] at h1
          rcases h1 with h1 | h1
          · exact .inl h1
          · exact .inr ⟨0, d, rfl, hg, by simpa using h1⟩
        · rw [updS_other _ _ e] at h1; exact .inl h1
    · exact .inr ⟨i + 1, c, by simpa using h1, h2, by rw [h3]; congr 1; omega⟩
theorem new_rsn {s : PS} (hI : Inv s) (ht : s.trail = []) (i : Nat) {c : Cl} (hc : s.cls[i]? = some c) : s.rsnB i c.lits = false := by
  unfold PS.rsnB
  rw [List.any_eq_false]
  intro x hx
  have hv := hI.tr.vl x (hI.wt.ok i c hc x hx)
  have h0 : s.val x = 0 := by rw [hv, ht]; exact tval_zero.2 ⟨by simp, by simp⟩
  simp [h0]
theorem KP.setAlk {ρ : Nat → Rl} {w : World} {k B : Nat} {s : PS} {x1 x2 x3 x4 : Int} {m1 m2 : Value} (h : KP ρ w k B s x1 x2 x3 x4 m1 m2) (u : Value) : KP ρ (w.setCell ⟨k, 5, none⟩ u) k B s x1 x2 x3 x4 u m2 := by
  obtain ⟨H, hR⟩ := h.rep
  obtain ⟨o1, o2⟩ := setOff w k 5 u
  exact ⟨⟨H, hR.off (fun b hb' hr => o1 b (by rintro rfl; exact hr h.ro))⟩, (setBlk h.blk u).trans (by simp), h.ro, h.inv, h.cnt, h.lits⟩

set_option maxHeartbeats 4000000 in
set_option maxRecDepth 100000 in
theorem remove_new {ρ : Nat → Rl} {w : World} {k B : Nat} {s : PS} {x1 x2 x4 : Int} {m2 : Value} (h : KP ρ w k B s x1 x2 (s.cls.length : Int) x4 (.map none) m2) (hcl : s.cls.length ≤ 10000) (ht : s.trail = []) (a : Option Addr) (cap : Nat) (c : List Int) (hr : RowO ρ w.heap.size w a c) (hak : ∀ b off, a = some ⟨b, off, none⟩ → c ≠ [] → b ≠ k) (hl : c.length ≤ 4096) (hcap : a = none → cap = 0) (hc : mayB c 1048576 = true) (hx2 : 0 ≤ x2 ∧ x2 ≤ 262144) :
    Calls Try.prog 24 #[.pointer (some ⟨k, 0, none⟩), .slice a c.length cap] w (RemP ρ w k B s x1 x2 x4 m2 c) := by
  have hkl := lt_of_block h.blk
  have c5 : w.cell? ⟨k, 5, none⟩ = some (.map none) := cell_of_block h.blk rfl
  have z5 : w.frozen? ⟨k, 5, none⟩ = false := frz_of_block h.blk
  have hmm := @run_makeMap Try.prog
  have heq := run_eql_map_nil (P := Try.prog) w 50 _ _ none Try.underlying50
  have HK := hide h
  have HR := hide hr
  have HT := hide ht
  have hne : k ≠ w.heap.size := by omega
  clear h hr ht
  go_enter Try.func24, Try.ntmps24
  go_upto_region 2 with fail
  refine forget (P := fun W => Code.wp Try.prog _ _ _ W) (fun W => Hid (KP (fr ρ w.heap.size) W k B s x1 x2 (s.cls.length : Int) x4 (.map (some w.heap.size)) m2) ∧ Hid (Gro Try.prog 9 3 (fr ρ w.heap.size) W w.heap.size (w.heap.size + 1) 0 (fun _ => [])) ∧ Hid (EvN k ρ w (fr ρ w.heap.size) W) ∧ Hid (w.heap.size + 1 ≤ W.heap.size)) ?_ ?_
  · obtain ⟨o1, o2⟩ := setOff w k 5 (.map (some w.heap.size))
    have hb := below_alloc (w.setCell ⟨k, 5, none⟩ (.map (some w.heap.size))) (.map #[] 0)
    have hK1 := (HK.out.setAlk (.map (some w.heap.size))).fr hb
    have hal : ((w.setCell ⟨k, 5, none⟩ (.map (some w.heap.size))).alloc (.map #[] 0)).heap[(w.setCell ⟨k, 5, none⟩ (.map (some w.heap.size))).heap.size]? = some (.map #[] 0) := (MapKept.heap_alloc _ _).1
    have hE := (((Ev.refl ρ w).evN k).setCell (i := 5) (.map (some w.heap.size))).trans ((Ev.fr (ρ := ρ) hb).evN k)
    rw [o2] at hK1 hal hE
    refine ⟨hK1, gro_empty hal (fr_new (Nat.le_refl _)) (Nat.lt_succ_self _), hE, ?_⟩
    show _ ≤ _
    simp [o2]
  rintro W1 ⟨HK1, HG1, HE1, HS1⟩
  have HK1' := HK1
  obtain ⟨H1, hR1⟩ := HK1.out.rep
  have EA := hide (each_alk (ρ := fr ρ w.heap.size) (σ := fr ρ w.heap.size) (w := W1) (g := w.heap.size) (base := w.heap.size + 1) (k := k) (cell_of_block HK1.out.blk rfl) (cell_of_block HK1.out.blk rfl) (cell_of_block HK1.out.blk rfl) (by omega) hne (lt_of_block HK1.out.blk) hR1 HK1.out.inv HK1.out.lits hcl HG1.out (fun b hb => fr_new (by have := HS1.out; omega)) (fun _ _ h => h) HS1.out)
  clear hR1 c5 z5 hmm heq HK
  have HRW : Hid (∀ W', EvN k ρ w (fr ρ w.heap.size) W' → Row W' a c) := by
    intro W' hE i hi
    obtain ⟨b, off, e, hb, hro, _, hcell⟩ := HR.out i hi
    exact ⟨b, off, e, Nat.lt_of_lt_of_le hb hE.size, (World.cell?_of_block (a := ⟨b, off + i, none⟩) (hE.keep b hb (hak b off e (by rintro rfl; simp at hi)) hro)).trans hcell⟩
  clear HR
  generalize hgg : w.heap.size = g at *
  have HGG := hide hgg
  clear hgg
  go_upto_region 3 with (go_at_call 32; refine (unhide EA).mono ?_; rintro e W2 ⟨rfl, hG2, hN2⟩)
  have HK2 := hide (HK1.out.nf hN2 (by omega) hne)
  have HE2 : Hid (EvN k ρ w (fr ρ g) W2) := by
    refine ⟨hN2.os.trans HE1.out.os, hN2.tape.trans HE1.out.tape, hN2.output.trans HE1.out.output, Nat.le_trans HE1.out.size hN2.size, HE1.out.agree, fun b hb hbk hr => ?_⟩
    rw [HGG.out] at hb
    exact (hN2.keep b (by have := HS1.out; omega) (.inr ⟨by omega, by omega⟩)).trans (HE1.out.keep b (by rw [HGG.out]; exact hb) hbk hr)
  have HS2 : Hid (g + 1 ≤ W2.heap.size) := Nat.le_trans HS1.out hN2.size
  have HG2 := hide hG2
  have GC := hide (common_any a cap c W2 (HRW.out W2 HE2.out) hl hcap hc)
  clear hG2 hN2 EA HK1 HG1 HE1 HS1 HK1'
  have HTS : Hid ((txt (order c)).size ≤ maxLen) := by
    have hts := txt_size (order c)
    have hol := order_len c
    unfold Hid maxLen; omega
  have HF : Hid (∀ z ∈ alkL s.cls 0 (fun _ => []) (txt (order c)).data.toList, ∃ (i : Nat) (d : Cl), s.cls[i]? = some d ∧ d.gone = false ∧ z = (i : Int)) := by
    intro z hz
    rcases alkL_here s.cls 0 _ _ z hz with h | ⟨i, d, h1, h2, h3⟩
    · simp at h
    · exact ⟨i, d, h1, h2, by rw [h3, Nat.zero_add]⟩
  unfold RemP
  generalize hTT : txt (order c) = T at *
  generalize hFF : alkL s.cls 0 (fun _ => []) = F at *
  have HTT := hide hTT
  have HFF := hide hFF
  clear hTT hFF
  go_upto_region 4 with (go_at_call 34; refine (unhide GC).mono ?_; rintro e W3 ⟨rfl, hb3⟩)
  have HK3 := hide (HK2.out.below hb3)
  have HG3 : Hid (Gro Try.prog 9 3 (fr ρ g) W3 g (g + 1) (s.cls.length) (strF F)) := HG2.out.ev (fun _ _ => rfl) (fun b hb _ => hb3.block b hb)
  have HE3 : Hid (EvN k ρ w (fr ρ g) W3) := HE2.out.trans ⟨hb3.os, hb3.tape, hb3.output, hb3.size, fun _ _ => rfl, fun b hb _ _ => hb3.block b hb⟩
  have HS3 : Hid (g + 1 ≤ W3.heap.size) := Nat.le_trans HS2.out hb3.size
  clear hb3 HK2 HG2 HE2 HS2 GC HRW
  obtain ⟨a1, cap1, hlook, hoi, hzl, hro, _⟩ := gro_at9 HG3.out (by unfold maxLen; omega) (fun b hb => fr_new (by have := HS3.out; omega)) T HTS.out
  have k5 : W3.cell? ⟨k, 5, none⟩ = some (.map (some g)) := cell_of_block HK3.out.blk rfl
  have HPUT : Hid (∀ W v, W.heap[g]? = W3.heap[g]? → ∃ w2, (Instr.mapUpdate 50 (.map (some g)) (.string T) v).run Try.prog W = .ok () w2 ∧ W.grownBy w2 (some g)) := fun W v hW => HG3.out.put law9 Try.underlying50 (by unfold maxLen; omega) (WideMaps.keyOf_string_mk Try.underlying9 HTS.out) hW v
  cases hzs : F T.data.toList with
  | nil =>
    rw [hzs] at hlook
    have HZS := hide hzs
    clear hoi hro hzs
    go_wp2
    go_end0
    exact ⟨rfl, _, g, HE3.out, .inl ⟨by rw [HTT.out, HFF.out]; exact HZS.out, HK3.out⟩⟩
  | cons z r =>
    obtain ⟨i, d, hd1, hd2, hzi⟩ := HF.out z (by rw [hzs]; simp)
    rw [hzs] at hlook hoi hro hzl
    have HZS := hide hzs
    clear hzs HF
    obtain ⟨g3, cap3, ev, hc1, hc2, hglt⟩ := own_some hoi.1 (by simp)
    simp at ev
    obtain ⟨rfl, rfl⟩ := ev
    have hg3 := (hoi.1.lt g3 rfl).1
    have hc0 := own_cell (i := 0) hoi.1 rfl (u := .int .i64 z) (by simp)
    have hlen : (z :: r).length = r.length + 1 := rfl
    rw [hlen] at hlook hc1
    have HRO := hide (hro g3 rfl)
    clear hoi hro hzl hlen
    generalize r.length = n at *
    unfold maxLen at hc2
    have hn1 : ((n + 1 : Nat) : Int) ≠ 0 := by omega
    have hnz : (((n + 1 : Nat) : Int) == 0) = false := by simp; omega
    have hkw : k < W3.heap.size := lt_of_block HK3.out.blk
    have fin : Hid (∀ W4, W3.drew.grownBy W4 (some g) → KP (fr ρ g) W4 k B s x1 x2 (s.cls.length : Int) x4 (.map (some g)) m2 ∧ W4.cell? ⟨g3, 0, none⟩ = some (.int .i64 z) ∧ EvN k ρ w (fr ρ g) W4) := by
      intro W4 hg4
      have hg4' : W3.grownBy W4 (some g) := ⟨hg4.os, hg4.tape, hg4.output, hg4.size, hg4.block⟩
      refine ⟨HK3.out.grown hg4' (fun b e => by cases e; exact ⟨HG3.out.ro, by omega⟩), (World.cell?_of_block (a := ⟨g3, 0, none⟩) (hg4'.block g3 hglt (by simp; omega))).trans hc0, ?_⟩
      refine ⟨hg4.os.trans HE3.out.os, hg4.tape.trans HE3.out.tape, hg4.output.trans HE3.out.output, Nat.le_trans HE3.out.size hg4.size, HE3.out.agree, fun b hb hbk hr => (hg4'.block b (by rw [HGG.out] at hb; have := HS3.out; omega) (by rw [HGG.out] at hb; simp; omega)).trans (HE3.out.keep b hb hbk hr)⟩
    have hnr := new_rsn HK3.out.inv HT.out i hd1
    have HLI : Hid (∀ e ∈ (s.drop i d).cls, e.lits.length ≤ 4096) := by
      intro e he
      rw [drop_cls] at he
      rcases List.mem_or_eq_of_mem_set he with h | h
      · exact HK3.out.lits e h
      · rw [h]; simp
    have hDI := drop_inv HK3.out.inv HK3.out.cnt hd1 hd2 (fun x hx hv he => by
      unfold PS.rsnB at hnr
      rw [List.any_eq_false] at hnr
      exact hnr x hx (by simp [hv, he]))
    have HDI := hide hDI
    have HDR : Hid (∀ W m, KP (fr ρ g) W k B s x1 x2 (s.cls.length : Int) x4 (.map (some g)) m2 → EvN k ρ w (fr ρ g) W → Calls Try.prog 35 #[.pointer (some ⟨B, 0, none⟩), .int .i64 z] (W.drewN m) fun e w' => e = .returned (.int .i64 0) ∧ ∃ ρ5, Hid (KP ρ5 w' k B (s.drop i d) x1 x2 (s.cls.length : Int) x4 (.map (some g)) m2) ∧ Hid (EvN k ρ w ρ5 w')) := by
      intro W m hK hE
      obtain ⟨H, hR⟩ := (hK.drewN m).rep
      rw [hzi]
      refine (drop_ok hR hK.inv hK.cnt i d hd1 hd2 hnr).mono ?_
      rintro e w' ⟨rfl, ρ5, H5, hR5, hE5⟩
      exact ⟨rfl, ρ5, (hK.drewN m).ev hR5 HDI.out.1 HDI.out.2 HLI.out hE5, (hE.drewN m).trans (hE5.evN k)⟩
    have HRES : Hid (∀ ρ5 w', KP ρ5 w' k B (s.drop i d) x1 (x2 - 1) (s.cls.length : Int) x4 (.map (some g)) m2 → EvN k ρ w ρ5 w' → RemP ρ w k B s x1 x2 x4 m2 c (.returned (.tuple #[])) w') := fun ρ5 w' hK hE =>
      ⟨rfl, ρ5, g, hE, .inr ⟨z, r, i, d, by rw [HTT.out, HFF.out]; exact HZS.out, hzi, hd1, hd2, hK⟩⟩
    have hzb : 0 ≤ z ∧ z ≤ 1048576 := by
      have h1 := (List.getElem?_eq_some_iff.1 hd1).1
      omega
    clear hDI hnr hd1 hd2 hzi HLI HDI
    have HK3' := hide HK3.out
    have part : ∀ v : Value, ∃ W4, (Instr.mapUpdate 50 (.map (some g)) (.string T) v).run Try.prog W3.drew = .ok () W4 ∧ Hid (KP (fr ρ g) W4 k B s x1 x2 (s.cls.length : Int) x4 (.map (some g)) m2) ∧ W4.cell? ⟨g3, 0, none⟩ = some (.int .i64 z) ∧ Hid (EvN k ρ w (fr ρ g) W4) := by
      intro v
      obtain ⟨W4, hr4, hg4⟩ := HPUT.out W3.drew v rfl
      obtain ⟨f1, f2, f3⟩ := fin.out W4 hg4
      exact ⟨W4, hr4, f1, f2, f3⟩
    have PART := hide part
    clear part fin HPUT HK3' HRO
    go_upto_region 6 with fail
    go_cut [] from 30 to 36 (fun wx => Hid (KP (fr ρ g) wx k B s x1 x2 (s.cls.length : Int) x4 (.map (some g)) m2) ∧ wx.cell? ⟨g3, 0, none⟩ = some (.int .i64 z) ∧ Hid (EvN k ρ w (fr ρ g) wx))
    case first =>
      by_cases hcc : cap1 = 1
      · subst hcc
        obtain rfl : n = 0 := by omega
        obtain ⟨W4, hr4, K4, c4, E4⟩ := PART.out (.slice (some ⟨g3, 0, none⟩) 0 0)
        clear PART
        go_region
        all_goals
          go_wp2_with fail
          go_meet
          case rel => exact ⟨K4, c4, E4⟩
      · obtain ⟨W4, hr4, K4, c4, E4⟩ := PART.out (.slice (some ⟨g3, 1, none⟩) n (cap1 - 1))
        clear PART
        go_region
        all_goals
          go_wp2_with fail
          go_meet
          case rel => exact ⟨K4, c4, E4⟩
    case rest =>
    obtain ⟨K4, c4, E4⟩ := hcut
    clear hlook k5 hc0 PART HK3 HG3 HE3 HS3
    have k0 : wc.cell? ⟨k, 0, none⟩ = some (.pointer (some ⟨B, 0, none⟩)) := cell_of_block K4.out.blk rfl
    have HD4 := hide (fun m => HDR.out wc m K4.out E4.out)
    clear HDR
    go_upto_region 7 with fail
    go_cut [45] from 37 to 45 (fun y wx => y = .bool false ∧ ∃ ρ5, Hid (KP ρ5 wx k B (s.drop i d) x1 x2 (s.cls.length : Int) x4 (.map (some g)) m2) ∧ Hid (EvN k ρ w ρ5 wx))
    case first =>
      go_region_with (first | (go_at_call 35; refine (unhide HD4 _).mono ?_; rintro e w5 ⟨rfl, ρ5, K5, E5⟩))
      all_goals
        go_wp2_with fail
        go_meet
        case rel => exact ⟨rfl, ρ5, K5, E5⟩
    case rest =>
    obtain ⟨rfl, ρ5, K5, E5⟩ := hcut
    clear K4 E4 c4 k0 HD4
    have c2 : wc.cell? ⟨k, 2, none⟩ = some (.int .i64 x2) := cell_of_block K5.out.blk rfl
    have z2 : wc.frozen? ⟨k, 2, none⟩ = false := frz_of_block K5.out.blk
    have K6 : Hid (KP ρ5 (wc.setCell ⟨k, 2, none⟩ (.int .i64 (x2 - 1))) k B (s.drop i d) x1 (x2 - 1) (s.cls.length : Int) x4 (.map (some g)) m2) := K5.out.set rfl
    have E6 := hide (E5.out.setCell (i := 2) (.int .i64 (x2 - 1)))
    obtain ⟨hx2a, hx2b⟩ := hx2
    go_wp2
    go_end0
    exact HRES.out ρ5 _ K6.out E6.out
end Go.Proofs.Ytlmbgaconjcaiab

namespace Go.Proofs.Ytlmbgaconjcaiab
open Go.RowKit

/-- The clauses that are there. -/
def liveL (cls : List Cl) : List (List Int) := (cls.filter (fun c => !c.gone)).map (·.lits)
theorem liveL_snoc (l : List Cl) (c : Cl) : liveL (l ++ [c]) = if c.gone then liveL l else liveL l ++ [c.lits] := by
  unfold liveL
  rw [List.filter_append, List.map_append]
  cases h : c.gone <;> simp [h]

/-- A box with a formula in the making. -/
structure Fb (base : Nat) (w W : World) (X : Nat) (V : Int) (cv : Value) (css : List (List Int)) : Prop where
  hd : W.heap[X]? = some (.cells #[.int .i64 V, cv] 24 (0, 0))
  og : OG base W cv css
  lX : X < base
  bs : base = w.heap.size
  gr : w.grownBy W (some X)
section
variable {base : Nat} {w W W' : World} {X : Nat} {V : Int} {cv : Value} {css : List (List Int)}
theorem Fb.below (h : Fb base w W X V cv css) (hb : Below W.heap.size W W') : Fb base w W' X V cv css :=
  ⟨(hb.block X (lt_of_block h.hd)).trans h.hd, h.og.below hb, h.lX, h.bs, grownBy_trans h.gr (below_grown hb _)⟩
end

theorem Fb.grow {base : Nat} {w W w3 : World} {X : Nat} {V : Int} {cv : Value} {css : List (List Int)} {L g cap cl ucap : Nat} {ua : Option Addr} {vs : List Value} {c : List Int} {o : Obj} (h : Fb base w W X V cv css) (h1 : W.ownsRow base 32 1 cv L vs) (h2 : ∀ i (h : i < css.length), ∃ u, vs[i]? = some u ∧ Own base W u css[i]) (hu : Own base W (.slice ua cl ucap) c) (hL : L = css.length)
    (ho : w3.ownsRow base 32 1 (.slice (some ⟨g, 0, none⟩) (L + 1) cap) (L + 1) (vs ++ [.slice ua cl ucap])) (hg : (W.alloc o).grownBy w3 cv.ownBlock) :
    w3.heap[X]? = W.heap[X]? ∧ Fb base w (w3.setCell ⟨X, 1, none⟩ (.slice (some ⟨g, 0, none⟩) (L + 1) cap)) X V (.slice (some ⟨g, 0, none⟩) (L + 1) cap) (css ++ [c]) := by
  have hX := lt_of_block h.hd
  have hW : W.grownBy w3 cv.ownBlock := ⟨hg.os, hg.tape, hg.output, Nat.le_trans (by simp) hg.size, fun b hb hne => (hg.block b (by simp; omega) hne).trans (Below.heap_alloc W o b hb)⟩
  have hne : cv.ownBlock ≠ some X := fun e => by
    obtain ⟨cur, hc⟩ := own_block h1 e
    rw [h.hd] at hc
    simp at hc
  have hX3 : w3.heap[X]? = W.heap[X]? := hW.block X hX (fun e => hne e.symm)
  have hX3' := hX3.trans h.hd
  subst hL
  have og3 : OG base w3 (.slice (some ⟨g, 0, none⟩) (css.length + 1) cap) (css ++ [c]) := OG.snoc h1 h2 hu ho hW
  refine ⟨hX3, ?_, og3.setCell hX3', h.lX, h.bs, ?_⟩
  · rw [setBlk hX3' _]; simp
  · have hb3 : w.grownBy w3 (some X) := ⟨hW.os.trans h.gr.os, hW.tape.trans h.gr.tape, hW.output.trans h.gr.output, Nat.le_trans h.gr.size hW.size, fun b hb hnx => by
      refine (hW.block b (Nat.lt_of_lt_of_le hb h.gr.size) (fun e => ?_)).trans (h.gr.block b hb hnx)
      have := (h1.lt b e.symm).1
      have := h.bs
      omega⟩
    exact grownBy_trans hb3 (grownBy_set _ _ _ _)

end Go.Proofs.Ytlmbgaconjcaiab

namespace Go.Proofs.Ytlmbgaconjcaiab

/-- A clause's text. -/
def tx (c : List Int) : List UInt8 := (txt (order c)).data.toList
/-- The numbers of the clauses that have a text. -/
def idxL : List Cl → Nat → List UInt8 → List Int
  | [], _, _ => []
  | c :: r, j, T => if c.gone = false ∧ tx c.lits = T then (j : Int) :: idxL r (j + 1) T else idxL r (j + 1) T
/-- Clauses without the first that has a text. -/
def remB : List (List Int) → List UInt8 → List (List Int)
  | [], _ => []
  | d :: r, T => if tx d = T then r else d :: remB r T

theorem alkL_idx (T : List UInt8) : ∀ (l : List Cl) (j : Nat) (f : List UInt8 → List Int), alkL l j f T = f T ++ idxL l j T
  | [], j, f => by simp [alkL, idxL]
  | c :: r, j, f => by
    show alkL r (j + 1) _ T = _
    rw [alkL_idx T r (j + 1)]
    cases hg : c.gone with
    | true => simp [idxL, hg]
    | false =>
      simp only [Bool.false_eq_true, if_false, idxL, hg, true_and]
      by_cases e : tx c.lits = T
      · rw [if_pos e]
        have : alkC (j : Int) f c.lits T = f T ++ [(j : Int)] := by
          unfold alkC
          rw [← e]
          exact updS_same _ _ _
        rw [this]; simp
      · rw [if_neg e]
        have : alkC (j : Int) f c.lits T = f T := by
          unfold alkC
          exact updS_other _ _ (fun h => e h.symm)
        rw [this]

theorem idxL_ge (T : List UInt8) : ∀ (l : List Cl) (j : Nat) (z : Int), z ∈ idxL l j T → (j : Int) ≤ z
  | [], j, z, h => by simp [idxL] at h
  | c :: r, j, z, h => by
    unfold idxL at h
    split at h
    · rcases List.mem_cons.1 h with h | h
      · omega
      · have := idxL_ge T r (j + 1) z h; omega
    · have := idxL_ge T r (j + 1) z h; omega

theorem liveL_cons (c : Cl) (r : List Cl) : liveL (c :: r) = if c.gone then liveL r else c.lits :: liveL r := by
  unfold liveL
  cases hg : c.gone <;> simp [List.filter_cons, hg]

theorem rem_none (T : List UInt8) : ∀ (l : List Cl) (j : Nat), idxL l j T = [] → remB (liveL l) T = liveL l
  | [], j, h => rfl
  | c :: r, j, h => by
    unfold idxL at h
    split at h
    · simp at h
    · rename_i hn
      rw [liveL_cons]
      cases hg : c.gone with
      | true => simp only [if_true]; exact rem_none T r (j + 1) h
      | false =>
        simp only [Bool.false_eq_true, if_false, remB]
        rw [if_neg (fun e => hn ⟨hg, e⟩), rem_none T r (j + 1) h]

theorem rem_first (T : List UInt8) (d' : Cl) (hd : d'.gone = true) : ∀ (l : List Cl) (j : Nat) (z : Int) (q : List Int), idxL l j T = z :: q → ∀ i : Nat, z = ((j + i : Nat) : Int) → liveL (l.set i d') = remB (liveL l) T
  | [], j, z, q, h, i, hi => by simp [idxL] at h
  | c :: r, j, z, q, h, i, hi => by
    unfold idxL at h
    split at h
    · rename_i hy
      have hz : (j : Int) = z := (List.cons.inj h).1
      obtain rfl : i = 0 := by omega
      rw [List.set_cons_zero, liveL_cons, hd, if_pos rfl, liveL_cons, hy.1]
      simp only [Bool.false_eq_true, if_false, remB]
      rw [if_pos hy.2]
    · rename_i hn
      have hge := idxL_ge T r (j + 1) z (by rw [h]; simp)
      obtain ⟨i, rfl⟩ : ∃ m, i = m + 1 := ⟨i - 1, by omega⟩
      have ih := rem_first T d' hd r (j + 1) z q h i (by rw [hi]; congr 1; omega)
      rw [List.set_cons_succ, liveL_cons, liveL_cons, ih]
      cases hg : c.gone with
      | true => simp
      | false =>
        simp only [Bool.false_eq_true, if_false, remB]
        rw [if_neg (fun e => hn ⟨hg, e⟩)]

theorem liveL_keys {l : List Cl} {css : List (List Int)} (h : l.map key = css.map (fun c => (c, false))) : liveL l = css := by
  induction l generalizing css with
  | nil => cases css with
    | nil => rfl
    | cons x r => simp at h
  | cons c r ih => cases css with
    | nil => simp at h
    | cons x q =>
      simp only [List.map_cons, List.cons.injEq] at h
      have h1 : c.lits = x := congrArg Prod.fst h.1
      have h2 : c.gone = false := congrArg Prod.snd h.1
      rw [liveL_cons, h2, ih h.2, h1]
      rfl

/-- Where a clause is told by its first literal behind what was settled, it is told from the beginning. -/
theorem firstB_up {s u : PS} {d1 d2 : List Int} {c : List Int} {l : Int} {ns : List Int} {b : Bool} (hG : Grw s u d1) (h : FirstB u d2 c l ns b) : FirstB s (d1 ++ d2) c l ns b := by
  have ft : ∀ {rest : List Int} {b : Bool}, FT u d2 c rest b → FT s (d1 ++ d2) c rest b := by
    rintro rest b ⟨t, ds, hI, hg, hd, hT⟩
    exact ⟨t, ds, hI, by have := hG.trans hg; rwa [← List.append_assoc] at this, hd, hT⟩
  have one : ∀ {z : Int} {b : Bool}, FOne u d2 c l z b → FOne s (d1 ++ d2) c l z b := by
    rintro z b ⟨i, L, h1, h2, h3⟩
    refine ⟨i, L, h1, by rw [← hG.cl]; exact h2, ?_⟩
    rcases h3 with ⟨a1, a2, a3⟩ | ⟨a1, a2 | a3⟩
    · exact .inl ⟨a1, a2, ft a3⟩
    · exact .inr ⟨a1, .inl a2⟩
    · exact .inr ⟨a1, .inr (ft a3)⟩
  rcases h with ⟨h1, h2⟩ | ⟨h1, z, h2, h3⟩
  · exact .inl ⟨h1, fun z hz => one (h2 z hz)⟩
  · exact .inr ⟨h1, z, h2, one h3⟩
end Go.Proofs.Ytlmbgaconjcaiab

namespace Go.Proofs.Ytlmbgaconjcaiab
open Go.RowKit Go.ChangeMaps Go.MapKept Go.ChangeShapes
open Go.WideElems (Fit rd rg pl rd_val elemAt)

/-- What is nobody's stayed, but for one block: so did the map, if it has none of it. -/
theorem Gro.evK {P : Program} {k e : TypeId} {ρ ρ' : Nat → Rl} {w w' : World} {g base n q : Nat} {F : Lit → List Int} (h : Gro P k e ρ w g base n F) (ha : ∀ b, b < w.heap.size → ρ' b = ρ b) (hk : ∀ b, b < w.heap.size → b ≠ q → ρ b = oth → w'.heap[b]? = w.heap[b]?) (hq : q < base) (hqg : q ≠ g) : Gro P k e ρ' w' g base n F := by
  obtain ⟨⟨D, ⟨es, clock, hb, Ft, hs, hD, hbb, hlen, hap⟩, hat⟩, hro, hrows⟩ := h
  have hg := lt_of_block hb
  have hb' : w'.heap[g]? = some (.map es clock) := (hk g hg (Ne.symm hqg) hro).trans hb
  have stay : ∀ x ∈ es.toList, ∀ zs, w.ownsInts base e .i64 x.val zs → w'.ownsInts base e .i64 x.val zs := fun x hx zs ho =>
    ⟨own_same ho.1 (fun b hbk => hk b (ho.1.lt b hbk).2 (by have := (ho.1.lt b hbk).1; omega) (hrows es clock hb x hx b hbk)), ho.2⟩
  have hs2 : ∀ x ∈ es.toList, ∀ z, rowElem (H := Unit) w base e .i64 x.val = some z → rowElem w' base e .i64 x.val = some z := by
    intro x hx z hz
    obtain ⟨ys, ho, rfl⟩ := rowElem_inv hz
    exact rowElem_mk (stay x hx ys ho)
  obtain ⟨F2, hmap2, _⟩ := Ft.stay hs2
  refine ⟨⟨D, ⟨es, clock, hb', F2, hs, by rw [hmap2]; exact hD, hbb, ?_, hap⟩, hat⟩, (ha g hg).trans hro, ?_⟩
  · intro x hx zs ho
    obtain ⟨y, hy⟩ := Ft.reads x hx
    obtain ⟨z, hz, _⟩ := rd_val hy
    obtain ⟨ys, ho0, _⟩ := rowElem_inv hz
    have := (stay x hx ys ho0).unique ho
    rw [← this]; exact hlen x hx ys ho0
  · intro es2 c2 h2 x hx b hbk
    rw [hb'] at h2
    cases h2
    obtain ⟨y, hy⟩ := Ft.reads x hx
    obtain ⟨z, hz, _⟩ := rd_val hy
    obtain ⟨ys, ho0, _⟩ := rowElem_inv hz
    exact (ha b (ho0.1.lt b hbk).2).trans (hrows es clock hb x hx b hbk)

/-- What is nobody's and lies ahead of a block stayed, but for one. -/
structure EvG (g k : Nat) (ρ : Nat → Rl) (w : World) (ρ' : Nat → Rl) (w' : World) : Prop where
  os : w'.os = w.os
  tape : w'.tape = w.tape
  output : w'.output = w.output
  size : w.heap.size ≤ w'.heap.size
  agree : ∀ b, b < w.heap.size → ρ' b = ρ b
  keep : ∀ b, b < w.heap.size → b < g → b ≠ k → ρ b = oth → w'.heap[b]? = w.heap[b]?
def AddH (g : Nat) (ρ : Nat → Rl) (w : World) (k B : Nat) (s : PS) (x1 : Nat) (x2 x3 x4 : Int) (c : List Int) (e : Ending) (w' : World) : Prop :=
  e = .returned (.tuple #[]) ∧ ∃ ρ' m2, KP ρ' w' k B (s.attach c) ((max x1 (gtN c) : Nat) : Int) (x2 + 1) (x3 + 1) x4 (.map none) m2 ∧ EvG g k ρ w ρ' w'

set_option maxHeartbeats 4000000 in
set_option maxRecDepth 100000 in
theorem add_h {N g base sz : Nat} {f : Int → List Int} {ρ : Nat → Rl} {w : World} {k B : Nat} {s : PS} {x1 : Nat} {x2 x3 x4 : Int} {a : Option Addr} (h : KP ρ w k B s x1 x2 x3 x4 (.map none) (.map (some g))) (hG : Gro Try.prog 3 3 ρ w g base sz (litF f)) (hgb : g < base) (hkg : k < g) (hbs : base ≤ w.heap.size) (hsz : sz ≤ 1000000000) (hag : ∀ b off, a = some ⟨b, off, none⟩ → b < g ∧ b ≠ k) (cap : Nat) (c : List Int) (hr : RowO ρ N w a c) (hl : c.length ≤ 4096) (hcap : a = none → cap = 0)
    (hyes : cnfB s.vars [c] = true) (hcl : s.cls.length < 262144) (hx1 : x1 ≤ 1048576) (hx2 : 0 ≤ x2 ∧ x2 ≤ 262144) (hx3 : 0 ≤ x3 ∧ x3 ≤ 1048576) (hc : ∀ x ∈ c, -1048576 ≤ x ∧ x ≤ 1048576) :
    Calls Try.prog 27 #[.pointer (some ⟨k, 0, none⟩), .slice a c.length cap] w (AddH g ρ w k B s x1 x2 x3 x4 c) := by
  obtain ⟨H, hR⟩ := h.rep
  have GA := hide (add_yes hR h.inv (fun d hd => by have := h.lits d hd; omega) hcl a cap c hr.row (by unfold maxLen; omega) hcap hyes)
  have e0 : w.cell? ⟨k, 0, none⟩ = some (.pointer (some ⟨B, 0, none⟩)) := cell_of_block h.blk rfl
  have HK := hide h
  have HR := hide hr
  have HG := hide hG
  have HAG := hide hag
  have HC := hide hc
  have hlts := (cnf_lt hyes c (by simp)).2
  have HLT := hide hlts
  clear hR h hr hc hyes hlts hG hag
  go_enter Try.func27, Try.ntmps27
  go_upto_region 1 with (first | (go_at_call 43; refine (unhide GA).mono ?_; rintro e w1 ⟨rfl, ρ1, H1, hR1, hE1⟩))
  have hlits1 : ∀ d ∈ (s.attach c).cls, d.lits.length ≤ 4096 := by
    have hk := (attach_cls s c).1
    intro d hd
    have : key d ∈ (s.attach c).cls.map key := List.mem_map_of_mem hd
    rw [hk, List.mem_append] at this
    rcases this with h1 | h1
    · obtain ⟨d', hd', e⟩ := List.mem_map.1 h1
      have e9 : d'.lits = d.lits := congrArg Prod.fst e
      rw [← e9]; exact HK.out.lits d' hd'
    · simp at h1
      have e9 : d.lits = c := congrArg Prod.fst h1
      rw [e9]; exact hl
  have K1 := hide (HK.out.ev hR1 (attach_inv HK.out.inv HLT.out (by omega)) (HK.out.cnt.attach c) hlits1 hE1)
  have E1 := hide (hE1.evN k)
  have R1 := hide (HR.out.ev hE1).row
  clear hR1 hE1 hlits1 GA HK e0
  have c1 : w1.cell? ⟨k, 1, none⟩ = some (.int .i64 (x1 : Int)) := cell_of_block K1.out.blk rfl
  have z1 : w1.frozen? ⟨k, 1, none⟩ = false := frz_of_block K1.out.blk
  have GG : Hid (∀ m, Calls Try.prog 22 #[.slice a c.length cap] (w1.drewN m) fun e w' => e = .returned (.int .i64 (gtN c)) ∧ w' = w1.drewN m) := fun m => greatest_any a cap c (w1.drewN m) R1.out (by unfold maxLen; omega) HC.out
  have hmx := max2n x1 (gtN c)
  go_cut [] from 15 to 24 (fun wx => Hid (KP ρ1 wx k B (s.attach c) ((max x1 (gtN c) : Nat) : Int) x2 x3 x4 (.map none) (.map (some g))) ∧ Hid (EvN k ρ w ρ1 wx))
  case first =>
    go_region_with (first | (go_at_call 22; refine (unhide GG _).mono ?_; rintro e w0 ⟨rfl, hw0⟩; subst w0))
    all_goals
      go_wp2_with fail
      go_meet
      case rel => exact ⟨(K1.out.drewN 1).set rfl, (E1.out.drewN 1).setCell _⟩
  case rest =>
  obtain ⟨K2, E2⟩ := hcut
  clear K1 E1 R1 c1 z1 GG hmx HLT
  generalize hxm : ((max x1 (gtN c) : Nat) : Int) = xm at K2
  have HXM := hide hxm
  clear hxm
  have c2 : wc.cell? ⟨k, 2, none⟩ = some (.int .i64 x2) := cell_of_block K2.out.blk rfl
  have z2 : wc.frozen? ⟨k, 2, none⟩ = false := frz_of_block K2.out.blk
  have K3 : Hid (KP ρ1 (wc.setCell ⟨k, 2, none⟩ (.int .i64 (x2 + 1))) k B (s.attach c) xm (x2 + 1) x3 x4 (.map none) (.map (some g))) := K2.out.set rfl
  have E3 := hide (E2.out.setCell (i := 2) (.int .i64 (x2 + 1)))
  clear K2 E2
  go_upto_region 3 with fail
  refine forget (P := fun W => Code.wp Try.prog _ _ _ W) (fun W => Hid (KP ρ1 W k B (s.attach c) xm (x2 + 1) x3 x4 (.map none) (.map (some g))) ∧ Hid (EvN k ρ w ρ1 W)) ⟨K3, E3⟩ ?_
  rintro W4 ⟨K4, E4⟩
  clear K3 E3 c2 z2
  have c3 : W4.cell? ⟨k, 3, none⟩ = some (.int .i64 x3) := cell_of_block K4.out.blk rfl
  have z3 : W4.frozen? ⟨k, 3, none⟩ = false := frz_of_block K4.out.blk
  have K5 : Hid (KP ρ1 (W4.setCell ⟨k, 3, none⟩ (.int .i64 (x3 + 1))) k B (s.attach c) xm (x2 + 1) (x3 + 1) x4 (.map none) (.map (some g))) := K4.out.set rfl
  have E5 := hide (E4.out.setCell (i := 3) (.int .i64 (x3 + 1)))
  clear K4 E4
  go_upto_region 4 with fail
  refine forget (P := fun W => Code.wp Try.prog _ _ _ W) (fun W => Hid (KP ρ1 W k B (s.attach c) xm (x2 + 1) (x3 + 1) x4 (.map none) (.map (some g))) ∧ Hid (EvN k ρ w ρ1 W)) ⟨K5, E5⟩ ?_
  rintro W6 ⟨K6, E6⟩
  clear K5 E5 c3 z3
  have c5 : W6.cell? ⟨k, 5, none⟩ = some (.map none) := cell_of_block K6.out.blk rfl
  have c6 : W6.cell? ⟨k, 6, none⟩ = some (.map (some g)) := cell_of_block K6.out.blk rfl
  have q5 := run_neq_map_nil (P := Try.prog) W6 50 _ _ none Try.underlying50
  have q6 := run_neq_map_nil (P := Try.prog) W6 51 _ _ (some g) Try.underlying51
  have hG6 : Gro Try.prog 3 3 (fr ρ1 W6.heap.size) W6 g base sz (litF f) := HG.out.evK (fun b hb => (fr_old (Nat.lt_of_lt_of_le hb E6.out.size)).trans (E6.out.agree b hb)) (fun b hb hbk hr => E6.out.keep b hb hbk hr) (by omega) (by omega)
  have hrs : RowS base g (fr ρ1 W6.heap.size) W6 a c := by
    intro i hi
    obtain ⟨b, off, ea, hb, hro, _, hcell⟩ := HR.out i hi
    obtain ⟨h1, h2⟩ := HAG.out b off ea
    exact ⟨b, off, ea, Nat.lt_of_lt_of_le hb E6.out.size, .inr ⟨by omega, by omega⟩, (World.cell?_of_block (a := ⟨b, off + i, none⟩) (E6.out.keep b hb h2 hro)).trans hcell⟩
  have NH := hide (noteHaving_any (ρ := fr ρ1 W6.heap.size) (w := W6) (k := k) (f := f) c6 (by omega) (by omega) (lt_of_block K6.out.blk) hG6 (fun b hb => fr_new hb) (Nat.le_trans hbs E6.out.size) s.cls.length (by omega) a cap c hrs (by omega) (by omega) HC.out)
  clear hG6 hrs HG HR HC HAG
  go_wp2_with (go_at_call 44; refine (unhide NH).mono ?_; rintro e w7 ⟨rfl, hG7, hN7⟩)
  go_end0
  refine ⟨rfl, fr ρ1 W6.heap.size, _, by rw [HXM.out]; exact (K6.out.fr (Below.refl _ _)).nf hN7 (by omega) (by omega), ?_⟩
  exact ⟨hN7.os.trans E6.out.os, hN7.tape.trans E6.out.tape, hN7.output.trans E6.out.output, Nat.le_trans E6.out.size hN7.size, fun b hb => (fr_old (Nat.lt_of_lt_of_le hb E6.out.size)).trans (E6.out.agree b hb), fun b hb hbg hbk hr => (hN7.keep b (Nat.lt_of_lt_of_le hb E6.out.size) (.inr ⟨by omega, by omega⟩)).trans (E6.out.keep b hb hbk hr)⟩
end Go.Proofs.Ytlmbgaconjcaiab

namespace Go.Proofs.Ytlmbgaconjcaiab
open Go.RowKit

/-- What a step makes of a formula, and why. -/
def DoE (V : Nat) (css : List (List Int)) (d : Bool) (c : List Int) (r : Int) (x1 : Nat) (css' : List (List Int)) : Prop :=
  (d = true ∧ r = 0 ∧ x1 = V ∧ css' = remB css (tx c)) ∨
  (d = false ∧ r = 0 ∧ x1 = max V (gtN c) ∧ css' = css ++ [c] ∧ (TE (spareN V [⟨d, c⟩]) css c true ∨ ∃ l0, c[0]? = some l0 ∧ FirstE (spareN V [⟨d, c⟩]) css c (-l0) true)) ∨
  (d = false ∧ r = 7 ∧ x1 = V ∧ css' = css ∧ TE (spareN V [⟨d, c⟩]) css c false ∧ (c = [] ∨ ∃ l0, c[0]? = some l0 ∧ FirstE (spareN V [⟨d, c⟩]) css c (-l0) false))

/-- What is so behind a step. -/
def DoneP (w : World) (V : Nat) (css : List (List Int)) (d : Bool) (c : List Int) (k B : Nat) (r : Int) (w' : World) : Prop :=
  ∃ ρ u x1 x2 x4 m1 m2, KP ρ w' k B u ((x1 : Nat) : Int) x2 (u.cls.length : Int) x4 m1 m2 ∧ u.cls.length ≤ 10000 ∧ Below w.heap.size w w' ∧ DoE V css d c r x1 (liveL u.cls)

theorem evN_below {k : Nat} {w w' : World} {ρ : Nat → Rl} (h : EvN k free w ρ w') (hk : w.heap.size ≤ k) : Below w.heap.size w w' :=
  ⟨h.os, h.tape, h.output, h.size, fun b hb => h.keep b hb (by omega) rfl⟩
theorem evG_below {k g : Nat} {w w1 w' : World} {ρ ρ' : Nat → Rl} (h : EvN k free w ρ w1) (h' : EvG g k ρ w1 ρ' w') (hk : w.heap.size ≤ k) (hg : w.heap.size ≤ g) : Below w.heap.size w w' :=
  ⟨h'.os.trans h.os, h'.tape.trans h.tape, h'.output.trans h.output, Nat.le_trans h.size h'.size, fun b hb =>
    (h'.keep b (Nat.lt_of_lt_of_le hb h.size) (by omega) (by omega) ((h.agree b hb).trans rfl)).trans (h.keep b hb (by omega) rfl)⟩

/-- A keeper at the beginning of a step: what was opened, and the step's box. -/
structure Nw (w W : World) (V : Nat) (css : List (List Int)) (d : Bool) (c : List Int) (k B : Nat) (ρ : Nat → Rl) (s : PS) : Prop where
  kp : KP ρ W k B s V css.length (s.cls.length : Int) (spareN V [⟨d, c⟩] : Nat) (.map none) (.map none)
  ev : EvN k free w ρ W
  vars : s.vars = varsN V [⟨d, c⟩]
  cl : s.cls.map key = css.map (fun c => (c, false))
  tr : s.trail = []
  lv : s.lvs = []
  hk : w.heap.size ≤ k
  may : mayB c 1048576 = true
  cnf : cnfB V css = true
  lc : c.length ≤ 4096
  len : css.length ≤ 900

section
variable {w W : World} {V : Nat} {css : List (List Int)} {d : Bool} {c : List Int} {k B : Nat} {ρ : Nat → Rl} {s : PS}
theorem Nw.n (h : Nw w W V css d c k B ρ s) : s.cls.length = css.length := by simpa using congrArg List.length h.cl
theorem Nw.v (h : Nw w W V css d c k B ρ s) : V ≤ 1048576 := by
  have hc := h.cnf
  unfold cnfB at hc
  simp only [Bool.and_eq_true, decide_eq_true_eq] at hc
  omega
theorem Nw.p (h : Nw w W V css d c k B ρ s) : proofB [⟨d, c⟩] = true := by simp [proofB, h.may]
theorem Nw.sp (h : Nw w W V css d c k B ρ s) : spareN V [⟨d, c⟩] ≤ s.vars := by rw [h.vars]; unfold spareN varsN; split <;> omega
theorem Nw.lt (h : Nw w W V css d c k B ρ s) : ∀ x ∈ c, Lt s.vars x := by
  intro x hx
  have htop := topN_le h.v h.p
  have hgt := (le_topN V [⟨d, c⟩]).2 _ (List.mem_singleton_self _)
  have q := may_lits h.may x hx
  have q2 := le_gtN x hx
  have q3 : topN V [⟨d, c⟩] ≤ s.vars := by rw [h.vars]; unfold varsN; split <;> omega
  simp only at hgt
  unfold Lt; omega
theorem Nw.vle (h : Nw w W V css d c k B ρ s) : s.vars ≤ 1048576 := by
  have htop := topN_le h.v h.p
  rw [h.vars]; unfold varsN; split <;> omega
theorem Nw.row (h : Nw w W V css d c k B ρ s) {a : Option Addr} (hr : Row w a c) {ρ' : Nat → Rl} {W' : World} (hE : EvN k free w ρ' W') : RowO ρ' W'.heap.size W' a c := fun i hi => by
  obtain ⟨b, off, e, hb, hc⟩ := hr i hi
  have hk := h.hk
  exact ⟨b, off, e, Nat.lt_of_lt_of_le hb hE.size, hE.agree b hb, .inl (Nat.lt_of_lt_of_le hb hE.size), (World.cell?_of_block (a := ⟨b, off + i, none⟩) (hE.keep b hb (by omega) rfl)).trans hc⟩
theorem Nw.far (h : Nw w W V css d c k B ρ s) {a : Option Addr} (hr : Row w a c) {b off : Nat} (e : a = some ⟨b, off, none⟩) (hne : c ≠ []) : b < w.heap.size := by
  obtain ⟨b', off', e', hb, _⟩ := hr 0 (List.length_pos_iff.2 hne)
  rw [e] at e'
  cases e'
  exact hb

theorem new_rem (h : Nw w W V css true c k B ρ s) (a : Option Addr) (cap : Nat) (hr : Row w a c) (hcap : a = none → cap = 0) :
    Calls Try.prog 24 #[.pointer (some ⟨k, 0, none⟩), .slice a c.length cap] W fun e w' => e = .returned (.tuple #[]) ∧ DoneP w V css true c k B 0 w' := by
  have hn := h.n
  have hlen := h.len
  have hk := h.hk
  refine (remove_new h.kp (by omega) h.tr a cap c (h.row hr h.ev) (fun b off e hne => by have := h.far hr e hne; omega) h.lc hcap h.may ⟨by omega, by omega⟩).mono ?_
  rintro e w' ⟨rfl, ρ', g, hE, hc⟩
  refine ⟨rfl, ?_⟩
  have hb := evN_below (h.ev.trans hE) h.hk
  have hlive := liveL_keys h.cl
  rw [alkL_idx] at hc
  rcases hc with ⟨e0, hK⟩ | ⟨z, r, i, d, e0, ez, hd, hdg, hK⟩
  · exact ⟨ρ', s, V, _, _, _, _, hK, by omega, hb, .inl ⟨rfl, rfl, rfl, by rw [← hlive]; exact (rem_none _ _ 0 e0).symm⟩⟩
  · have hcs := drop_cls s i d
    have hl2 : (s.drop i d).cls.length = s.cls.length := by rw [hcs, List.length_set]
    refine ⟨ρ', s.drop i d, V, _, _, _, _, by rw [hl2]; exact hK, by omega, hb, .inl ⟨rfl, rfl, rfl, ?_⟩⟩
    rw [hcs, ← hlive]
    exact rem_first _ _ rfl _ 0 z r e0 i (by rw [ez]; simp)

/-- Behind the question by units. -/
structure Md (w W : World) (V : Nat) (css : List (List Int)) (c : List Int) (k B : Nat) (ρ : Nat → Rl) (s : PS) (b : Bool) (w2 : World) (ρ2 : Nat → Rl) (u : PS) (ds0 : List Int) : Prop where
  kp : KP ρ2 w2 k B u V css.length (u.cls.length : Int) (spareN V [⟨false, c⟩] : Nat) (.map none) (.map none)
  ev : EvN k ρ W ρ2 w2
  gr : Grw s u ds0
  d0 : spareN V [⟨false, c⟩] = 0 → ds0 = []
  d1 : spareN V [⟨false, c⟩] ≠ 0 → ds0 = [(spareN V [⟨false, c⟩] : Int)] ∧ u.lvs ≠ []
  te : TE (spareN V [⟨false, c⟩]) css c b

theorem new_units (h : Nw w W V css false c k B ρ s) (a : Option Addr) (cap : Nat) (hr : Row w a c) :
    Calls Try.prog 25 #[.pointer (some ⟨k, 0, none⟩), .slice a c.length cap] W fun e w2 => ∃ b, e = .returned (.bool b) ∧ ∃ ρ2 u ds0, Md w W V css c k B ρ s b w2 ρ2 u ds0 := by
  have hlc := h.lc
  refine (byUnits_any h.kp h.sp (fun _ _ => h.tr) a cap c (h.row hr h.ev) (by omega) h.lt).mono ?_
  rintro e w2 ⟨b, rfl, ρ2, u, ds0, hK, hE, hG, q0, q1, t, ds, hI, hGt, hds, hT⟩
  have hul : u.cls.length = s.cls.length := by simpa using congrArg List.length hG.cl
  refine ⟨b, rfl, ρ2, u, ds0, by rw [hul]; exact hK, hE.evN k, hG, q0, fun hs => ⟨(q1 hs).1 h.lv, (q1 hs).2.2⟩, ?_⟩
  have := ft_te (s := s) (ds0 := ds0) (c := c) (rest := []) (b := b) ⟨t, ds, hI, hGt, by simpa using hds, by simpa using hT⟩ h.cl h.lv q0 (fun hs => (q1 hs).1 h.lv)
  simpa using this

theorem new_cnf (h : Nw w W V css d c k B ρ s) : cnfB s.vars [c] = true := by
  have hv := h.vle
  have hlt := h.lt
  have hm := h.may
  have hlc := h.lc
  unfold cnfB
  simp only [Bool.and_eq_true, decide_eq_true_eq, List.all_cons, List.all_nil, and_true]
  refine ⟨⟨by omega, by omega, by simp⟩, mayB_of hlc ?_⟩
  rw [List.all_eq_true]
  intro x hx
  have := hlt x hx
  unfold Lt at this
  exact litB_true.2 ⟨this.1, by omega, by omega⟩

theorem new_add {w2 : World} {ρ2 : Nat → Rl} {u : PS} {ds0 : List Int} (h : Nw w W V css false c k B ρ s) (hM : Md w W V css c k B ρ s true w2 ρ2 u ds0) (a : Option Addr) (cap : Nat) (hr : Row w a c) (hcap : a = none → cap = 0) :
    Calls Try.prog 27 #[.pointer (some ⟨k, 0, none⟩), .slice a c.length cap] w2 fun e w' => e = .returned (.tuple #[]) ∧ DoneP w V css false c k B 0 w' := by
  have hul : u.cls.length = s.cls.length := by simpa using congrArg List.length hM.gr.cl
  have hn := h.n
  have hlen := h.len
  have hE := h.ev.trans hM.ev
  refine (add_k hM.kp a cap c (h.row hr hE) h.lc hcap (by rw [hM.gr.vars]; exact new_cnf h) (by omega) h.v ⟨by omega, by omega⟩ ⟨by omega, by omega⟩ (fun x hx => (may_lits h.may x hx).2)).mono ?_
  rintro e w' ⟨rfl, ρ', hK, hE'⟩
  obtain ⟨a1, a2, a3, a4, _⟩ := attach_cls u c
  have hal : (u.attach c).cls.length = u.cls.length + 1 := by simpa using congrArg List.length a1
  have hlive : liveL (u.attach c).cls = css ++ [c] := liveL_keys (by rw [a1, hM.gr.cl, h.cl]; simp)
  exact ⟨rfl, ρ', _, _, _, _, _, _, by rw [hal]; exact hK, by omega, evN_below (hE.trans hE') h.hk, .inr (.inl ⟨rfl, rfl, rfl, hlive, .inl hM.te⟩)⟩

/-- Behind the question by the first literal, where it told yes. -/
structure Mf (w W : World) (V : Nat) (css : List (List Int)) (c : List Int) (k B : Nat) (w3 : World) (ρ3 : Nat → Rl) (u : PS) (g base : Nat) : Prop where
  kp : KP ρ3 w3 k B u V css.length (u.cls.length : Int) (spareN V [⟨false, c⟩] : Nat) (.map none) (.map (some g))
  ev : EvN k free w ρ3 w3
  gro : ∃ f, Gro Try.prog 3 3 ρ3 w3 g base (4096 * u.cls.length + 1) (litF f)
  lg : W.heap.size ≤ g
  lb : g < base
  bs : base ≤ w3.heap.size
  vars : u.vars = varsN V [⟨false, c⟩]
  cl : u.cls.map key = css.map (fun c => (c, false))
  ne : c ≠ []
  fe : ∃ l0, c[0]? = some l0 ∧ FirstE (spareN V [⟨false, c⟩]) css c (-l0) true

theorem new_first {w2 : World} {ρ2 : Nat → Rl} {u : PS} {ds0 : List Int} (h : Nw w W V css false c k B ρ s) (hM : Md w W V css c k B ρ s false w2 ρ2 u ds0) (a : Option Addr) (cap : Nat) (hr : Row w a c) :
    Calls Try.prog 26 #[.pointer (some ⟨k, 0, none⟩), .slice a c.length cap] w2 fun e w3 => ∃ b, e = .returned (.bool b) ∧ (b = false → DoneP w V css false c k B 7 w3) ∧ (b = true → ∃ ρ3 u g base, Mf w W V css c k B w3 ρ3 u g base) ∧ ∃ ρ3, EvN k ρ2 w2 ρ3 w3 := by
  have hul : u.cls.length = s.cls.length := by simpa using congrArg List.length hM.gr.cl
  have hn := h.n
  have hlen := h.len
  have hk := h.hk
  have hE := h.ev.trans hM.ev
  have hku : u.cls.map key = css.map (fun c => (c, false)) := by rw [hM.gr.cl, h.cl]
  have hlive := liveL_keys hku
  by_cases hne : c = []
  · have hc0 : c.length = 0 := by rw [hne]; rfl
    rw [hc0]
    refine (byFirst_nil w2 k a cap).mono ?_
    rintro e w3 ⟨rfl, rfl⟩
    exact ⟨false, rfl, fun _ => ⟨ρ2, u, V, _, _, _, _, hM.kp, by omega, evN_below hE h.hk, .inr (.inr ⟨rfl, rfl, rfl, hlive, hM.te, .inl hne⟩)⟩, (by simp), ρ2, (Ev.refl _ _).evN k⟩
  · obtain ⟨l0, r, hcc⟩ := List.exists_cons_of_ne_nil hne
    have hl0 : c[0]? = some l0 := by rw [hcc]; rfl
    refine (byFirst_new hM.kp (by rw [hM.gr.vars]; exact h.sp) (fun hs hl => absurd hl (hM.d1 hs).2) (by omega) a cap c (h.row hr hE) (fun b off e => by have := h.far hr e hne; omega) h.lc (by rw [hM.gr.vars]; exact h.lt) l0 hl0).mono ?_
    rintro e w3 ⟨b, rfl, ρ3, u', ds1, g, base, q1, q2, q3, q4, q5, q6, q7, q8, q9, q10⟩
    have hul' : u'.cls.length = u.cls.length := by simpa using congrArg List.length q3.cl
    have hku' : u'.cls.map key = css.map (fun c => (c, false)) := by rw [q3.cl, hku]
    have hE3 := hE.trans q2
    have hd1 : spareN V [⟨false, c⟩] ≠ 0 → ds0 ++ ds1 = [(spareN V [⟨false, c⟩] : Int)] := fun hs => by
      rw [(hM.d1 hs).1, (q5 hs).2 (hM.d1 hs).2]; rfl
    have hd0 : spareN V [⟨false, c⟩] = 0 → ds0 ++ ds1 = [] := fun hs => by rw [hM.d0 hs, q4 hs]; rfl
    have hfe := first_e (by have := firstB_up hM.gr q10; rwa [noteL_key _ _ _ _ hM.gr.cl] at this) h.cl h.lv hd0 hd1
    refine ⟨b, rfl, fun hb => ?_, fun hb => ?_, ρ3, q2⟩
    · subst hb
      exact ⟨ρ3, u', V, _, _, _, _, by rw [hul']; exact q1, by omega, evN_below hE3 h.hk, .inr (.inr ⟨rfl, rfl, rfl, liveL_keys hku', hM.te, .inr ⟨l0, hl0, hfe⟩⟩)⟩
    · subst hb
      exact ⟨ρ3, u', g, base, ⟨by rw [hul']; exact q1, hE3, ⟨_, by rw [hul']; exact q7⟩, Nat.le_trans hM.ev.size q8, (by omega), (by have := q7.lt.1; omega), by rw [q3.vars, hM.gr.vars, h.vars], hku', hne, l0, hl0, hfe⟩⟩

theorem new_addH {w3 : World} {ρ3 : Nat → Rl} {u : PS} {g base : Nat} (h : Nw w W V css false c k B ρ s) (hM : Mf w W V css c k B w3 ρ3 u g base) (hkW : k < W.heap.size) (a : Option Addr) (cap : Nat) (hr : Row w a c) (hcap : a = none → cap = 0) :
    Calls Try.prog 27 #[.pointer (some ⟨k, 0, none⟩), .slice a c.length cap] w3 fun e w' => e = .returned (.tuple #[]) ∧ DoneP w V css false c k B 0 w' := by
  have hul : u.cls.length = css.length := by simpa using congrArg List.length hM.cl
  have hlen := h.len
  have hk := h.hk
  have hlg := hM.lg
  have hws := h.ev.size
  obtain ⟨f, hG⟩ := hM.gro
  refine (add_h hM.kp hG hM.lb (by omega) hM.bs (by omega) (fun b off e => by have := h.far hr e hM.ne; omega) cap c (h.row hr hM.ev) h.lc hcap (by rw [hM.vars, ← h.vars]; exact new_cnf h) (by omega) h.v ⟨by omega, by omega⟩ ⟨by omega, by omega⟩ (fun x hx => (may_lits h.may x hx).2)).mono ?_
  rintro e w' ⟨rfl, ρ', m2, hK, hE'⟩
  obtain ⟨a1, a2, a3, a4, _⟩ := attach_cls u c
  have hal : (u.attach c).cls.length = u.cls.length + 1 := by simpa using congrArg List.length a1
  have hlive : liveL (u.attach c).cls = css ++ [c] := liveL_keys (by rw [a1, hM.cl]; simp)
  exact ⟨rfl, ρ', _, _, _, _, _, _, by rw [hal]; exact hK, by omega, evG_below hM.ev hE' h.hk (by omega), .inr (.inl ⟨rfl, rfl, rfl, hlive, .inr hM.fe⟩)⟩
end
end Go.Proofs.Ytlmbgaconjcaiab
