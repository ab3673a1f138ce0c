/- Joined: Contract: a clause is noted by what is common to all that are like it. Contract: each clause is noted by what is common to all that are like it. Contract: the first clause that has the same literals goes, where nobody has asked yet and nothing is decided. -/
import Derived.Test.YtlmbgaconjcaiaaGreatRiAll
import Derived.Test.YtlmbgaconjcaiaaGreatNormAll
import Derived.StringKeys
import Derived.Test.YtlmbgaconjcaiaaGreatIeAll
import Derived.Deep.CutBlock
set_option linter.unusedVariables false
set_option linter.unusedSimpArgs false
namespace Go.Proofs.YtlmbgaconjcaiaaGreat
open Go.RowKit

theorem nodup_key : ∀ {l : List MapEntry}, (l.map (·.key)).Nodup → ∀ {x y : MapEntry}, x ∈ l → y ∈ l → x.key = y.key → x = y
  | [], _, _, _, hx, _, _ => by simp at hx
  | z :: r, hn, x, y, hx, hy, e => by
    simp only [List.map_cons, List.nodup_cons] at hn
    rcases List.mem_cons.1 hx with h1 | h1
    · rcases List.mem_cons.1 hy with h2 | h2
      · rw [h1, h2]
      · exact absurd (by rw [← h1, e]; exact List.mem_map_of_mem h2) hn.1
    · rcases List.mem_cons.1 hy with h2 | h2
      · exact absurd (by rw [← h2, ← e]; exact List.mem_map_of_mem h1) hn.1
      · exact nodup_key hn.2 h1 h2 e
/-- What is looked up hangs on the map's block alone. -/
theorem Gro.look {P : Program} {k e t E : TypeId} {σ : Nat → Rl} {w W W' : World} {g base n : Nat} {F : Lit → List Int} (h : Gro P k e σ w g base n F) (K : Maps.Keyed P k) (ht : P.underlying t = some (.map k E)) {z : Value} (hz : ∀ W, (zeroValue E).run P W = .ok z W) {key : Value} {kl : Lit} (hkey : keyOf P k key = some kl) (hW : W.heap[g]? = w.heap[g]?) (hW' : W'.heap[g]? = w.heap[g]?) {v : Value}
    (hr : (Instr.lookup t (.map (some g)) key false).run P W = .ok v W) : (Instr.lookup t (.map (some g)) key false).run P W' = .ok v W' := by
  obtain ⟨⟨D, ⟨es, clock, hb, Ft, hs, hD, hbb, hlen, hap⟩, hat⟩, hro, hrows⟩ := h
  rcases Maps.fit_look false K ht (hz W) (hW.trans hb) Ft hkey with ⟨h1, h2, _⟩ | ⟨e0, y, hm0, h3, h1, _⟩
  · rw [hr] at h1
    simp at h1
    subst h1
    rcases Maps.fit_look false K ht (hz W') (hW'.trans hb) Ft hkey with ⟨q1, _, _⟩ | ⟨e1, y1, hm1, q3, q1, _⟩
    · simpa using q1
    · exact absurd q3 (h2 e1 hm1)
  · rw [hr] at h1
    simp at h1
    subst h1
    rcases Maps.fit_look false K ht (hz W') (hW'.trans hb) Ft hkey with ⟨q1, q2, _⟩ | ⟨e1, y1, hm1, q3, q1, _⟩
    · exact absurd h3 (q2 e0 hm0)
    · have := nodup_key Ft.stamped.2.2 hm0 hm1 (h3.trans q3.symm)
      subst this
      simpa using q1
theorem grown_dd (w : World) (o : Obj) (row : Option Nat) : w.drew.grownBy (w.alloc o).drew row :=
  ⟨rfl, rfl, rfl, by show w.heap.size ≤ (w.alloc o).heap.size; simp, fun b hb _ => Below.heap_alloc w o b hb⟩

theorem law9 : Maps.Keyed Tryz.prog 9 := Maps.string_keyed Tryz.underlying9
/-- Rows by texts. -/
def strF (f : List UInt8 → List Int) : Lit → List Int
  | .string x => f x
  | _ => []
def updS (f : List UInt8 → List Int) (l : List UInt8) (zs : List Int) : List UInt8 → List Int := fun x => if x = l then zs else f x
theorem updS_same (f : List UInt8 → List Int) (l : List UInt8) (zs : List Int) : updS f l zs l = zs := if_pos rfl
theorem updS_other (f : List UInt8 → List Int) {l x : List UInt8} (zs : List Int) (h : x ≠ l) : updS f l zs x = f x := if_neg h

section
variable {σ : Nat → Rl} {w : World} {g base n : Nat} {f : List UInt8 → List Int}
theorem gro_at9 (h : Gro Tryz.prog 9 3 σ w g base n (strF f)) (hn : n < maxLen) (hfr : ∀ b, w.heap.size ≤ b → σ b = oth) (s : ByteArray) (hs : s.size ≤ maxLen) :
    ∃ a cap, (Instr.lookup 60 (.map (some g)) (.string s) false).run Tryz.prog w = .ok (.slice a (f s.data.toList).length cap) w ∧ w.ownsInts base 3 .i64 (.slice a (f s.data.toList).length cap) (f s.data.toList) ∧ (f s.data.toList).length ≤ n ∧ (∀ b, Value.ownBlock (.slice a (f s.data.toList).length cap) = some b → σ b = oth) ∧
      ∀ (w1 : World) (v' : Value) (zs' : List Int), w.grownBy w1 (Value.ownBlock (.slice a (f s.data.toList).length cap)) → w1.ownsInts base 3 .i64 v' zs' → zs'.length ≤ n + 1 → (v'.ownBlock = Value.ownBlock (.slice a (f s.data.toList).length cap) ∨ ∃ b, v'.ownBlock = some b ∧ w.heap.size ≤ b) →
        ∃ w2, (Instr.mapUpdate 60 (.map (some g)) (.string s) v').run Tryz.prog w1 = .ok () w2 ∧ Gro Tryz.prog 9 3 σ w2 g base (n + 1) (strF (updS f s.data.toList zs')) ∧ w1.grownBy w2 (some g) := by
  obtain ⟨v, hr, ho, hl, hro, hb⟩ := h.at (t := 60) (E := 25) law9 Tryz.underlying60 (zero25 w) hn (WideMaps.keyOf_string_mk Tryz.underlying9 hs)
  obtain ⟨a, cap, rfl, _⟩ := own_form ho.1
  refine ⟨a, cap, hr, ho, hl, hro, fun w1 v' zs' g1 g2 g3 g4 => ?_⟩
  refine hb w1 v' zs' σ (strF (updS f s.data.toList zs')) g1 g2 g3 g4 (fun _ _ => rfl) (fun b e => ?_) (updS_same f _ zs') (fun q hq => ?_)
  · rcases g4 with g4 | ⟨c, g4, g5⟩
    · exact hro b (g4.symm.trans e)
    · rw [g4] at e; cases e; exact hfr _ g5
  · cases q with
    | string x =>
      by_cases e : x = s.data.toList
      · subst e; exact (hq rfl).elim
      · exact updS_other f zs' e
    | _ => rfl
end

/-- A clause is noted by its text. -/
def alkC (n : Int) (f : List UInt8 → List Int) (c : List Int) : List UInt8 → List Int := updS f (txt (order c)).data.toList (f (txt (order c)).data.toList ++ [n])

set_option maxHeartbeats 4000000 in
set_option maxRecDepth 100000 in
theorem noteAlike_any {σ : Nat → Rl} {w : World} {g base sz k : Nat} {f : List UInt8 → List Int} (hk : w.cell? ⟨k, 5, none⟩ = some (.map (some g))) (hkb : k < base) (hkg : k ≠ g) (hkl : k < w.heap.size)
    (hG : Gro Tryz.prog 9 3 σ w g base sz (strF f)) (hfr : ∀ b, w.heap.size ≤ b → σ b = oth) (hbase : base ≤ w.heap.size) (n : Nat) (hn : n ≤ 1048576) (a : Option Addr) (cap : Nat) (c : List Int) (hr : Row w a c) (hl : c.length ≤ 4096) (hcap : a = none → cap = 0) (hsz : sz ≤ 4000000000)
    (hc : mayB c 1048576 = true) :
    Calls Tryz.prog 70 #[.pointer (some ⟨k, 0, none⟩), .int .i64 (n : Int), .slice a c.length cap] w fun e w' => e = .returned (.tuple #[]) ∧ Gro Tryz.prog 9 3 σ w' g base (sz + 1) (strF (alkC n f c)) ∧ NF base g σ w w' := by
  obtain ⟨i0, hi, hz0, hz1, hz2⟩ := info_parts Tryz.info3
  have GC := hide (common_any a cap c w hr hl hcap hc)
  have hts := txt_size (order c)
  have hol := order_len c
  have HG := hide hG
  have HFR := hide hfr
  have HK := hide hk
  clear hG hr hc hfr hk
  have HTS : Hid ((txt (order c)).size ≤ maxLen) := by unfold Hid maxLen; omega
  clear hts hol
  unfold alkC
  generalize txt (order c) = T at *
  go_enter Tryz.func70, Tryz.ntmps70
  go_upto_region 1 with (go_at_call 71; refine (unhide GC).mono ?_; rintro e w1 ⟨rfl, hb1⟩)
  have HN1 : Hid (NF base g σ w w1) := NF.below hb1
  have hws : w.heap.size ≤ w1.heap.size := hb1.size
  have hG1 : Gro Tryz.prog 9 3 σ w1 g base sz (strF f) := HG.out.ev (fun _ _ => rfl) (fun b hb _ => hb1.block b hb)
  have hG1d : Gro Tryz.prog 9 3 σ w1.drew g base sz (strF f) := hG1.ev (fun _ _ => rfl) (fun _ _ _ => rfl)
  have hfr1 : ∀ b, w1.drew.heap.size ≤ b → σ b = oth := fun b hb => HFR.out b (by have : w1.drew.heap.size = w1.heap.size := rfl; omega)
  have k5 : w1.cell? ⟨k, 5, none⟩ = some (.map (some g)) := (hb1.cell (p := ⟨k, 5, none⟩) hkl).trans HK.out
  obtain ⟨a1, cap1, hlook, hoi, hzl, hro, hback⟩ := gro_at9 hG1d (by unfold maxLen; omega) hfr1 T HTS.out
  have HRO := hide hro
  have HRG := hide hG1.ro
  have HBK := hide hback
  have HOI := hide hoi
  have HRL : Hid (g < w1.heap.size) := hG1.lt.1
  have HGL : Hid (∀ W', W'.heap[g]? = w1.heap[g]? → (Instr.lookup 60 (.map (some g)) (.string T) false).run Tryz.prog W' = .ok (.slice a1 (f T.data.toList).length cap1) W') := fun W' hW' => hG1.look law9 Tryz.underlying60 zero25 (WideMaps.keyOf_string_mk Tryz.underlying9 HTS.out) (W := w1.drew) rfl hW' hlook
  clear hG1 hG1d hb1 HG GC hro hback hfr1
  generalize hzs : f T.data.toList = zs at *
  have HZS := hide hzs
  clear hzs
  have HOW := hide (hoi.1)
  clear hoi
  have HAP : Hid (∀ (W : World), w1.drew.grownBy W (Value.ownBlock (.slice a1 zs.length cap1)) → ∀ (g3 cap3 : Nat) (w3 : World), w3.ownsRow base 3 1 (.slice (some ⟨g3, 0, none⟩) (zs.length + 1) cap3) (zs.length + 1) (zs.map (Value.int .i64) ++ [.int .i64 (n : Int)]) → W.grownBy w3 (Value.ownBlock (.slice a1 zs.length cap1)) → (Value.ownBlock (.slice a1 zs.length cap1) = some g3 ∨ g3 = w1.heap.size + 1) →
      w3.cell? ⟨k, 5, none⟩ = some (.map (some g)) ∧ ∃ w4, (Instr.mapUpdate 60 (.map (some g)) (.string T) (.slice (some ⟨g3, 0, none⟩) (zs.length + 1) cap3)).run Tryz.prog w3 = .ok () w4 ∧ Hid (Gro Tryz.prog 9 3 σ w4 g base (sz + 1) (strF (updS f T.data.toList (zs ++ [(n : Int)])))) ∧ Hid (NF base g σ w w4)) := by
    intro W hW g3 cap3 w3 ho hg hat
    have hg1 := hW.trans hg
    have hoi3 := HOI.out.appended ho (i64_wf (by omega) (by omega))
    obtain ⟨w4, h1, h2, h3⟩ := HBK.out w3 (.slice (some ⟨g3, 0, none⟩) (zs.length + 1) cap3) (zs ++ [(n : Int)]) hg1 hoi3 (by simp; omega) (by
      rcases hat with hat | hat
      · exact .inl hat.symm
      · exact .inr ⟨g3, rfl, by show w1.heap.size ≤ g3; omega⟩)
    have hNF : NF base g σ w1 w3 := (NF.below (w := w1) (w' := w1.drew) ⟨rfl, rfl, rfl, Nat.le_refl _, fun _ _ => rfl⟩).trans (NF.grown hg1 (fun b e => ⟨HRO.out b e, .inl (HOI.out.1.lt b e).1⟩))
    exact ⟨(hNF.cell (Nat.lt_of_lt_of_le hkl hws) (.inr ⟨hkb, hkg⟩)).trans k5, w4, h1, h2, HN1.out.trans (hNF.trans (NF.grown h3 (fun b e => by cases e; exact ⟨HRG.out, .inr rfl⟩)))⟩
  have HB : Hid (base ≤ w1.heap.size) := Nat.le_trans hbase hws
  have hkf : ∀ o : Obj, (w1.alloc o).cell? ⟨k, 5, none⟩ = some (.map (some g)) := fun o => (World.cell?_of_block (a := ⟨k, 5, none⟩) (Below.heap_alloc w1 o k (Nat.lt_of_lt_of_le hkl hws))).trans k5
  have hlook2 : ∀ o, (Instr.lookup 60 (.map (some g)) (.string T) false).run Tryz.prog (w1.alloc o).drew = .ok (.slice a1 zs.length cap1) (w1.alloc o).drew := fun o => HGL.out (w1.alloc o).drew (Below.heap_alloc w1 o g HRL.out)
  have hga := hide (grown_dd w1 (.cells #[.int .i64 (n : Int)] 3) (Value.ownBlock (.slice a1 zs.length cap1)))
  clear HOI HBK HRO
  go_region_law (refine step_append_lies _ rfl (.tmp 19) (.tmp 21) 25 rfl base 3 i0 (.int .i64 0) 1 8 Tryz.underlying25 hi hz0 hz1 hz2 rfl (by decide) (.slice a1 zs.length cap1) zs.length _ (by rfl) (own_same (HOW.out.alloc _) (fun _ _ => rfl)) ⟨w1.heap.size, 0, none⟩ 1 1 [.int .i64 (n : Int)] (by rfl) (by rfl) (World.news_of_block (cs := #[.int .i64 (n : Int)]) (t := 3) (fr := (0, 0)) (show (w1.alloc (.cells #[.int .i64 (n : Int)] 3)).drew.heap[w1.heap.size]? = _ from heap_alloc_new w1 _)) (by simp [Value.oneCell']) (by decide) (by unfold maxLen; omega) (by omega) (by have := HB.out; simp; omega) (w1.heap.size + 1) (by simp) ?_; intro g3 cap3 w3 ho3 hgr3 hat3 hlt3; obtain ⟨hk3, w4, hr4, HG4, HN4⟩ := HAP.out _ hga.out g3 cap3 w3 ho3 hgr3 hat3)
  all_goals
    clear HAP HOW hkf hk3 ho3 hgr3 hat3 hlt3 hr4 k5 hlook hga
    go_wp2
    go_end0
    exact ⟨rfl, by rw [HZS.out]; exact HG4.out, HN4.out⟩
end Go.Proofs.YtlmbgaconjcaiaaGreat

namespace Go.Proofs.YtlmbgaconjcaiaaGreat
open Go.RowKit

theorem own_cap {base : Nat} {w : World} {a : Option Addr} {n cap : Nat} {xs : List Int} (h : Own base w (.slice a n cap) xs) : a = none → cap = 0 := by
  rintro rfl
  rcases h.2 with ⟨e, _⟩ | ⟨g, cap', cur, e, _⟩
  · simp at e; exact e.2
  · simp at e
/-- All clauses that are there are noted by their texts. -/
def alkL : List Cl → Nat → (List UInt8 → List Int) → List UInt8 → List Int
  | [], _, f => f
  | c :: r, j, f => alkL r (j + 1) (if c.gone then f else alkC j f c.lits)
theorem alkL_snoc : ∀ (l : List Cl) (j : Nat) (f : List UInt8 → List Int) (c : Cl), alkL (l ++ [c]) j f = if c.gone then alkL l j f else alkC ((j + l.length : Nat) : Int) (alkL l j f) c.lits
  | [], j, f, c => by simp [alkL]
  | d :: r, j, f, c => by
    show alkL (r ++ [c]) (j + 1) _ = _
    rw [alkL_snoc r (j + 1)]
    show _ = if c.gone then alkL r (j + 1) _ else alkC ((j + (r.length + 1) : Nat) : Int) (alkL r (j + 1) _) c.lits
    rw [show j + 1 + r.length = j + (r.length + 1) by omega]
theorem may_lt {c : List Int} {V : Nat} (h : ∀ x ∈ c, Lt V x) (hV : V ≤ 1048576) (hl : c.length ≤ 4096) : mayB c 1048576 = true := by
  unfold mayB
  simp only [Bool.and_eq_true, decide_eq_true_eq, List.all_eq_true]
  refine ⟨by omega, fun x hx => ?_⟩
  have := h x hx
  unfold Lt at this
  exact litB_true.2 ⟨this.1, by omega, by omega⟩

set_option maxHeartbeats 4000000 in
set_option maxRecDepth 100000 in
theorem each_alk {ρ σ : Nat → Rl} {w : World} {g base k B : Nat} {H : Hd} {s : PS} (hk0 : w.cell? ⟨k, 0, none⟩ = some (.pointer (some ⟨B, 0, none⟩))) (hk3 : w.cell? ⟨k, 3, none⟩ = some (.int .i64 (s.cls.length : Int))) (hk5 : w.cell? ⟨k, 5, none⟩ = some (.map (some g))) (hkb : k < base) (hkg : k ≠ g) (hkl : k < w.heap.size)
    (hR : Rep ρ w B H s) (hI : Inv s) (hlits : ∀ c ∈ s.cls, c.lits.length ≤ 4096) (hcl : s.cls.length ≤ 10000)
    (hG : Gro Tryz.prog 9 3 σ w g base 0 (fun _ => [])) (hfr : ∀ b, w.heap.size ≤ b → σ b = oth) (hrs : ∀ b, b < w.heap.size → ρ b ≠ oth → σ b ≠ oth) (hbase : base ≤ w.heap.size) :
    Calls Tryz.prog 53 #[.pointer (some ⟨k, 0, none⟩), .func (.func 70) #[.pointer (some ⟨k, 0, none⟩)] #[]] w fun e w' => e = .returned (.tuple #[]) ∧ Gro Tryz.prog 9 3 σ w' g base (s.cls.length) (strF (alkL s.cls 0 (fun _ => []))) ∧ NF base g σ w w' := by
  have HG : Hid (Gro Tryz.prog 9 3 σ w g base 0 (strF (alkL (s.cls.take 0) 0 (fun _ => [])))) := by
    have e : (strF (alkL (s.cls.take 0) 0 (fun _ => []))) = fun _ => [] := by
      funext q
      cases q with
      | string x => rfl
      | _ => rfl
    unfold Hid; rw [e]; exact hG
  have HR := hide hR
  have HI := hide hI
  have HL := hide hlits
  have HFR := hide hfr
  have HRS := hide hrs
  clear hG hR hI hlits hfr hrs
  go_enter Tryz.func53, Tryz.ntmps53
  go_wp2
  go_loopw [11] (fun j wr => ∃ i : Nat, i ≤ s.cls.length ∧ j = .int .i64 (i : Int) ∧ Hid (Gro Tryz.prog 9 3 σ wr g base i (strF (alkL (s.cls.take i) 0 (fun _ => [])))) ∧ Hid (NF base g σ w wr)) (fun j _ => s.cls.length - (intOf j).toNat)
  case atStart => exact ⟨0, Nat.zero_le _, rfl, HG, NF.refl _ _ _ _⟩
  case round =>
    obtain ⟨i, hi', rfl, HG1, HN1⟩ := hrel
    clear HG
    have k0 := (HN1.out.cell (o := 0) hkl (.inr ⟨hkb, hkg⟩)).trans hk0
    have k5 := (HN1.out.cell (o := 5) hkl (.inr ⟨hkb, hkg⟩)).trans hk5
    have hws : w.heap.size ≤ wr.heap.size := HN1.out.size
    by_cases hlt : i < s.cls.length
    · have hii : (i : Int) < s.cls.length := by omega
      have hRr := HR.out.off (fun b hb hr => HN1.out.keep b hb (.inl (HRS.out b hb hr)))
      have hci := List.getElem?_eq_getElem hlt
      have hli := HL.out s.cls[i] (List.getElem_mem hlt)
      have HS : Hid (alkL (s.cls.take (i + 1)) 0 (fun _ => []) = if s.cls[i].gone then alkL (s.cls.take i) 0 (fun _ => []) else alkC (i : Int) (alkL (s.cls.take i) 0 (fun _ => [])) s.cls[i].lits) := by
        unfold Hid
        rw [List.take_succ_eq_append_getElem hlt, alkL_snoc, List.length_take, Nat.min_eq_left (by omega), Nat.zero_add]
      have hlx : mayB s.cls[i].lits 1048576 = true := may_lt (fun x hx => HI.out.wt.ok i s.cls[i] hci x hx) HI.out.sz.vars hli
      generalize alkL (s.cls.take i) 0 (fun _ => []) = f1 at *
      generalize s.cls[i] = c at *
      cases hg : c.gone with
      | true =>
        have G := hide (propClause_no hRr (i : Int) (.inr (.inr ⟨c, by omega, by simpa using hci, hg⟩)) (by omega))
        rw [hg] at HS
        clear hRr hci
        go_wp2_with (go_at_call 47; refine (unhide G).mono ?_; rintro e w1 ⟨rfl, hw1⟩; subst w1)
        go_roundw
        case rel => exact ⟨i + 1, by omega, by go_num, by unfold Hid; rw [HS.out]; exact HG1.out.mono (by omega), HN1⟩
        case measure => simp [intOf]; omega
      | false =>
        rw [hg] at HS
        have G : Hid (Calls Tryz.prog 47 #[.pointer (some ⟨B, 0, none⟩), .int .i64 (i : Int)] wr fun e w1 => ∃ a cap, e = .returned (.tuple #[.slice a c.lits.length cap, .bool true]) ∧ Calls Tryz.prog 70 #[.pointer (some ⟨k, 0, none⟩), .int .i64 (i : Int), .slice a c.lits.length cap] w1 fun e w' => e = .returned (.tuple #[]) ∧ Hid (Gro Tryz.prog 9 3 σ w' g base (i + 1) (strF (alkC (i : Int) f1 c.lits))) ∧ Hid (NF base g σ w w')) := by
          refine (propClause_yes hRr i c hci hg (by omega) (by omega)).mono ?_
          rintro e w1 ⟨v, rfl, ho, hb⟩
          obtain ⟨a, cap, rfl, hrow, _⟩ := ho.row
          have hcap : a = none → cap = 0 := own_cap ho
          refine ⟨a, cap, rfl, ?_⟩
          have hfr1 : ∀ b, w1.heap.size ≤ b → σ b = oth := fun b hb' => HFR.out b (by have := hb.size; omega)
          have := noteAlike_any (σ := σ) (w := w1) (k := k) (f := f1) ((hb.cell (p := ⟨k, 5, none⟩) (Nat.lt_of_lt_of_le hkl hws)).trans k5) hkb hkg (by have := hb.size; omega) (HG1.out.ev (fun _ _ => rfl) (fun b hbb _ => hb.block b hbb)) hfr1 (by have := hb.size; omega) i (by omega) a cap c.lits hrow hli hcap (by omega) hlx
          refine this.mono ?_
          rintro e w2 ⟨rfl, q1, q2⟩
          exact ⟨rfl, q1, HN1.out.trans ((NF.below hb).trans q2)⟩
        clear hRr hci
        go_wp2_with (first
          | (go_at_call 47; refine (unhide G).mono ?_; rintro e w1 ⟨a, cap, rfl, G2⟩; replace G2 := hide G2)
          | (go_at_call 70; refine (unhide G2).mono ?_; rintro e w2 ⟨rfl, HG2, HN2⟩))
        go_roundw
        case rel => exact ⟨i + 1, by omega, by go_num, by unfold Hid; rw [HS.out]; exact HG2.out, HN2⟩
        case measure => simp [intOf]; omega
    · obtain rfl : i = s.cls.length := by omega
      have HG2 := HG1.out
      rw [List.take_length] at HG2
      replace HG2 := hide HG2
      clear HG1
      go_wp2
      go_end0
      exact ⟨rfl, HG2.out, HN1.out⟩
end Go.Proofs.YtlmbgaconjcaiaaGreat

namespace Go.Proofs.YtlmbgaconjcaiaaGreat
open Go.RowKit Go.ChangeMaps Go.MapKept

/-- Whatever is stored at a key: the map's block turns alone. -/
theorem Gro.put {P : Program} {k e t E : TypeId} {σ : Nat → Rl} {w W : World} {g base n : Nat} {F : Lit → List Int} (h : Gro P k e σ w g base n F) (K : Maps.Keyed P k) (ht : P.underlying t = some (.map k E)) (hn : n < maxLen) {key : Value} {kl : Lit} (hkey : keyOf P k key = some kl) (hW : W.heap[g]? = w.heap[g]?) (v : Value) :
    ∃ w2, (Instr.mapUpdate t (.map (some g)) key v).run P W = .ok () w2 ∧ W.grownBy w2 (some g) := by
  obtain ⟨⟨D, ⟨es, clock, hb, Ft, hs, hD, hbb, hlen, hap⟩, hat⟩, hro, hrows⟩ := h
  have hb1 := hW.trans hb
  let R' : Value → Option (DataW Unit × List MemPlace) := fun u => match rowElem (H := Unit) w base e .i64 u with | some z => some z | none => some (.nil, [])
  have hR' : ∃ yv, R' v = some yv := by
    simp only [R']
    cases rowElem (H := Unit) w base e .i64 v with
    | none => exact ⟨_, rfl⟩
    | some z => exact ⟨z, rfl⟩
  obtain ⟨yv, hyv⟩ := hR'
  obtain ⟨es', clock', hrun', _⟩ := Maps.fit_store (R' := R') K ht hb1 Ft (Nat.lt_of_le_of_lt hs hn) (fun x _ _ z hz => by simp only [R', hz]) hkey hyv
  refine ⟨_, hrun', rfl, rfl, rfl, ?_, fun b hb hne => heap_setBlock_other hb1 _ (fun e => hne (by rw [e]))⟩
  show W.heap.size ≤ (setBlock W g _).heap.size
  simp [setBlock]

/-- What remove leaves: the number that is struck, or nothing. -/
def RemP (ρ : Nat → Rl) (w : World) (k B : Nat) (s : PS) (x1 x2 x4 : Int) (m2 : Value) (c : List Int) (e : Ending) (w' : World) : Prop :=
  e = .returned (.tuple #[]) ∧ ∃ ρ' g, EvN k ρ w ρ' w' ∧
    ((alkL s.cls 0 (fun _ => []) (txt (order c)).data.toList = [] ∧ KP ρ' w' k B s x1 x2 (s.cls.length : Int) x4 (.map (some g)) m2) ∨
     ∃ z r i d, alkL s.cls 0 (fun _ => []) (txt (order c)).data.toList = z :: r ∧ z = ((i : Nat) : Int) ∧ s.cls[i]? = some d ∧ d.gone = false ∧ KP ρ' w' k B (s.drop i d) x1 (x2 - 1) (s.cls.length : Int) x4 (.map (some g)) m2)

theorem alkL_here : ∀ (l : List Cl) (j : Nat) (f : List UInt8 → List Int) (T : List UInt8) (z : Int), z ∈ alkL l j f T → z ∈ f T ∨ ∃ (i : Nat) (c : Cl), l[i]? = some c ∧ c.gone = false ∧ z = ((j + i : Nat) : Int)
  | [], j, f, T, z, h => .inl h
  | d :: r, j, f, T, z, h => by
    rcases alkL_here r (j + 1) _ T z h with h1 | ⟨i, c, h1, h2, h3⟩
    · cases hg : d.gone with
      | true => rw [hg] at h1; exact .inl h1
      | false =>
        rw [hg] at h1
        simp only [Bool.false_eq_true, if_false] at h1
        unfold alkC at h1
        by_cases e : T = (txt (order d.lits)).data.toList
        · subst e
          rw [updS_same, List.mem_append] at h1
          rcases h1 with h1 | h1
          · exact .inl h1
          · exact .inr ⟨0, d, rfl, hg, by simpa using h1⟩
        · rw [updS_other _ _ e] at h1; exact .inl h1
    · exact .inr ⟨i + 1, c, by simpa using h1, h2, by rw [h3]; congr 1; omega⟩
theorem new_rsn {s : PS} (hI : Inv s) (ht : s.trail = []) (i : Nat) {c : Cl} (hc : s.cls[i]? = some c) : s.rsnB i c.lits = false := by
  unfold PS.rsnB
  rw [List.any_eq_false]
  intro x hx
  have hv := hI.tr.vl x (hI.wt.ok i c hc x hx)
  have h0 : s.val x = 0 := by rw [hv, ht]; exact tval_zero.2 ⟨by simp, by simp⟩
  simp [h0]
theorem KP.setAlk {ρ : Nat → Rl} {w : World} {k B : Nat} {s : PS} {x1 x2 x3 x4 : Int} {m1 m2 : Value} (h : KP ρ w k B s x1 x2 x3 x4 m1 m2) (u : Value) : KP ρ (w.setCell ⟨k, 5, none⟩ u) k B s x1 x2 x3 x4 u m2 := by
  obtain ⟨H, hR⟩ := h.rep
  obtain ⟨o1, o2⟩ := setOff w k 5 u
  exact ⟨⟨H, hR.off (fun b hb' hr => o1 b (by rintro rfl; exact hr h.ro))⟩, (setBlk h.blk u).trans (by simp), h.ro, h.inv, h.cnt, h.lits⟩

set_option maxHeartbeats 4000000 in
set_option maxRecDepth 100000 in
theorem remove_new {ρ : Nat → Rl} {w : World} {k B : Nat} {s : PS} {x1 x2 x4 : Int} {m2 : Value} (h : KP ρ w k B s x1 x2 (s.cls.length : Int) x4 (.map none) m2) (hcl : s.cls.length ≤ 10000) (ht : s.trail = []) (a : Option Addr) (cap : Nat) (c : List Int) (hr : RowO ρ w.heap.size w a c) (hak : ∀ b off, a = some ⟨b, off, none⟩ → c ≠ [] → b ≠ k) (hl : c.length ≤ 4096) (hcap : a = none → cap = 0) (hc : mayB c 1048576 = true) (hx2 : 0 ≤ x2 ∧ x2 ≤ 262144) :
    Calls Tryz.prog 51 #[.pointer (some ⟨k, 0, none⟩), .slice a c.length cap] w (RemP ρ w k B s x1 x2 x4 m2 c) := by
  have hkl := lt_of_block h.blk
  have c5 : w.cell? ⟨k, 5, none⟩ = some (.map none) := cell_of_block h.blk rfl
  have z5 : w.frozen? ⟨k, 5, none⟩ = false := frz_of_block h.blk
  have hmm := @run_makeMap Tryz.prog
  have heq := run_eql_map_nil (P := Tryz.prog) w 60 _ _ none Tryz.underlying60
  have HK := hide h
  have HR := hide hr
  have HT := hide ht
  have hne : k ≠ w.heap.size := by omega
  clear h hr ht
  go_enter Tryz.func51, Tryz.ntmps51
  go_upto_region 2 with fail
  refine forget (P := fun W => Code.wp Tryz.prog _ _ _ W) (fun W => Hid (KP (fr ρ w.heap.size) W k B s x1 x2 (s.cls.length : Int) x4 (.map (some w.heap.size)) m2) ∧ Hid (Gro Tryz.prog 9 3 (fr ρ w.heap.size) W w.heap.size (w.heap.size + 1) 0 (fun _ => [])) ∧ Hid (EvN k ρ w (fr ρ w.heap.size) W) ∧ Hid (w.heap.size + 1 ≤ W.heap.size)) ?_ ?_
  · obtain ⟨o1, o2⟩ := setOff w k 5 (.map (some w.heap.size))
    have hb := below_alloc (w.setCell ⟨k, 5, none⟩ (.map (some w.heap.size))) (.map #[] 0)
    have hK1 := (HK.out.setAlk (.map (some w.heap.size))).fr hb
    have hal : ((w.setCell ⟨k, 5, none⟩ (.map (some w.heap.size))).alloc (.map #[] 0)).heap[(w.setCell ⟨k, 5, none⟩ (.map (some w.heap.size))).heap.size]? = some (.map #[] 0) := (MapKept.heap_alloc _ _).1
    have hE := (((Ev.refl ρ w).evN k).setCell (i := 5) (.map (some w.heap.size))).trans ((Ev.fr (ρ := ρ) hb).evN k)
    rw [o2] at hK1 hal hE
    refine ⟨hK1, gro_empty hal (fr_new (Nat.le_refl _)) (Nat.lt_succ_self _), hE, ?_⟩
    show _ ≤ _
    simp [o2]
  rintro W1 ⟨HK1, HG1, HE1, HS1⟩
  have HK1' := HK1
  obtain ⟨H1, hR1⟩ := HK1.out.rep
  have EA := hide (each_alk (ρ := fr ρ w.heap.size) (σ := fr ρ w.heap.size) (w := W1) (g := w.heap.size) (base := w.heap.size + 1) (k := k) (cell_of_block HK1.out.blk rfl) (cell_of_block HK1.out.blk rfl) (cell_of_block HK1.out.blk rfl) (by omega) hne (lt_of_block HK1.out.blk) hR1 HK1.out.inv HK1.out.lits hcl HG1.out (fun b hb => fr_new (by have := HS1.out; omega)) (fun _ _ h => h) HS1.out)
  clear hR1 c5 z5 hmm heq HK
  have HRW : Hid (∀ W', EvN k ρ w (fr ρ w.heap.size) W' → Row W' a c) := by
    intro W' hE i hi
    obtain ⟨b, off, e, hb, hro, _, hcell⟩ := HR.out i hi
    exact ⟨b, off, e, Nat.lt_of_lt_of_le hb hE.size, (World.cell?_of_block (a := ⟨b, off + i, none⟩) (hE.keep b hb (hak b off e (by rintro rfl; simp at hi)) hro)).trans hcell⟩
  clear HR
  generalize hgg : w.heap.size = g at *
  have HGG := hide hgg
  clear hgg
  go_upto_region 3 with (go_at_call 53; refine (unhide EA).mono ?_; rintro e W2 ⟨rfl, hG2, hN2⟩)
  have HK2 := hide (HK1.out.nf hN2 (by omega) hne)
  have HE2 : Hid (EvN k ρ w (fr ρ g) W2) := by
    refine ⟨hN2.os.trans HE1.out.os, hN2.tape.trans HE1.out.tape, hN2.output.trans HE1.out.output, Nat.le_trans HE1.out.size hN2.size, HE1.out.agree, fun b hb hbk hr => ?_⟩
    rw [HGG.out] at hb
    exact (hN2.keep b (by have := HS1.out; omega) (.inr ⟨by omega, by omega⟩)).trans (HE1.out.keep b (by rw [HGG.out]; exact hb) hbk hr)
  have HS2 : Hid (g + 1 ≤ W2.heap.size) := Nat.le_trans HS1.out hN2.size
  have HG2 := hide hG2
  have GC := hide (common_any a cap c W2 (HRW.out W2 HE2.out) hl hcap hc)
  clear hG2 hN2 EA HK1 HG1 HE1 HS1 HK1'
  have HTS : Hid ((txt (order c)).size ≤ maxLen) := by
    have hts := txt_size (order c)
    have hol := order_len c
    unfold Hid maxLen; omega
  have HF : Hid (∀ z ∈ alkL s.cls 0 (fun _ => []) (txt (order c)).data.toList, ∃ (i : Nat) (d : Cl), s.cls[i]? = some d ∧ d.gone = false ∧ z = (i : Int)) := by
    intro z hz
    rcases alkL_here s.cls 0 _ _ z hz with h | ⟨i, d, h1, h2, h3⟩
    · simp at h
    · exact ⟨i, d, h1, h2, by rw [h3, Nat.zero_add]⟩
  unfold RemP
  generalize hTT : txt (order c) = T at *
  generalize hFF : alkL s.cls 0 (fun _ => []) = F at *
  have HTT := hide hTT
  have HFF := hide hFF
  clear hTT hFF
  go_upto_region 4 with (go_at_call 71; refine (unhide GC).mono ?_; rintro e W3 ⟨rfl, hb3⟩)
  have HK3 := hide (HK2.out.below hb3)
  have HG3 : Hid (Gro Tryz.prog 9 3 (fr ρ g) W3 g (g + 1) (s.cls.length) (strF F)) := HG2.out.ev (fun _ _ => rfl) (fun b hb _ => hb3.block b hb)
  have HE3 : Hid (EvN k ρ w (fr ρ g) W3) := HE2.out.trans ⟨hb3.os, hb3.tape, hb3.output, hb3.size, fun _ _ => rfl, fun b hb _ _ => hb3.block b hb⟩
  have HS3 : Hid (g + 1 ≤ W3.heap.size) := Nat.le_trans HS2.out hb3.size
  clear hb3 HK2 HG2 HE2 HS2 GC HRW
  obtain ⟨a1, cap1, hlook, hoi, hzl, hro, _⟩ := gro_at9 HG3.out (by unfold maxLen; omega) (fun b hb => fr_new (by have := HS3.out; omega)) T HTS.out
  have k5 : W3.cell? ⟨k, 5, none⟩ = some (.map (some g)) := cell_of_block HK3.out.blk rfl
  have HPUT : Hid (∀ W v, W.heap[g]? = W3.heap[g]? → ∃ w2, (Instr.mapUpdate 60 (.map (some g)) (.string T) v).run Tryz.prog W = .ok () w2 ∧ W.grownBy w2 (some g)) := fun W v hW => HG3.out.put law9 Tryz.underlying60 (by unfold maxLen; omega) (WideMaps.keyOf_string_mk Tryz.underlying9 HTS.out) hW v
  cases hzs : F T.data.toList with
  | nil =>
    rw [hzs] at hlook
    have HZS := hide hzs
    clear hoi hro hzs
    go_wp2
    go_end0
    exact ⟨rfl, _, g, HE3.out, .inl ⟨by rw [HTT.out, HFF.out]; exact HZS.out, HK3.out⟩⟩
  | cons z r =>
    obtain ⟨i, d, hd1, hd2, hzi⟩ := HF.out z (by rw [hzs]; simp)
    rw [hzs] at hlook hoi hro hzl
    have HZS := hide hzs
    clear hzs HF
    obtain ⟨g3, cap3, ev, hc1, hc2, hglt⟩ := own_some hoi.1 (by simp)
    simp at ev
    obtain ⟨rfl, rfl⟩ := ev
    have hg3 := (hoi.1.lt g3 rfl).1
    have hc0 := own_cell (i := 0) hoi.1 rfl (u := .int .i64 z) (by simp)
    have hlen : (z :: r).length = r.length + 1 := rfl
    rw [hlen] at hlook hc1
    have HRO := hide (hro g3 rfl)
    clear hoi hro hzl hlen
    generalize r.length = n at *
    unfold maxLen at hc2
    have hn1 : ((n + 1 : Nat) : Int) ≠ 0 := by omega
    have hnz : (((n + 1 : Nat) : Int) == 0) = false := by simp; omega
    have hkw : k < W3.heap.size := lt_of_block HK3.out.blk
    have fin : Hid (∀ W4, W3.drew.grownBy W4 (some g) → KP (fr ρ g) W4 k B s x1 x2 (s.cls.length : Int) x4 (.map (some g)) m2 ∧ W4.cell? ⟨g3, 0, none⟩ = some (.int .i64 z) ∧ EvN k ρ w (fr ρ g) W4) := by
      intro W4 hg4
      have hg4' : W3.grownBy W4 (some g) := ⟨hg4.os, hg4.tape, hg4.output, hg4.size, hg4.block⟩
      refine ⟨HK3.out.grown hg4' (fun b e => by cases e; exact ⟨HG3.out.ro, by omega⟩), (World.cell?_of_block (a := ⟨g3, 0, none⟩) (hg4'.block g3 hglt (by simp; omega))).trans hc0, ?_⟩
      refine ⟨hg4.os.trans HE3.out.os, hg4.tape.trans HE3.out.tape, hg4.output.trans HE3.out.output, Nat.le_trans HE3.out.size hg4.size, HE3.out.agree, fun b hb hbk hr => (hg4'.block b (by rw [HGG.out] at hb; have := HS3.out; omega) (by rw [HGG.out] at hb; simp; omega)).trans (HE3.out.keep b hb hbk hr)⟩
    have hnr := new_rsn HK3.out.inv HT.out i hd1
    have HLI : Hid (∀ e ∈ (s.drop i d).cls, e.lits.length ≤ 4096) := by
      intro e he
      rw [drop_cls] at he
      rcases List.mem_or_eq_of_mem_set he with h | h
      · exact HK3.out.lits e h
      · rw [h]; simp
    have hDI := drop_inv HK3.out.inv HK3.out.cnt hd1 hd2 (fun x hx hv he => by
      unfold PS.rsnB at hnr
      rw [List.any_eq_false] at hnr
      exact hnr x hx (by simp [hv, he]))
    have HDI := hide hDI
    have HDR : Hid (∀ W m, KP (fr ρ g) W k B s x1 x2 (s.cls.length : Int) x4 (.map (some g)) m2 → EvN k ρ w (fr ρ g) W → Calls Tryz.prog 72 #[.pointer (some ⟨B, 0, none⟩), .int .i64 z] (W.drewN m) fun e w' => e = .returned (.int .i64 0) ∧ ∃ ρ5, Hid (KP ρ5 w' k B (s.drop i d) x1 x2 (s.cls.length : Int) x4 (.map (some g)) m2) ∧ Hid (EvN k ρ w ρ5 w')) := by
      intro W m hK hE
      obtain ⟨H, hR⟩ := (hK.drewN m).rep
      rw [hzi]
      refine (drop_ok hR hK.inv hK.cnt i d hd1 hd2 hnr).mono ?_
      rintro e w' ⟨rfl, ρ5, H5, hR5, hE5⟩
      exact ⟨rfl, ρ5, (hK.drewN m).ev hR5 HDI.out.1 HDI.out.2 HLI.out hE5, (hE.drewN m).trans (hE5.evN k)⟩
    have HRES : Hid (∀ ρ5 w', KP ρ5 w' k B (s.drop i d) x1 (x2 - 1) (s.cls.length : Int) x4 (.map (some g)) m2 → EvN k ρ w ρ5 w' → RemP ρ w k B s x1 x2 x4 m2 c (.returned (.tuple #[])) w') := fun ρ5 w' hK hE =>
      ⟨rfl, ρ5, g, hE, .inr ⟨z, r, i, d, by rw [HTT.out, HFF.out]; exact HZS.out, hzi, hd1, hd2, hK⟩⟩
    have hzb : 0 ≤ z ∧ z ≤ 1048576 := by
      have h1 := (List.getElem?_eq_some_iff.1 hd1).1
      omega
    clear hDI hnr hd1 hd2 hzi HLI HDI
    have HK3' := hide HK3.out
    have part : ∀ v : Value, ∃ W4, (Instr.mapUpdate 60 (.map (some g)) (.string T) v).run Tryz.prog W3.drew = .ok () W4 ∧ Hid (KP (fr ρ g) W4 k B s x1 x2 (s.cls.length : Int) x4 (.map (some g)) m2) ∧ W4.cell? ⟨g3, 0, none⟩ = some (.int .i64 z) ∧ Hid (EvN k ρ w (fr ρ g) W4) := by
      intro v
      obtain ⟨W4, hr4, hg4⟩ := HPUT.out W3.drew v rfl
      obtain ⟨f1, f2, f3⟩ := fin.out W4 hg4
      exact ⟨W4, hr4, f1, f2, f3⟩
    have PART := hide part
    clear part fin HPUT HK3' HRO
    go_upto_region 6 with fail
    go_cut [] from 30 to 36 (fun wx => Hid (KP (fr ρ g) wx k B s x1 x2 (s.cls.length : Int) x4 (.map (some g)) m2) ∧ wx.cell? ⟨g3, 0, none⟩ = some (.int .i64 z) ∧ Hid (EvN k ρ w (fr ρ g) wx))
    case first =>
      by_cases hcc : cap1 = 1
      · subst hcc
        obtain rfl : n = 0 := by omega
        obtain ⟨W4, hr4, K4, c4, E4⟩ := PART.out (.slice (some ⟨g3, 0, none⟩) 0 0)
        clear PART
        go_region
        all_goals
          go_wp2_with fail
          go_meet
          case rel => exact ⟨K4, c4, E4⟩
      · obtain ⟨W4, hr4, K4, c4, E4⟩ := PART.out (.slice (some ⟨g3, 1, none⟩) n (cap1 - 1))
        clear PART
        go_region
        all_goals
          go_wp2_with fail
          go_meet
          case rel => exact ⟨K4, c4, E4⟩
    case rest =>
    obtain ⟨K4, c4, E4⟩ := hcut
    clear hlook k5 hc0 PART HK3 HG3 HE3 HS3
    have k0 : wc.cell? ⟨k, 0, none⟩ = some (.pointer (some ⟨B, 0, none⟩)) := cell_of_block K4.out.blk rfl
    have HD4 := hide (fun m => HDR.out wc m K4.out E4.out)
    clear HDR
    go_upto_region 7 with fail
    go_cut [45] from 37 to 45 (fun y wx => y = .bool false ∧ ∃ ρ5, Hid (KP ρ5 wx k B (s.drop i d) x1 x2 (s.cls.length : Int) x4 (.map (some g)) m2) ∧ Hid (EvN k ρ w ρ5 wx))
    case first =>
      go_region_with (first | (go_at_call 72; refine (unhide HD4 _).mono ?_; rintro e w5 ⟨rfl, ρ5, K5, E5⟩))
      all_goals
        go_wp2_with fail
        go_meet
        case rel => exact ⟨rfl, ρ5, K5, E5⟩
    case rest =>
    obtain ⟨rfl, ρ5, K5, E5⟩ := hcut
    clear K4 E4 c4 k0 HD4
    have c2 : wc.cell? ⟨k, 2, none⟩ = some (.int .i64 x2) := cell_of_block K5.out.blk rfl
    have z2 : wc.frozen? ⟨k, 2, none⟩ = false := frz_of_block K5.out.blk
    have K6 : Hid (KP ρ5 (wc.setCell ⟨k, 2, none⟩ (.int .i64 (x2 - 1))) k B (s.drop i d) x1 (x2 - 1) (s.cls.length : Int) x4 (.map (some g)) m2) := K5.out.set rfl
    have E6 := hide (E5.out.setCell (i := 2) (.int .i64 (x2 - 1)))
    obtain ⟨hx2a, hx2b⟩ := hx2
    go_wp2
    go_end0
    exact HRES.out ρ5 _ K6.out E6.out
end Go.Proofs.YtlmbgaconjcaiaaGreat
