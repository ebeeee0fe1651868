/- Layer 10: the document's tree in memory: at, Get, At, Before, Put, Delete, Range (joined texts: the parts stay for reading). -/
import Derived.Test.YtkfoddblgdmabaaTrTake
import Derived.Test.YtkfoddblgdmabaaTrNear
import Derived.Test.YtkfoddblgdmabaaTrTPut
import Derived.Test.YtkfoddblgdmabaaTrTRange

section
namespace Go.Proofs.Ytkfoddblgdmabaa.tr
open Go.RowKit

abbrev RowR (w : World) (B : Nat) (v : Value) (l : List Ent) : Prop := GRow 54 2 gE w B v l
theorem Try.infoR : (Try.prog.info? 54).map (fun i => (i.zero, i.size, i.bytes)) = some (some (.agg #[.string ⟨#[]⟩, .int .i64 0]), 2, 24) := by kernel_rfl

/-- The document's tree in memory. -/
structure Rf (B : Nat) (w : World) (q : Nat) (v : Value) (l : List Ent) : Prop where
  top : w.heap[q]? = some (.cells #[v] 32 (0, 0))
  row : RowR w B v l
  qB : B ≤ q

theorem pos_below {key : ByteArray} {l : List Ent} {k : Nat} {y : Ent} (h : k < pos key l) (hy : l[k]? = some y) : ltS y.key key = true := by
  obtain ⟨r, hr⟩ := List.takeWhile_prefix (l := l) (fun e => ltS e.key key)
  have h1 : (l.takeWhile (fun e => ltS e.key key))[k]? = some y := by
    rw [← hr, List.getElem?_append_left h] at hy
    exact hy
  exact mem_tw key l y (List.mem_of_getElem? h1)
theorem pos_ge {key : ByteArray} {l : List Ent} {y : Ent} (hy : l[pos key l]? = some y) : ltS y.key key = false := by
  refine dw_head key l y ?_
  have e : l.takeWhile (fun e => ltS e.key key) ++ l.dropWhile (fun e => ltS e.key key) = l := List.takeWhile_append_dropWhile
  have h1 : (l.takeWhile (fun e => ltS e.key key) ++ l.dropWhile (fun e => ltS e.key key))[pos key l]? = some y := by rw [e]; exact hy
  unfold pos at h1
  rw [List.getElem?_append_right (Nat.le_refl _), Nat.sub_self] at h1
  rw [List.head?_eq_getElem?]
  exact h1

theorem keq_no {a b : ByteArray} (h : ¬ a = b) : (a.toList == b.toList) = false := by
  rw [beq_eq_false_iff_ne]
  exact fun e => h (toList_inj e)

section
variable {B : Nat} {w w' : World} {q : Nat} {v : Value} {l : List Ent}
theorem Rf.lt (h : Rf B w q v l) {k : Nat} (hk : k = q ∨ v.ownBlock = some k) : B ≤ k ∧ k < w.heap.size := by
  rcases hk with rfl | e
  · exact ⟨h.qB, (Array.getElem?_eq_some_iff.1 h.top).1⟩
  · exact h.row.blk e
theorem Rf.ne (h : Rf B w q v l) : v.ownBlock ≠ some q := fun e => by
  obtain ⟨cur, h1⟩ := row_obj h.row e
  have := h.top
  rw [h1] at this
  simp at this
theorem Rf.kept (h : Rf B w q v l) (k : ∀ j, (j = q ∨ v.ownBlock = some j) → w'.heap[j]? = w.heap[j]?) : Rf B w' q v l := ⟨(k q (Or.inl rfl)).trans h.top, h.row.kept (fun j e => k j (Or.inr e)), h.qB⟩
theorem Rf.below (h : Rf B w q v l) (b : Below w.heap.size w w') : Rf B w' q v l := h.kept (fun j e => b.block j (h.lt e).2)
theorem Rf.mono {B' : Nat} (h : Rf B w q v l) (hB : B' ≤ B) : Rf B' w q v l := ⟨h.top, h.row.mono hB, Nat.le_trans hB h.qB⟩

set_option maxHeartbeats 1600000 in
set_option maxRecDepth 100000 in
theorem rat_any (h : Rf B w q v l) (hlen : l.length ≤ 100000) (key : ByteArray) :
    Calls Try.prog 34 #[.pointer (some ⟨q, 0, none⟩), .string key] w fun e w' => e = .returned (.int .i64 (pos key l : Int)) ∧ w' = w := by
  obtain ⟨va, vc, rfl, _, _⟩ := h.row.len
  have c0 := (cell_obj (j := 0) h.top).1
  have HR := (show Hid _ from h.row)
  have hple := pos_le key l
  have HLT : Hid (∀ k y, k < pos key l → l[k]? = some y → ltS y.key key = true) := fun k y => pos_below
  have HGE : Hid (∀ y, l[pos key l]? = some y → ltS y.key key = false) := fun y => pos_ge
  obtain ⟨p, hp⟩ : ∃ p, pos key l = p := ⟨_, rfl⟩
  rw [hp] at hple HLT HGE ⊢
  clear h hp
  go_enter Try.func34, Try.ntmps34
  go_wp2_with fail
  go_loopw [5] (fun sk wr => ∃ k : Nat, k ≤ p ∧ sk = .int .i64 (k : Int) ∧ Hid (wr = w)) (fun sk _ => p - (Go.RowKit.intOf sk).toNat)
  case atStart => exact ⟨0, Nat.zero_le _, rfl, rfl⟩
  case round =>
    obtain ⟨k, hk, rfl, hwr⟩ := hrel
    rw [hwr.out]
    clear hwr
    by_cases hlt : k < l.length
    · have hlt2 : (k : Int) < (l.length : Int) := by omega
      have hx : l[k]? = some l[k] := by simp [hlt]
      generalize l[k] = y at hx
      obtain ⟨b, vc', e, _, _, _, s0⟩ := HR.out.cell gE_len hx
      injection e with e1 e2 e3
      subst e1
      subst e3
      have r0 := (s0 0 _ rfl).1
      rw [Nat.add_zero] at r0
      clear s0
      by_cases hkp : k < p
      · have hb : Op.bytesLess y.key.toList key.toList = true := HLT.out k y hkp hx
        clear hx
        go_wp2_with fail
        go_roundw
        case rel => exact ⟨k + 1, by omega, by go_num, True.intro⟩
        case measure => simp [Go.RowKit.intOf]; omega
      · obtain rfl : k = p := by omega
        have hb : Op.bytesLess y.key.toList key.toList = false := HGE.out y hx
        clear hx hkp
        go_wp2_with fail
        go_ret
        exact ⟨rfl, rfl⟩
    · obtain rfl : k = p := by omega
      have hlt2 : ¬ ((k : Int) < (l.length : Int)) := by omega
      go_wp2_with fail
      go_ret
      exact ⟨rfl, rfl⟩

theorem hasL_none {key : ByteArray} {l : List Ent} (h : l[pos key l]? = none) : hasL key l = false ∧ getL key l = 0 := by unfold hasL getL; rw [h]; exact ⟨rfl, rfl⟩
theorem hasL_some {key : ByteArray} {l : List Ent} {y : Ent} (h : l[pos key l]? = some y) : hasL key l = decide (y.key = key) ∧ getL key l = if y.key = key then y.n else 0 := by unfold hasL getL; rw [h]; exact ⟨rfl, rfl⟩

set_option maxHeartbeats 800000 in
set_option maxRecDepth 100000 in
theorem rget_any (h : Rf B w q v l) (hlen : l.length ≤ 100000) (key : ByteArray) :
    Calls Try.prog 24 #[.pointer (some ⟨q, 0, none⟩), .string key] w fun e w' => e = .returned (.tuple #[.int .i64 (getL key l), .bool (hasL key l)]) ∧ w' = w := by
  have cA := rat_any h hlen key
  obtain ⟨va, vc, rfl, _, _⟩ := h.row.len
  have c0 := (cell_obj (j := 0) h.top).1
  have HR := (show Hid _ from h.row)
  have hple := pos_le key l
  have g1 := @hasL_none key l
  have g2 := @hasL_some key l
  generalize hasL key l = G at *
  generalize getL key l = N at *
  generalize pos key l = p at *
  clear h
  go_enter Try.func24, Try.ntmps24
  go_wp2_with fail
  refine cA.mono ?_
  rintro e w1 ⟨rfl, hw⟩
  rw [hw]
  clear hw cA
  by_cases hlt : p < l.length
  · have hne : (p : Int) ≠ (l.length : Int) := by omega
    have hlt2 : (p : Int) < (l.length : Int) := by omega
    have hx : l[p]? = some l[p] := by simp [hlt]
    generalize l[p] = y at hx
    obtain ⟨b, vc', e, _, _, _, s0⟩ := HR.out.cell gE_len hx
    injection e with e1 e2 e3
    subst e1
    subst e3
    have r0 := (s0 0 _ rfl).1
    have r1 := (s0 1 _ rfl).1
    rw [Nat.add_zero] at r0
    obtain ⟨rfl, rfl⟩ := g2 hx
    clear s0 hx g1 g2
    by_cases hy : y.key = key
    · subst hy
      go_wp2_with fail
      go_ret2
      exact ⟨by simp, rfl⟩
    · have hyb := keq_no hy
      have HY : Hid (¬ y.key = key) := hy
      clear hy
      go_wp2_with fail
      go_ret2
      exact ⟨by simp, rfl⟩
  · obtain rfl : p = l.length := by omega
    obtain ⟨rfl, rfl⟩ := g1 (by simp)
    clear g1 g2
    go_wp2_with fail
    go_ret2
    exact ⟨rfl, rfl⟩
end

end Go.Proofs.Ytkfoddblgdmabaa.tr
end

section
namespace Go.Proofs.Ytkfoddblgdmabaa.tr
open Go.RowKit

/-- An entry, or none. -/
def optE : Option Ent → Value
  | some e => .agg #[.string e.key, .int .i64 e.n]
  | none => .agg #[.string ⟨#[]⟩, .int .i64 0]

section
variable {B : Nat} {w w' : World} {q : Nat} {v : Value} {l : List Ent}
set_option maxHeartbeats 1600000 in
set_option maxRecDepth 100000 in
theorem ratk_any (h : Rf B w q v l) (hlen : l.length ≤ 100000) (key : ByteArray) :
    Calls Try.prog 37 #[.pointer (some ⟨q, 0, none⟩), .string key] w fun e w' => e = .returned (.tuple #[optE (atL key l), .bool (atL key l).isSome]) ∧ Below w.heap.size w w' := by
  have hb0 := below_alloc1 w (.cells #[.string ⟨#[]⟩, .int .i64 0] 54)
  have h1 := h.below hb0
  have hnew : (w.alloc (.cells #[.string ⟨#[]⟩, .int .i64 0] 54)).heap[w.heap.size]? = some (.cells #[.string ⟨#[]⟩, .int .i64 0] 54 (0, 0)) := heap_alloc_new _ _
  have hple := pos_le key l
  have ga : ∀ y, l[pos key l]? = some y → atL key l = some y := fun y hy => hy
  have gn : l[pos key l]? = none → atL key l = none := fun hy => hy
  have cA := rat_any h1 hlen key
  obtain ⟨va, vc, rfl, _, _⟩ := h.row.len
  have c0 := (cell_obj (j := 0) h1.top).1
  have HR := (show Hid _ from h1.row)
  have HB : Hid (Below w.heap.size w (w.alloc (.cells #[.string ⟨#[]⟩, .int .i64 0] 54))) := hb0
  generalize atL key l = G at *
  generalize pos key l = p at *
  clear h h1 hb0
  go_enter Try.func37, Try.ntmps37
  go_wp2_with fail
  refine cA.mono ?_
  rintro e w1 ⟨rfl, hw⟩
  rw [hw]
  clear hw cA
  by_cases hlt : p < l.length
  · have hlt2 : (p : Int) < (l.length : Int) := by omega
    have hx : l[p]? = some l[p] := by simp [hlt]
    generalize l[p] = y at hx
    obtain ⟨b, vc', e, _, _, _, s0⟩ := HR.out.cell gE_len hx
    injection e with e1 e2 e3
    subst e1
    subst e3
    have r0 := (s0 0 _ rfl).1
    have r1 := (s0 1 _ rfl).1
    rw [Nat.add_zero] at r0
    obtain rfl := ga y hx
    clear s0 hx ga gn
    go_wp2_with fail
    have k0 := (cell_obj (j := 0) (heap_alloc_new w (.cells #[.string y.key, .int .i64 y.n] 54))).1
    have k1 := (cell_obj (j := 1) (heap_alloc_new w (.cells #[.string y.key, .int .i64 y.n] 54))).1
    refine ⟨rfl, .tuple #[optE (some y), .bool true], ?_, rfl, below_alloc1 _ _⟩
    simp [results, Try.results37, go_sem, k0, k1, optE]
  · obtain rfl : p = l.length := by omega
    obtain rfl := gn (by simp)
    clear ga gn
    go_wp2_with fail
    have k0 := (cell_obj (j := 0) (heap_alloc_new w (.cells #[.string ⟨#[]⟩, .int .i64 0] 54))).1
    have k1 := (cell_obj (j := 1) (heap_alloc_new w (.cells #[.string ⟨#[]⟩, .int .i64 0] 54))).1
    refine ⟨rfl, .tuple #[optE none, .bool false], ?_, rfl, below_alloc1 _ _⟩
    simp [results, Try.results37, go_sem, k0, k1, optE]
set_option maxHeartbeats 1600000 in
set_option maxRecDepth 100000 in
theorem rbefore_any (h : Rf B w q v l) (hlen : l.length ≤ 100000) (key : ByteArray) :
    Calls Try.prog 38 #[.pointer (some ⟨q, 0, none⟩), .string key] w fun e w' => e = .returned (.tuple #[optE (beL key l), .bool (beL key l).isSome]) ∧ Below w.heap.size w w' := by
  have hb0 := below_alloc1 w (.cells #[.string ⟨#[]⟩, .int .i64 0] 54)
  have h1 := h.below hb0
  have hnew : (w.alloc (.cells #[.string ⟨#[]⟩, .int .i64 0] 54)).heap[w.heap.size]? = some (.cells #[.string ⟨#[]⟩, .int .i64 0] 54 (0, 0)) := heap_alloc_new _ _
  have hple := pos_le key l
  have ga : ∀ j y, pos key l = j + 1 → l[j]? = some y → beL key l = some y := fun j y h1 hy => by
    unfold beL
    rw [h1, if_neg (by omega)]
    exact hy
  have gn : pos key l = 0 → beL key l = none := fun h1 => by
    unfold beL
    rw [if_pos h1]
  have cA := rat_any h1 hlen key
  obtain ⟨va, vc, rfl, _, _⟩ := h.row.len
  have c0 := (cell_obj (j := 0) h1.top).1
  have HR := (show Hid _ from h1.row)
  have HB : Hid (Below w.heap.size w (w.alloc (.cells #[.string ⟨#[]⟩, .int .i64 0] 54))) := hb0
  generalize beL key l = G at *
  generalize pos key l = p at *
  clear h h1 hb0
  go_enter Try.func38, Try.ntmps38
  go_wp2_with fail
  refine cA.mono ?_
  rintro e w1 ⟨rfl, hw⟩
  rw [hw]
  clear hw cA
  by_cases hlt : 0 < p
  · obtain ⟨j, rfl⟩ : ∃ j, p = j + 1 := ⟨p - 1, by omega⟩
    have hjl : j < l.length := by omega
    have hx : l[j]? = some l[j] := by simp [hjl]
    generalize l[j] = y at hx
    obtain ⟨m, hm⟩ : ∃ m : Nat, j + 1 = m := ⟨_, rfl⟩
    have hgt : (0 : Int) < (m : Int) := by omega
    have hsub : (m : Int) - 1 = (j : Int) := by omega
    have hmb : (m : Int) ≤ 100000 := by omega
    have hjl2 : (j : Int) < (l.length : Int) := by omega
    have HM : Hid (j + 1 = m) := hm
    rw [hm]
    obtain ⟨b, vc', e, _, _, _, s0⟩ := HR.out.cell gE_len hx
    injection e with e1 e2 e3
    subst e1
    subst e3
    have r0 := (s0 0 _ rfl).1
    have r1 := (s0 1 _ rfl).1
    rw [Nat.add_zero] at r0
    obtain rfl := ga j y rfl hx
    clear s0 hx ga gn hm hple hlt hjl
    go_wp2_with fail
    have k0 := (cell_obj (j := 0) (heap_alloc_new w (.cells #[.string y.key, .int .i64 y.n] 54))).1
    have k1 := (cell_obj (j := 1) (heap_alloc_new w (.cells #[.string y.key, .int .i64 y.n] 54))).1
    refine ⟨rfl, .tuple #[optE (some y), .bool true], ?_, rfl, below_alloc1 _ _⟩
    simp [results, Try.results38, go_sem, k0, k1, optE]
  · obtain rfl : p = 0 := by omega
    obtain rfl := gn rfl
    clear ga gn
    go_wp2_with fail
    have k0 := (cell_obj (j := 0) (heap_alloc_new w (.cells #[.string ⟨#[]⟩, .int .i64 0] 54))).1
    have k1 := (cell_obj (j := 1) (heap_alloc_new w (.cells #[.string ⟨#[]⟩, .int .i64 0] 54))).1
    refine ⟨rfl, .tuple #[optE none, .bool false], ?_, rfl, below_alloc1 _ _⟩
    simp [results, Try.results38, go_sem, k0, k1, optE]
end

end Go.Proofs.Ytkfoddblgdmabaa.tr
end

section
namespace Go.Proofs.Ytkfoddblgdmabaa.tr
open Go.RowKit

theorem fr_set (w : World) (b o : Nat) (u : Value) : Fr (fun k => k = b) w (w.setCell ⟨b, o, none⟩ u) := Fr.set (F := fun k => k = b) (Fr.refl _ _) (p := ⟨b, o, none⟩) (Or.inl rfl) _
section
variable {B : Nat} {w w' : World} {q : Nat} {v : Value} {l : List Ent}
theorem below_drew (w : World) : Below w.heap.size w w.drew := (Below.refl _ w).drew
theorem rrow_made (w : World) {N : Nat} (hN : N ≤ w.heap.size) : RowR (w.alloc (.cells #[] 54)) N (.slice (some ⟨w.heap.size, 0, none⟩) 0 0) [] :=
  ⟨World.ownsRow_made w #[] 0 hN (Nat.zero_le _) rfl⟩
theorem step_append_rf {ops : Array Oper} {o : Oper} {ac : Act} {w : World} {K : Act → World → Prop} {Q : Exit → Act → World → Prop} {E : Prop} (hgd : o.guard = none) (s x : Operand)
    (ho : o.op = .call { callee := .builtin .append, args := #[s, x], argTypes := #[30, 30] })
    (N : Nat) (v : Value) (A C : List Ent) (hs : ac.eval s = v) (hrow : RowR w N v A) (ad : Addr) (m c : Nat) (hC : C.length = m) (hx : ac.eval x = .slice (some ad) m c) (hm : ∀ j u, (C.flatMap gE)[j]? = some u → w.cell? (ad.add j) = some u) (hlen : A.length + m ≤ 20000) (hN : N ≤ w.heap.size)
    (h : ∀ v' w', RowR w' N v' (A ++ C) → Fr (fun k => v.ownBlock = some k) w w' → (∀ k, v'.ownBlock = some k → v.ownBlock = some k ∨ w.heap.size ≤ k) → K (ac.put o.dst v') w') :
    if Region.wanted o (yielded ops ac.tmps) = true then Oper.wp Try.prog o ac w K Q else E := by
  have hw : Region.wanted o (yielded ops ac.tmps) = true := by simp [Region.wanted, hgd]
  rw [if_pos hw]
  subst hC
  obtain ⟨v', w', hr, h2, h3, h4⟩ := run_append_row gE_len gE_one Try.underlying30 Try.infoR rfl (by decide) (by decide) o.type C hrow ad c hm (by omega) hN
  unfold Oper.wp execOp
  simp only [ho, resolve, invoke, builtin, Sem.run_bind, Sem.run_pure, Result.andThen_ok, List.map_toArray, List.map_cons, List.map_nil, hs, hx, hr]
  exact h v' w' h2 h3 h4

/-- What is known of a row's parts: the first i, and those from m on. -/
structure CutR (w : World) (q : Nat) (l : List Ent) (i m n ra rc : Nat) (ad : Addr) : Prop where
  hi : i ≤ m
  hm : m ≤ n
  hn : l.length = n
  hrc : n ≤ rc
  had : (if rc = m then some (⟨ra, 0, none⟩ : Addr) else some ⟨ra, m * 2, none⟩) = some ad
  s1 : ∀ w', Below w.heap.size w w' → ∀ j u, ((l.take i).flatMap gE)[j]? = some u → w'.cell? ((⟨ra, 0, none⟩ : Addr).add j) = some u
  s2 : ∀ w', Below w.heap.size w w' → ∀ j u, ((l.drop m).flatMap gE)[j]? = some u → w'.cell? (ad.add j) = some u
  ce : ∀ w', Below w.heap.size w w' → w'.cell? ⟨q, 0, none⟩ = some (.slice (some ⟨ra, 0, none⟩) n rc)
  l1 : (l.take i).length = i
  l2 : (l.drop m).length = n - m

theorem Rf.cut (h : Rf B w q v l) {ra rc : Nat} (e : v = .slice (some ⟨ra, 0, none⟩) l.length rc) (hc : l.length ≤ rc) {i m : Nat} (him : i ≤ m) (hm : m ≤ l.length) : ∃ ad, CutR w q l i m l.length ra rc ad := by
  have hown := h.row.own
  rw [e] at hown
  have hblk := (h.row.blk (k := ra) (by rw [e]; rfl)).2
  have hq := (h.lt (Or.inl rfl)).2
  have at1 : ∀ w', Below w.heap.size w w' → ∀ j u, ((l.take i).flatMap gE)[j]? = some u → w'.cell? ((⟨ra, 0, none⟩ : Addr).add j) = some u := fun w' hb j u hu => by
    have hj := (List.getElem?_eq_some_iff.1 hu).1
    rw [flat_len gE_len, List.length_take] at hj
    rw [← flat_take gE_len l i (by omega), List.getElem?_take, if_pos (by omega)] at hu
    have hcl := hown.cellAt j (by omega)
    rw [hu] at hcl
    rw [Addr.add_lit, Nat.zero_add]
    exact (hb.cell (p := ⟨ra, j, none⟩) hblk).trans hcl
  have ce : ∀ w', Below w.heap.size w w' → w'.cell? ⟨q, 0, none⟩ = some (.slice (some ⟨ra, 0, none⟩) l.length rc) := fun w' hb => by
    have := (hb.cell (p := ⟨q, 0, none⟩) hq).trans (cell_obj (j := 0) h.top).1
    rw [this, e]; rfl
  by_cases hr : rc = m
  · exact ⟨⟨ra, 0, none⟩, him, hm, rfl, hc, by rw [if_pos hr], at1, fun w' hb j u hu => by rw [List.drop_of_length_le (by omega)] at hu; simp at hu, ce, by rw [List.length_take]; omega, List.length_drop⟩
  · refine ⟨⟨ra, m * 2, none⟩, him, hm, rfl, hc, by rw [if_neg hr], at1, fun w' hb j u hu => ?_, ce, by rw [List.length_take]; omega, List.length_drop⟩
    have hj := (List.getElem?_eq_some_iff.1 hu).1
    rw [flat_len gE_len, List.length_drop] at hj
    rw [← flat_drop gE_len l m hm, List.getElem?_drop] at hu
    have hcl := hown.cellAt (m * 2 + j) (by omega)
    rw [hu] at hcl
    rw [Addr.add_lit]
    exact (hb.cell (p := ⟨ra, m * 2 + j, none⟩) hblk).trans hcl

/-- What a call has made of the document's tree. -/
structure RfTo (B : Nat) (w w' : World) (q : Nat) (v : Value) (l' : List Ent) : Prop where
  ex : ∃ v', Rf B w' q v' l' ∧ Fr (fun k => k = q ∨ v.ownBlock = some k) w w' ∧ ∀ k, v'.ownBlock = some k → v.ownBlock = some k ∨ w.heap.size ≤ k
theorem RfTo.refl (h : Rf B w q v l) : RfTo B w w q v l := ⟨v, h, Fr.refl _ _, fun _ e => Or.inl e⟩
/-- Another row is laid. -/
theorem Rf.laid (h : Rf B w q v l) (hb : Below w.heap.size w w') {N : Nat} {v' : Value} {l' : List Ent} (hr : RowR w' N v' l') (hN : w.heap.size ≤ N) (hB : B ≤ w.heap.size) :
    w'.cell? ⟨q, 0, none⟩ = some v ∧ w'.frozen? ⟨q, 0, none⟩ = false ∧ RfTo B w (w'.setCell ⟨q, 0, none⟩ v') q v l' := by
  have h1 := h.below hb
  have hq := (h.lt (Or.inl rfl)).2
  have f := fr_set w' q 0 v'
  have ht : (w'.setCell ⟨q, 0, none⟩ v').heap[q]? = some (.cells #[v'] 32 (0, 0)) := by simpa using heap_setCell_same w' q 0 #[v] _ v' h1.top
  refine ⟨(cell_obj (j := 0) h1.top).1, (cell_obj (j := 0) h1.top).2, ⟨v', ⟨ht, ?_, h.qB⟩, ?_, fun k e => Or.inr (Nat.le_trans hN (hr.blk e).1)⟩⟩
  · have hk := hr.mono (B' := B) (by omega)
    exact hk.kept (fun k e => f.block k (hr.blk e).2 (fun z => by have := (hr.blk e).1; omega))
  · exact (Fr.of_below hb).trans f (fun i _ e => Or.inl e)
end

end Go.Proofs.Ytkfoddblgdmabaa.tr
end

section
namespace Go.Proofs.Ytkfoddblgdmabaa.tr
open Go.RowKit

section
variable {B : Nat} {w w' : World} {q : Nat} {v : Value} {l : List Ent}
set_option maxHeartbeats 6400000 in
set_option maxRecDepth 100000 in
theorem rdel_yes (h : Rf B w q v l) (hB : B ≤ w.heap.size) (hlen : l.length ≤ 5000) (key : ByteArray) {y : Ent} (hi : l[pos key l]? = some y) (hy : y.key = key) :
    Calls Try.prog 15 #[.pointer (some ⟨q, 0, none⟩), .string key] w fun e w' => e = .returned (.bool true) ∧ RfTo B w w' q v (l.eraseIdx (pos key l)) := by
  have cA := rat_any h (by omega) key
  generalize pos key l = i at *
  have hlt : i < l.length := (List.getElem?_eq_some_iff.1 hi).1
  obtain ⟨ra, rc, e, hc, _, _, s0⟩ := h.row.cell gE_len hi
  have r0 := (s0 0 _ rfl).1
  rw [Nat.add_zero] at r0
  clear s0
  subst hy
  obtain ⟨ad, hcut⟩ := h.cut e hc (i := i) (m := i + 1) (by omega) (by omega)
  have HR := (show Hid _ from h)
  have HZ : Hid (l.eraseIdx i = l.take i ++ l.drop (i + 1)) := List.eraseIdx_eq_take_drop_succ l i
  have HL : Hid (l.length ≤ 5000) := hlen
  have hwm : IntKind.i64.wrap ((i : Int) + 1) = ((i + 1 : Nat) : Int) := by rw [IntKind.wrap_i64]; omega
  have hne : ((i : Int) == (l.length : Int)) = false := by rw [beq_eq_false_iff_ne]; omega
  have hlt2 : (i : Int) < (l.length : Int) := by omega
  have c0 : w.cell? ⟨q, 0, none⟩ = some (.slice (some ⟨ra, 0, none⟩) l.length rc) := by rw [(cell_obj (j := 0) h.top).1, ← e]; rfl
  have HB0 : Hid (B ≤ w.heap.size) := hB
  have HC : Hid (CutR w q l i (i + 1) l.length ra rc ad) := hcut
  clear h hi hcut hB hc hlen e
  go_enter Try.func15, Try.ntmps15
  go_wp2_with fail
  refine cA.mono ?_
  rintro e1 w1 ⟨rfl, hw⟩
  rw [hw]
  clear hw cA
  go_wp2_with fail
  have hcut := HC.out
  clear HC
  generalize hW : w = W1 at *
  generalize hnn : l.length = n at *
  have C : Hid (CutR W1 q l i (i + 1) n ra rc ad) := hcut
  obtain ⟨m, hm⟩ : ∃ m, i + 1 = m := ⟨_, rfl⟩
  rw [hm] at C HZ hwm
  have HBw : Hid (B ≤ W1.heap.size) := HB0.out
  have CE : Hid (∀ W, Below W1.heap.size W1 W → W.cell? ⟨q, 0, none⟩ = some (.slice (some ⟨ra, 0, none⟩) n rc)) := C.out.ce
  have him : (i : Int) + 1 = (m : Int) := by omega
  have hmb : (m : Int) ≤ 5001 := by have := HL.out; omega
  have hwm2 : IntKind.i64.wrap (m : Int) = (m : Int) := by rw [IntKind.wrap_i64]; omega
  have HWe := (show Hid _ from hW)
  clear hcut hnn hW hlt hne hlt2 r0 c0
  have hA := C.out.had
  have hin := C.out.hi
  have hmn : (m : Int) ≤ (n : Int) := by have := C.out.hm; omega
  have hmr : (m : Int) ≤ (rc : Int) := by have := C.out.hm; have := C.out.hrc; omega
  have hirc : (i : Int) ≤ (rc : Int) := by have := C.out.hm; have := C.out.hi; have := C.out.hrc; omega
  have hinn : (i : Int) ≤ (n : Int) := by have := C.out.hm; have := C.out.hi; omega
  have hnrc : (n : Int) ≤ (rc : Int) := by have := C.out.hrc; omega
  obtain ⟨N, hN⟩ : ∃ N, W1.heap.size = N := ⟨_, rfl⟩
  have HN : Hid (N ≤ W1.heap.size) := Nat.le_of_eq hN.symm
  have HNe : Hid (W1.heap.size = N) := hN
  clear hN
  refine anyL_begin (S := fun W => Below W1.heap.size W1 W) (n := 19) (by kernel_rfl) (below_drew W1) (fun hHeld => ?_)
  refine takeL 0 28 (v := .pointer (some ⟨q, 0, none⟩)) rfl rfl (by kernel_rfl) (by kernel_rfl) (by kernel_rfl) (by kernel_rfl) (fun _ _ _ h => h) (Or.inl ⟨by rfl, by (intro W hSw; have s2 := CE.out W hSw; go_simp)⟩) hHeld ?_
  (try simp only [List.setIfInBounds_toArray, List.set_cons_zero, List.set_cons_succ])
  refine takeL 2 30 (v := .pointer (some ⟨q, 0, none⟩)) rfl rfl (by kernel_rfl) (by kernel_rfl) (by kernel_rfl) (by kernel_rfl) (fun _ _ _ h => h) (Or.inl ⟨by rfl, by (intro W hSw; have s2 := CE.out W hSw; go_simp)⟩) hHeld ?_
  (try simp only [List.setIfInBounds_toArray, List.set_cons_zero, List.set_cons_succ])
  refine takeL 3 31 (v := .pointer (some ⟨q, 0, none⟩)) rfl rfl (by kernel_rfl) (by kernel_rfl) (by kernel_rfl) (by kernel_rfl) (fun _ _ _ h => h) (Or.inl ⟨by rfl, by (intro W hSw; have s2 := CE.out W hSw; go_simp)⟩) hHeld ?_
  (try simp only [List.setIfInBounds_toArray, List.set_cons_zero, List.set_cons_succ])
  refine takeL 4 32 (v := .pointer (some ⟨q, 0, none⟩)) rfl rfl (by kernel_rfl) (by kernel_rfl) (by kernel_rfl) (by kernel_rfl) (fun _ _ _ h => h) (Or.inl ⟨by rfl, by (intro W hSw; have s2 := CE.out W hSw; go_simp)⟩) hHeld ?_
  (try simp only [List.setIfInBounds_toArray, List.set_cons_zero, List.set_cons_succ])
  refine takeL 5 33 (v := .slice (some ⟨ra, 0, none⟩) n rc) rfl rfl (by kernel_rfl) (by kernel_rfl) (by kernel_rfl) (by kernel_rfl) (fun _ _ _ h => h) (Or.inl ⟨by rfl, by (intro W hSw; have s2 := CE.out W hSw; go_simp)⟩) hHeld ?_
  (try simp only [List.setIfInBounds_toArray, List.set_cons_zero, List.set_cons_succ])
  refine takeL 6 34 (v := .int .i64 (i : Int)) rfl rfl (by kernel_rfl) (by kernel_rfl) (by kernel_rfl) (by kernel_rfl) (fun _ _ _ h => h) (Or.inl ⟨by rfl, by (intro W hSw; have s2 := CE.out W hSw; go_simp)⟩) hHeld ?_
  (try simp only [List.setIfInBounds_toArray, List.set_cons_zero, List.set_cons_succ])
  refine takeL 7 35 (v := .slice (some ⟨ra, 0, none⟩) i rc) rfl rfl (by kernel_rfl) (by kernel_rfl) (by kernel_rfl) (by kernel_rfl) (fun _ _ _ h => h) (Or.inl ⟨by rfl, by (intro W hSw; have s2 := CE.out W hSw; go_simp)⟩) hHeld ?_
  (try simp only [List.setIfInBounds_toArray, List.set_cons_zero, List.set_cons_succ])
  refine takeL 9 37 (v := .pointer (some ⟨q, 0, none⟩)) rfl rfl (by kernel_rfl) (by kernel_rfl) (by kernel_rfl) (by kernel_rfl) (fun _ _ _ h => h) (Or.inl ⟨by rfl, by (intro W hSw; have s2 := CE.out W hSw; go_simp)⟩) hHeld ?_
  (try simp only [List.setIfInBounds_toArray, List.set_cons_zero, List.set_cons_succ])
  refine takeL 10 38 (v := .pointer (some ⟨q, 0, none⟩)) rfl rfl (by kernel_rfl) (by kernel_rfl) (by kernel_rfl) (by kernel_rfl) (fun _ _ _ h => h) (Or.inl ⟨by rfl, by (intro W hSw; have s2 := CE.out W hSw; go_simp)⟩) hHeld ?_
  (try simp only [List.setIfInBounds_toArray, List.set_cons_zero, List.set_cons_succ])
  refine takeL 11 39 (v := .pointer (some ⟨q, 0, none⟩)) rfl rfl (by kernel_rfl) (by kernel_rfl) (by kernel_rfl) (by kernel_rfl) (fun _ _ _ h => h) (Or.inl ⟨by rfl, by (intro W hSw; have s2 := CE.out W hSw; go_simp)⟩) hHeld ?_
  (try simp only [List.setIfInBounds_toArray, List.set_cons_zero, List.set_cons_succ])
  refine takeL 12 40 (v := .slice (some ⟨ra, 0, none⟩) n rc) rfl rfl (by kernel_rfl) (by kernel_rfl) (by kernel_rfl) (by kernel_rfl) (fun _ _ _ h => h) (Or.inl ⟨by rfl, by (intro W hSw; have s2 := CE.out W hSw; go_simp)⟩) hHeld ?_
  (try simp only [List.setIfInBounds_toArray, List.set_cons_zero, List.set_cons_succ])
  refine takeL 13 41 (v := .int .i64 (i : Int)) rfl rfl (by kernel_rfl) (by kernel_rfl) (by kernel_rfl) (by kernel_rfl) (fun _ _ _ h => h) (Or.inl ⟨by rfl, by (intro W hSw; have s2 := CE.out W hSw; go_simp)⟩) hHeld ?_
  (try simp only [List.setIfInBounds_toArray, List.set_cons_zero, List.set_cons_succ])
  refine takeL 14 42 (v := .int .i64 (m : Int)) rfl rfl (by kernel_rfl) (by kernel_rfl) (by kernel_rfl) (by kernel_rfl) (fun _ _ _ h => h) (Or.inl ⟨by rfl, by (intro W hSw; have s2 := CE.out W hSw; go_simp)⟩) hHeld ?_
  (try simp only [List.setIfInBounds_toArray, List.set_cons_zero, List.set_cons_succ])
  refine takeL 15 43 (v := .slice (some ad) (n - m) (rc - m)) rfl rfl (by kernel_rfl) (by kernel_rfl) (by kernel_rfl) (by kernel_rfl) (fun _ _ _ h => h) (Or.inl ⟨by rfl, by (intro W hSw; have s2 := CE.out W hSw; go_simp)⟩) hHeld ?_
  (try simp only [List.setIfInBounds_toArray, List.set_cons_zero, List.set_cons_succ])
  refine anyL_one 1 (by kernel_rfl) (upL rfl (fun K hK => ?_))
  go_simp
  have row1 := rrow_made _ (N := N) (Nat.le_trans HN.out hHeld.size)
  have hb1 := below2 hHeld (below_alloc1 _ (.cells #[] 54))
  refine hK.out _ _ (fun _ => hb1) (fun hHeld0 => ?_)
  have hHeld := hHeld0 (by decide)
  clear hHeld0 hK K
  (try simp only [Act.put, List.setIfInBounds_toArray, List.set_cons_zero, List.set_cons_succ])
  refine anyL_one 8 (by kernel_rfl) (upL rfl (fun K hK => ?_))
  refine step_append_rf rfl (.tmp 29) (.tmp 35) rfl N _ _ (l.take i) (by first | rfl | simp [Act.eval]) row1 ⟨ra, 0, none⟩ i rc C.out.l1 (by first | rfl | simp [Act.eval]) (C.out.s1 _ hHeld) (by have := C.out.hi; have := C.out.hm; have := HL.out; have := C.out.hn; simp; omega) (Nat.le_trans HN.out hHeld.size) ?_
  intro v2 w2 row2 fr2 new2
  have hb2 := fr2.below hHeld hHeld.size (fun k e => Nat.le_trans (Nat.le_of_eq HNe.out) (row1.blk e).1)
  refine hK.out _ _ (fun _ => hb2) (fun hHeld0 => ?_)
  have hHeld := hHeld0 (by decide)
  clear hHeld0 hK K
  (try simp only [Act.put, List.setIfInBounds_toArray])
  refine anyL_one 16 (by kernel_rfl) (upL rfl (fun K hK => ?_))
  refine step_append_rf rfl (.tmp 36) (.tmp 43) rfl N _ _ (l.drop m) (by first | rfl | simp [Act.eval]) row2 ad (n - m) (rc - m) C.out.l2 (by first | rfl | simp [Act.eval]) (C.out.s2 _ hHeld) (by have := C.out.hi; have := C.out.hm; have := HL.out; have := C.out.hn; have := C.out.l1; simp; omega) (Nat.le_trans HN.out hHeld.size) ?_
  intro v3 w3 row3 fr3 new3
  have hb3 := fr3.below hHeld hHeld.size (fun k e => Nat.le_trans (Nat.le_of_eq HNe.out) (row2.blk e).1)
  refine hK.out _ _ (fun _ => hb3) (fun hHeld0 => ?_)
  have hHeld := hHeld0 (by decide)
  clear hHeld0 hK K
  (try simp only [Act.put])
  refine anyL_one 17 (by kernel_rfl) (upL rfl (fun K hK => ?_))
  go_simp
  refine hK.out _ _ (fun _ => hHeld) (fun hHeld0 => ?_)
  have hHeld := hHeld0 (by decide)
  clear hHeld0 hK K
  (try simp only [Act.put, List.setIfInBounds_toArray, List.set_cons_zero, List.set_cons_succ])
  refine anyL_one 18 (by kernel_rfl) (upL rfl (fun K hK => ?_))
  go_simp
  refine hK.out _ _ (fun _ => hHeld) (fun hHeld0 => ?_)
  have hHeld := hHeld0 (by decide)
  clear hHeld0 hK K
  (try simp only [Act.put, List.setIfInBounds_toArray, List.set_cons_zero, List.set_cons_succ])
  rw [List.nil_append] at row3
  obtain ⟨za, zc, rfl, _, _⟩ := row3.len
  generalize hzn : (l.take i ++ l.drop m).length = zn at row3 ⊢
  clear hzn
  obtain ⟨cz, fz, tz⟩ := HR.out.laid hHeld row3 (Nat.le_of_eq HNe.out) HBw.out
  have TZ := (show Hid _ from tz)
  clear tz
  refine anyL_one 19 (by kernel_rfl) (upL rfl (fun K hK => ?_))
  go_simp
  refine hK.out _ _ (fun q => absurd rfl q) (fun _ => ?_)
  clear hK K
  (try simp only [Act.put, List.setIfInBounds_toArray, List.set_cons_zero, List.set_cons_succ])
  refine anyL_done (by kernel_rfl) ?_ _
  go_wp2_with fail
  go_ret
  exact ⟨rfl, by rw [HZ.out, HWe.out]; exact TZ.out⟩
set_option maxHeartbeats 800000 in
set_option maxRecDepth 100000 in
theorem rdel_no (h : Rf B w q v l) (hlen : l.length ≤ 5000) (key : ByteArray) (hi : ∀ y, l[pos key l]? = some y → ¬ y.key = key) :
    Calls Try.prog 15 #[.pointer (some ⟨q, 0, none⟩), .string key] w fun e w' => e = .returned (.bool false) ∧ w' = w := by
  have cA := rat_any h (by omega) key
  obtain ⟨va, vc, rfl, _, _⟩ := h.row.len
  have c0 := (cell_obj (j := 0) h.top).1
  have HR := (show Hid _ from h.row)
  have hple := pos_le key l
  generalize pos key l = p at *
  clear h
  go_enter Try.func15, Try.ntmps15
  go_wp2_with fail
  refine cA.mono ?_
  rintro e w1 ⟨rfl, hw⟩
  rw [hw]
  clear hw cA
  by_cases hlt : p < l.length
  · have hne : (p : Int) ≠ (l.length : Int) := by omega
    have hlt2 : (p : Int) < (l.length : Int) := by omega
    have hx : l[p]? = some l[p] := by simp [hlt]
    generalize l[p] = y at hx
    obtain ⟨b, vc', e, _, _, _, s0⟩ := HR.out.cell gE_len hx
    injection e with e1 e2 e3
    subst e1
    subst e3
    have r0 := (s0 0 _ rfl).1
    rw [Nat.add_zero] at r0
    have hyb := keq_no (hi y hx)
    clear s0 hx hi
    go_wp2_with fail
    go_ret
    exact ⟨rfl, rfl⟩
  · obtain rfl : p = l.length := by omega
    clear hi
    go_wp2_with fail
    go_ret
    exact ⟨rfl, rfl⟩
/-- **Delete** of the document's tree. -/
theorem rdel_any (h : Rf B w q v l) (hB : B ≤ w.heap.size) (hlen : l.length ≤ 5000) (key : ByteArray) :
    Calls Try.prog 15 #[.pointer (some ⟨q, 0, none⟩), .string key] w fun e w' => e = .returned (.bool (hasL key l)) ∧ RfTo B w w' q v (delL key l) := by
  cases hx : l[pos key l]? with
  | none =>
    obtain ⟨e1, _⟩ := hasL_none hx
    have e2 : delL key l = l := by unfold delL; rw [e1]; rfl
    rw [e1, e2]
    refine (rdel_no h hlen key (fun y hy => by rw [hx] at hy; cases hy)).mono ?_
    rintro e w' ⟨rfl, rfl⟩
    exact ⟨rfl, .refl h⟩
  | some y =>
    obtain ⟨e1, _⟩ := hasL_some hx
    by_cases hy : y.key = key
    · have e3 : hasL key l = true := by rw [e1]; simpa using hy
      have e2 : delL key l = l.eraseIdx (pos key l) := by unfold delL; rw [e3]; rfl
      rw [e3, e2]
      exact rdel_yes h hB hlen key hx hy
    · have e3 : hasL key l = false := by rw [e1]; simpa using hy
      have e2 : delL key l = l := by unfold delL; rw [e3]; rfl
      rw [e3, e2]
      refine (rdel_no h hlen key (fun z hz => by rw [hx] at hz; cases hz; exact hy)).mono ?_
      rintro e w' ⟨rfl, rfl⟩
      exact ⟨rfl, .refl h⟩
end

end Go.Proofs.Ytkfoddblgdmabaa.tr
end

section
namespace Go.Proofs.Ytkfoddblgdmabaa.tr
open Go.RowKit

section
variable {B : Nat} {w w' : World} {q : Nat} {v : Value} {l : List Ent}
theorem RowR.put {b c : Nat} (h : RowR w B (.slice (some ⟨b, 0, none⟩) l.length c) l) (k : Nat) (y : Ent) (z : Int) (hk : l[k]? = some y) : RowR (w.setCell ⟨b, k * 2 + 1, none⟩ (.int .i64 z)) B (.slice (some ⟨b, 0, none⟩) l.length c) (l.set k ⟨y.key, z⟩) := by
  have h1 := own_set h.own (k * 2 + 1) (.int .i64 z)
  refine ⟨?_⟩
  rw [List.length_set]
  have e : (l.flatMap gE).set (k * 2 + 1) (.int .i64 z) = (l.set k ⟨y.key, z⟩).flatMap gE := by
    clear h h1
    induction l generalizing k with
    | nil => simp at hk
    | cons x l ih =>
      cases k with
      | zero =>
        simp at hk
        subst hk
        simp [gE]
      | succ k =>
        have h := ih k (by simpa using hk)
        have e1 : (x :: l).flatMap gE = .string x.key :: .int .i64 x.n :: l.flatMap gE := rfl
        have e2 : ((x :: l).set (k + 1) ⟨y.key, z⟩).flatMap gE = .string x.key :: .int .i64 x.n :: (l.set k ⟨y.key, z⟩).flatMap gE := rfl
        rw [e1, e2, ← h, show (k + 1) * 2 + 1 = (k * 2 + 1) + 1 + 1 by omega]
        simp only [List.set_cons_succ]
  rw [e] at h1
  exact h1

set_option maxHeartbeats 800000 in
theorem rput_long (q : Nat) (key : ByteArray) (z : Int) (w : World) (h : 4096 < key.size) : Calls Try.prog 13 #[.pointer (some ⟨q, 0, none⟩), .string key, .int .i64 z] w fun e w' => e = .returned (.tuple #[.bool false, .int .i64 2]) ∧ w' = w := by
  have d1 : (4096 : Int) < (key.size : Int) := by omega
  go_enter Try.func13, Try.ntmps13
  go_wp2_with fail
  go_ret2
  exact ⟨rfl, rfl⟩

set_option maxHeartbeats 1600000 in
set_option maxRecDepth 100000 in
theorem rput_old (h : Rf B w q v l) (hlen : l.length ≤ 5000) {key : ByteArray} (z : Int) (hks : key.size ≤ 4096) {y : Ent} (hi : l[pos key l]? = some y) (hy : y.key = key) :
    Calls Try.prog 13 #[.pointer (some ⟨q, 0, none⟩), .string key, .int .i64 z] w fun e w' => e = .returned (.tuple #[.bool false, .int .i64 0]) ∧ RfTo B w w' q v (l.set (pos key l) ⟨key, z⟩) := by
  have cA := rat_any h (by omega) key
  generalize pos key l = i at *
  have hlt : i < l.length := (List.getElem?_eq_some_iff.1 hi).1
  have d1 : ¬ ((4096 : Int) < (key.size : Int)) := by omega
  obtain ⟨b, c, e, hc, _, hbl, s0⟩ := h.row.cell gE_len hi
  subst e
  obtain ⟨r0, _⟩ := s0 0 _ rfl
  obtain ⟨r1, z1⟩ := s0 1 _ rfl
  rw [Nat.add_zero] at r0
  have c0 := (cell_obj (j := 0) h.top).1
  have f := fr_set w b (i * 2 + 1) (.int .i64 z)
  have hbq : b ≠ q := fun z => h.ne (by rw [z]; rfl)
  have HT : Hid (RfTo B w (w.setCell ⟨b, i * 2 + 1, none⟩ (.int .i64 z)) q (.slice (some ⟨b, 0, none⟩) l.length c) (l.set i ⟨y.key, z⟩)) :=
    ⟨_, ⟨(f.block q (h.lt (Or.inl rfl)).2 (Ne.symm hbq)).trans h.top, h.row.put i y z hi, h.qB⟩, f.weak (fun j _ e => Or.inr (by rw [e]; rfl)), fun k e => Or.inl e⟩
  subst hy
  have hlt2 : (i : Int) < (l.length : Int) := by omega
  clear h hi s0 f hks
  go_enter Try.func13, Try.ntmps13
  go_wp2_with fail
  refine cA.mono ?_
  rintro e1 w1 ⟨rfl, hw⟩
  rw [hw]
  clear hw cA
  go_wp2_with fail
  go_ret2
  exact ⟨rfl, HT.out⟩

set_option maxHeartbeats 1600000 in
set_option maxRecDepth 100000 in
theorem rput_many (h : Rf B w q v l) (hlen : l.length = 4096) (key : ByteArray) (z : Int) (hks : key.size ≤ 4096) (hi : ∀ y, l[pos key l]? = some y → ¬ y.key = key) :
    Calls Try.prog 13 #[.pointer (some ⟨q, 0, none⟩), .string key, .int .i64 z] w fun e w' => e = .returned (.tuple #[.bool false, .int .i64 3]) ∧ w' = w := by
  have cA := rat_any h (by omega) key
  obtain ⟨va, vc, rfl, _, _⟩ := h.row.len
  have c0 := (cell_obj (j := 0) h.top).1
  have HR := (show Hid _ from h.row)
  have hple := pos_le key l
  have d1 : ¬ ((4096 : Int) < (key.size : Int)) := by omega
  generalize pos key l = p at *
  have hll := (show Hid _ from hlen)
  rw [hlen] at c0 hple
  clear h hlen hks
  go_enter Try.func13, Try.ntmps13
  go_wp2_with fail
  refine cA.mono ?_
  rintro e w1 ⟨rfl, hw⟩
  rw [hw]
  clear hw cA
  by_cases hlt : p < 4096
  · have hlt2 : (p : Int) < 4096 := by omega
    have hx : l[p]? = some (l[p]'(by rw [hll.out]; exact hlt)) := by simp
    generalize l[p]'(by rw [hll.out]; exact hlt) = y at hx
    obtain ⟨b, vc', e, _, _, _, s0⟩ := HR.out.cell gE_len hx
    injection e with e1 e2 e3
    subst e1
    subst e3
    have r0 := (s0 0 _ rfl).1
    rw [Nat.add_zero] at r0
    have hyb := keq_no (hi y hx)
    clear s0 hx hi e2
    go_wp2_with fail
    go_ret2
    exact ⟨rfl, rfl⟩
  · have hlt2 : ¬ ((p : Int) < 4096) := by omega
    clear hi
    go_wp2_with fail
    go_ret2
    exact ⟨rfl, rfl⟩

/-- A block with an entry, beside a row. -/
structure HBR (W : World) (b : Nat) (r : Ent) (v : Value) : Prop where
  row : W.heap[b]? = some (.cells #[.string r.key, .int .i64 r.n] 54 (0, 0))
  ne : v.ownBlock ≠ some b
theorem HBR.lt {W : World} {b : Nat} {r : Ent} {v : Value} (h : HBR W b r v) : b < W.heap.size := (Array.getElem?_eq_some_iff.1 h.row).1
theorem HBR.of (W : World) (r : Ent) (v : Value) (h : ∀ k, v.ownBlock = some k → k < W.heap.size) : HBR (W.alloc (.cells #[.string r.key, .int .i64 r.n] 54)) W.heap.size r v := ⟨heap_alloc_new _ _, fun e => by have := h _ e; omega⟩
theorem HBR.app {W W' : World} {b : Nat} {r : Ent} {v v' : Value} (h : HBR W b r v) (f : Fr (fun k => v.ownBlock = some k) W W') (hn : ∀ k, v'.ownBlock = some k → v.ownBlock = some k ∨ W.heap.size ≤ k) : HBR W' b r v' :=
  ⟨(f.block b h.lt h.ne).trans h.row, fun e => (hn b e).elim h.ne (fun z => by have := h.lt; omega)⟩
theorem HBR.made {W : World} {b : Nat} {r : Ent} {v : Value} (h : HBR W b r v) : HBR (W.alloc (.cells #[] 54)) b r (.slice (some ⟨W.heap.size, 0, none⟩) 0 0) :=
  ⟨(Below.heap_alloc _ _ _ h.lt).trans h.row, fun e => by
    have hl := h.lt
    have : W.heap.size = b := by simpa [Value.ownBlock] using e
    omega⟩
theorem HBR.src {W : World} {b : Nat} {r : Ent} {v : Value} (h : HBR W b r v) : ∀ j u, ([r].flatMap gE)[j]? = some u → W.cell? ((⟨b, 0, none⟩ : Addr).add j) = some u := by
  intro j u hu
  rw [Addr.add_lit, Nat.zero_add]
  have hl : j < ([r].flatMap gE).length := (List.getElem?_eq_some_iff.1 hu).1
  rw [(cell_obj h.row).1]
  have e : [r].flatMap gE = [.string r.key, .int .i64 r.n] := rfl
  rw [e] at hu
  simpa using hu
theorem step_append_rf_none {ops : Array Oper} {o : Oper} {ac : Act} {w : World} {K : Act → World → Prop} {Q : Exit → Act → World → Prop} {E : Prop} (hgd : o.guard = none) (s x : Operand)
    (ho : o.op = .call { callee := .builtin .append, args := #[s, x], argTypes := #[30, 30] })
    (N : Nat) (v : Value) (A : List Ent) (hs : ac.eval s = v) (hrow : RowR w N v A) (hx : ac.eval x = .slice none 0 0) (h : K (ac.put o.dst v) w) :
    if Region.wanted o (yielded ops ac.tmps) = true then Oper.wp Try.prog o ac w K Q else E := by
  have hw : Region.wanted o (yielded ops ac.tmps) = true := by simp [Region.wanted, hgd]
  rw [if_pos hw]
  obtain ⟨i0, hi, hz0, hz1, hz2⟩ := info_parts Try.infoR
  have hr := run_append_owned_none (P := Try.prog) (w := w) N 30 o.type 54 i0 2 Try.underlying30 hi v A.length (A.flatMap gE) hrow.own
  unfold Oper.wp
  simp [execOp, ho, resolve, invoke, builtin, hs, hx, hr, Result.andThen]
  exact h

set_option maxHeartbeats 12800000 in
set_option maxRecDepth 100000 in
theorem rput_nil (h : Rf B w q (.slice none 0 0) []) (hB : B ≤ w.heap.size) (key : ByteArray) (z : Int) (hks : key.size ≤ 4096) :
    Calls Try.prog 13 #[.pointer (some ⟨q, 0, none⟩), .string key, .int .i64 z] w fun e w' => e = .returned (.tuple #[.bool true, .int .i64 0]) ∧ RfTo B w w' q (.slice none 0 0) [⟨key, z⟩] := by
  have cA := rat_any h (by simp) key
  have hp0 : pos key [] = 0 := rfl
  rw [hp0] at cA
  have d1 : ¬ ((4096 : Int) < (key.size : Int)) := by omega
  have c0 := (cell_obj (j := 0) h.top).1
  have HR := (show Hid _ from h)
  clear hks hp0
  go_enter Try.func13, Try.ntmps13
  go_wp2_with fail
  refine cA.mono ?_
  rintro e1 w1 ⟨rfl, hw⟩
  rw [hw]
  clear hw cA
  go_wp2_with fail
  generalize hW : w = W1 at *
  have fin9 : Hid (∀ w' : World, RfTo B W1 w' q (.slice none 0 0) ([] ++ [⟨key, z⟩]) → RfTo B W1 w' q (.slice none 0 0) [⟨key, z⟩]) := fun _ h => h
  have HBw : Hid (B ≤ W1.heap.size) := hB
  have CE : Hid (∀ W, Below W1.heap.size W1 W → W.cell? ⟨q, 0, none⟩ = some (.slice none 0 0)) := fun W hb => (hb.cell (p := ⟨q, 0, none⟩) (h.lt (Or.inl rfl)).2).trans c0
  obtain ⟨N, hN⟩ : ∃ N, W1.heap.size = N := ⟨_, rfl⟩
  have HN : Hid (N ≤ W1.heap.size) := Nat.le_of_eq hN.symm
  have HNe : Hid (W1.heap.size = N) := hN
  clear hN h c0 hB
  refine anyL_begin (S := fun W => Below W1.heap.size W1 W) (n := 23) (by kernel_rfl) (below_drew W1) (fun hHeld => ?_)
  refine takeL 0 48 (v := .pointer (some ⟨q, 0, none⟩)) rfl rfl (by kernel_rfl) (by kernel_rfl) (by kernel_rfl) (by kernel_rfl) (fun _ _ _ h => h) (Or.inl ⟨by rfl, by (intro W hSw; have s2 := CE.out W hSw; go_simp)⟩) hHeld ?_
  (try simp only [List.setIfInBounds_toArray, List.set_cons_zero, List.set_cons_succ])
  refine takeL 2 50 (v := .pointer (some ⟨q, 0, none⟩)) rfl rfl (by kernel_rfl) (by kernel_rfl) (by kernel_rfl) (by kernel_rfl) (fun _ _ _ h => h) (Or.inl ⟨by rfl, by (intro W hSw; have s2 := CE.out W hSw; go_simp)⟩) hHeld ?_
  (try simp only [List.setIfInBounds_toArray, List.set_cons_zero, List.set_cons_succ])
  refine takeL 3 51 (v := .pointer (some ⟨q, 0, none⟩)) rfl rfl (by kernel_rfl) (by kernel_rfl) (by kernel_rfl) (by kernel_rfl) (fun _ _ _ h => h) (Or.inl ⟨by rfl, by (intro W hSw; have s2 := CE.out W hSw; go_simp)⟩) hHeld ?_
  (try simp only [List.setIfInBounds_toArray, List.set_cons_zero, List.set_cons_succ])
  refine takeL 4 52 (v := .pointer (some ⟨q, 0, none⟩)) rfl rfl (by kernel_rfl) (by kernel_rfl) (by kernel_rfl) (by kernel_rfl) (fun _ _ _ h => h) (Or.inl ⟨by rfl, by (intro W hSw; have s2 := CE.out W hSw; go_simp)⟩) hHeld ?_
  (try simp only [List.setIfInBounds_toArray, List.set_cons_zero, List.set_cons_succ])
  refine takeL 5 53 (v := .slice none 0 0) rfl rfl (by kernel_rfl) (by kernel_rfl) (by kernel_rfl) (by kernel_rfl) (fun _ _ _ h => h) (Or.inl ⟨by rfl, by (intro W hSw; have s2 := CE.out W hSw; go_simp)⟩) hHeld ?_
  (try simp only [List.setIfInBounds_toArray, List.set_cons_zero, List.set_cons_succ])
  refine takeL 6 54 (v := .int .i64 0) rfl rfl (by kernel_rfl) (by kernel_rfl) (by kernel_rfl) (by kernel_rfl) (fun _ _ _ h => h) (Or.inl ⟨by rfl, by (intro W hSw; have s2 := CE.out W hSw; go_simp)⟩) hHeld ?_
  (try simp only [List.setIfInBounds_toArray, List.set_cons_zero, List.set_cons_succ])
  refine takeL 7 55 (v := .slice none 0 0) rfl rfl (by kernel_rfl) (by kernel_rfl) (by kernel_rfl) (by kernel_rfl) (fun _ _ _ h => h) (Or.inl ⟨by rfl, by (intro W hSw; have s2 := CE.out W hSw; go_simp)⟩) hHeld ?_
  (try simp only [List.setIfInBounds_toArray, List.set_cons_zero, List.set_cons_succ])
  refine takeL 9 57 (v := .string key) rfl rfl (by kernel_rfl) (by kernel_rfl) (by kernel_rfl) (by kernel_rfl) (fun _ _ _ h => h) (Or.inl ⟨by rfl, by (intro W hSw; have s2 := CE.out W hSw; go_simp)⟩) hHeld ?_
  (try simp only [List.setIfInBounds_toArray, List.set_cons_zero, List.set_cons_succ])
  refine takeL 10 58 (v := .int .i64 z) rfl rfl (by kernel_rfl) (by kernel_rfl) (by kernel_rfl) (by kernel_rfl) (fun _ _ _ h => h) (Or.inl ⟨by rfl, by (intro W hSw; have s2 := CE.out W hSw; go_simp)⟩) hHeld ?_
  (try simp only [List.setIfInBounds_toArray, List.set_cons_zero, List.set_cons_succ])
  refine takeL 11 59 (v := .agg #[.string key, .int .i64 z]) rfl rfl (by kernel_rfl) (by kernel_rfl) (by kernel_rfl) (by kernel_rfl) (fun _ _ _ h => h) (Or.inl ⟨by rfl, by (intro W hSw; have s2 := CE.out W hSw; go_simp)⟩) hHeld ?_
  (try simp only [List.setIfInBounds_toArray, List.set_cons_zero, List.set_cons_succ])
  refine takeL 14 62 (v := .pointer (some ⟨q, 0, none⟩)) rfl rfl (by kernel_rfl) (by kernel_rfl) (by kernel_rfl) (by kernel_rfl) (fun _ _ _ h => h) (Or.inl ⟨by rfl, by (intro W hSw; have s2 := CE.out W hSw; go_simp)⟩) hHeld ?_
  (try simp only [List.setIfInBounds_toArray, List.set_cons_zero, List.set_cons_succ])
  refine takeL 15 63 (v := .pointer (some ⟨q, 0, none⟩)) rfl rfl (by kernel_rfl) (by kernel_rfl) (by kernel_rfl) (by kernel_rfl) (fun _ _ _ h => h) (Or.inl ⟨by rfl, by (intro W hSw; have s2 := CE.out W hSw; go_simp)⟩) hHeld ?_
  (try simp only [List.setIfInBounds_toArray, List.set_cons_zero, List.set_cons_succ])
  refine takeL 16 64 (v := .pointer (some ⟨q, 0, none⟩)) rfl rfl (by kernel_rfl) (by kernel_rfl) (by kernel_rfl) (by kernel_rfl) (fun _ _ _ h => h) (Or.inl ⟨by rfl, by (intro W hSw; have s2 := CE.out W hSw; go_simp)⟩) hHeld ?_
  (try simp only [List.setIfInBounds_toArray, List.set_cons_zero, List.set_cons_succ])
  refine takeL 17 65 (v := .slice none 0 0) rfl rfl (by kernel_rfl) (by kernel_rfl) (by kernel_rfl) (by kernel_rfl) (fun _ _ _ h => h) (Or.inl ⟨by rfl, by (intro W hSw; have s2 := CE.out W hSw; go_simp)⟩) hHeld ?_
  (try simp only [List.setIfInBounds_toArray, List.set_cons_zero, List.set_cons_succ])
  refine takeL 18 66 (v := .int .i64 0) rfl rfl (by kernel_rfl) (by kernel_rfl) (by kernel_rfl) (by kernel_rfl) (fun _ _ _ h => h) (Or.inl ⟨by rfl, by (intro W hSw; have s2 := CE.out W hSw; go_simp)⟩) hHeld ?_
  (try simp only [List.setIfInBounds_toArray, List.set_cons_zero, List.set_cons_succ])
  refine takeL 19 67 (v := .slice none 0 0) rfl rfl (by kernel_rfl) (by kernel_rfl) (by kernel_rfl) (by kernel_rfl) (fun _ _ _ h => h) (Or.inl ⟨by rfl, by (intro W hSw; have s2 := CE.out W hSw; go_simp)⟩) hHeld ?_
  (try simp only [List.setIfInBounds_toArray, List.set_cons_zero, List.set_cons_succ])
  refine anyL_two 1 12 (by kernel_rfl) (upL rfl (fun K hK => ?_)) (upL rfl (fun K hK => ?_))
  · skip
    go_simp
    have row1 := rrow_made _ (N := N) (Nat.le_trans HN.out hHeld.size)
    have hb1 := below2 hHeld (below_alloc1 _ (.cells #[] 54))
    refine hK.out _ _ (fun _ => hb1) (fun hHeld0 => ?_)
    have hHeld := hHeld0 (by decide)
    clear hHeld0 hK K
    (try simp only [Act.put, List.setIfInBounds_toArray, List.set_cons_zero, List.set_cons_succ])
    refine anyL_two 8 12 (by kernel_rfl) (upL rfl (fun K hK => ?_)) (upL rfl (fun K hK => ?_))
    · skip
      refine step_append_rf_none rfl (.tmp 49) (.tmp 55) rfl N _ _ (by first | rfl | simp [Act.eval]) row1 (by first | rfl | simp [Act.eval]) ?_
      refine hK.out _ _ (fun _ => hHeld) (fun hHeld0 => ?_)
      have hHeld := hHeld0 (by decide)
      clear hHeld0 hK K
      (try simp only [Act.put, List.setIfInBounds_toArray])
      refine anyL_one 12 (by kernel_rfl) (upL rfl (fun K hK => ?_))
      go_simp
      have hbh := below2 hHeld (below_alloc1 _ (.cells #[.string key, .int .i64 z] 54))
      have HBh := HBR.of _ ⟨key, z⟩ _ (fun k e => (row1.blk e).2)
      have rowh := row1.below' (below_alloc1 _ (.cells #[.string key, .int .i64 z] 54))
      refine hK.out _ _ (fun _ => hbh) (fun hHeld0 => ?_)
      have hHeld := hHeld0 (by decide)
      clear hHeld0 hK K
      (try simp only [Act.put, List.setIfInBounds_toArray, List.set_cons_zero, List.set_cons_succ])
      refine anyL_one 13 (by kernel_rfl) (upL rfl (fun K hK => ?_))
      refine step_append_rf rfl (.tmp 56) (.tmp 60) rfl N _ _ ([(⟨key, z⟩ : Ent)]) (by first | rfl | simp [Act.eval]) rowh ⟨_, 0, none⟩ 1 1 rfl (by first | rfl | simp [Act.eval]) (HBh.src) (by simp) (Nat.le_trans HN.out hHeld.size) ?_
      intro v4 w4 row4 fr4 new4
      have hb4 := fr4.below hHeld hHeld.size (fun k e => Nat.le_trans (Nat.le_of_eq HNe.out) (rowh.blk e).1)
      refine hK.out _ _ (fun _ => hb4) (fun hHeld0 => ?_)
      have hHeld := hHeld0 (by decide)
      clear hHeld0 hK K
      (try simp only [Act.put, List.setIfInBounds_toArray])
      refine anyL_one 20 (by kernel_rfl) (upL rfl (fun K hK => ?_))
      refine step_append_rf_none rfl (.tmp 61) (.tmp 67) rfl N _ _ (by first | rfl | simp [Act.eval]) row4 (by first | rfl | simp [Act.eval]) ?_
      refine hK.out _ _ (fun _ => hHeld) (fun hHeld0 => ?_)
      have hHeld := hHeld0 (by decide)
      clear hHeld0 hK K
      (try simp only [Act.put])
      refine anyL_one 21 (by kernel_rfl) (upL rfl (fun K hK => ?_))
      go_simp
      refine hK.out _ _ (fun _ => hHeld) (fun hHeld0 => ?_)
      have hHeld := hHeld0 (by decide)
      clear hHeld0 hK K
      (try simp only [Act.put, List.setIfInBounds_toArray, List.set_cons_zero, List.set_cons_succ])
      refine anyL_one 22 (by kernel_rfl) (upL rfl (fun K hK => ?_))
      go_simp
      refine hK.out _ _ (fun _ => hHeld) (fun hHeld0 => ?_)
      have hHeld := hHeld0 (by decide)
      clear hHeld0 hK K
      (try simp only [Act.put, List.setIfInBounds_toArray, List.set_cons_zero, List.set_cons_succ])
      obtain ⟨za, zc, rfl, _, _⟩ := row4.len
      generalize hzn : ([] ++ [(⟨key, z⟩ : Ent)]).length = zn at row4 ⊢
      clear hzn
      obtain ⟨cz, fz, tz⟩ := HR.out.laid hHeld row4 (Nat.le_of_eq HNe.out) HBw.out
      have TZ := (show Hid _ from tz)
      clear tz
      refine anyL_one 23 (by kernel_rfl) (upL rfl (fun K hK => ?_))
      go_simp
      refine hK.out _ _ (fun q => absurd rfl q) (fun _ => ?_)
      clear hK K
      (try simp only [Act.put, List.setIfInBounds_toArray, List.set_cons_zero, List.set_cons_succ])
      refine anyL_done (by kernel_rfl) ?_ _
      go_wp2_with fail
      go_ret2
      exact ⟨rfl, fin9.out _ TZ.out⟩
    · skip
      go_simp
      have hbh := below2 hHeld (below_alloc1 _ (.cells #[.string key, .int .i64 z] 54))
      have HBh := HBR.of _ ⟨key, z⟩ _ (fun k e => (row1.blk e).2)
      have rowh := row1.below' (below_alloc1 _ (.cells #[.string key, .int .i64 z] 54))
      refine hK.out _ _ (fun _ => hbh) (fun hHeld0 => ?_)
      have hHeld := hHeld0 (by decide)
      clear hHeld0 hK K
      (try simp only [Act.put, List.setIfInBounds_toArray, List.set_cons_zero, List.set_cons_succ])
      refine anyL_one 8 (by kernel_rfl) (upL rfl (fun K hK => ?_))
      refine step_append_rf_none rfl (.tmp 49) (.tmp 55) rfl N _ _ (by first | rfl | simp [Act.eval]) rowh (by first | rfl | simp [Act.eval]) ?_
      refine hK.out _ _ (fun _ => hHeld) (fun hHeld0 => ?_)
      have hHeld := hHeld0 (by decide)
      clear hHeld0 hK K
      (try simp only [Act.put, List.setIfInBounds_toArray])
      refine anyL_one 13 (by kernel_rfl) (upL rfl (fun K hK => ?_))
      refine step_append_rf rfl (.tmp 56) (.tmp 60) rfl N _ _ ([(⟨key, z⟩ : Ent)]) (by first | rfl | simp [Act.eval]) rowh ⟨_, 0, none⟩ 1 1 rfl (by first | rfl | simp [Act.eval]) (HBh.src) (by simp) (Nat.le_trans HN.out hHeld.size) ?_
      intro v4 w4 row4 fr4 new4
      have hb4 := fr4.below hHeld hHeld.size (fun k e => Nat.le_trans (Nat.le_of_eq HNe.out) (rowh.blk e).1)
      refine hK.out _ _ (fun _ => hb4) (fun hHeld0 => ?_)
      have hHeld := hHeld0 (by decide)
      clear hHeld0 hK K
      (try simp only [Act.put])
      refine anyL_one 20 (by kernel_rfl) (upL rfl (fun K hK => ?_))
      refine step_append_rf_none rfl (.tmp 61) (.tmp 67) rfl N _ _ (by first | rfl | simp [Act.eval]) row4 (by first | rfl | simp [Act.eval]) ?_
      refine hK.out _ _ (fun _ => hHeld) (fun hHeld0 => ?_)
      have hHeld := hHeld0 (by decide)
      clear hHeld0 hK K
      (try simp only [Act.put])
      refine anyL_one 21 (by kernel_rfl) (upL rfl (fun K hK => ?_))
      go_simp
      refine hK.out _ _ (fun _ => hHeld) (fun hHeld0 => ?_)
      have hHeld := hHeld0 (by decide)
      clear hHeld0 hK K
      (try simp only [Act.put, List.setIfInBounds_toArray, List.set_cons_zero, List.set_cons_succ])
      refine anyL_one 22 (by kernel_rfl) (upL rfl (fun K hK => ?_))
      go_simp
      refine hK.out _ _ (fun _ => hHeld) (fun hHeld0 => ?_)
      have hHeld := hHeld0 (by decide)
      clear hHeld0 hK K
      (try simp only [Act.put, List.setIfInBounds_toArray, List.set_cons_zero, List.set_cons_succ])
      obtain ⟨za, zc, rfl, _, _⟩ := row4.len
      generalize hzn : ([] ++ [(⟨key, z⟩ : Ent)]).length = zn at row4 ⊢
      clear hzn
      obtain ⟨cz, fz, tz⟩ := HR.out.laid hHeld row4 (Nat.le_of_eq HNe.out) HBw.out
      have TZ := (show Hid _ from tz)
      clear tz
      refine anyL_one 23 (by kernel_rfl) (upL rfl (fun K hK => ?_))
      go_simp
      refine hK.out _ _ (fun q => absurd rfl q) (fun _ => ?_)
      clear hK K
      (try simp only [Act.put, List.setIfInBounds_toArray, List.set_cons_zero, List.set_cons_succ])
      refine anyL_done (by kernel_rfl) ?_ _
      go_wp2_with fail
      go_ret2
      exact ⟨rfl, fin9.out _ TZ.out⟩
  · skip
    go_simp
    have hbh := below2 hHeld (below_alloc1 _ (.cells #[.string key, .int .i64 z] 54))
    have HBh := HBR.of W1.drew ⟨key, z⟩ (.slice none 0 0) (fun k e => by simp [Value.ownBlock] at e)
    refine hK.out _ _ (fun _ => hbh) (fun hHeld0 => ?_)
    have hHeld := hHeld0 (by decide)
    clear hHeld0 hK K
    (try simp only [Act.put, List.setIfInBounds_toArray, List.set_cons_zero, List.set_cons_succ])
    refine anyL_one 1 (by kernel_rfl) (upL rfl (fun K hK => ?_))
    have HB1 := HBh.made
    go_simp
    have row1 := rrow_made _ (N := N) (Nat.le_trans HN.out hHeld.size)
    have hb1 := below2 hHeld (below_alloc1 _ (.cells #[] 54))
    refine hK.out _ _ (fun _ => hb1) (fun hHeld0 => ?_)
    have hHeld := hHeld0 (by decide)
    clear hHeld0 hK K
    (try simp only [Act.put, List.setIfInBounds_toArray, List.set_cons_zero, List.set_cons_succ])
    refine anyL_one 8 (by kernel_rfl) (upL rfl (fun K hK => ?_))
    refine step_append_rf_none rfl (.tmp 49) (.tmp 55) rfl N _ _ (by first | rfl | simp [Act.eval]) row1 (by first | rfl | simp [Act.eval]) ?_
    refine hK.out _ _ (fun _ => hHeld) (fun hHeld0 => ?_)
    have hHeld := hHeld0 (by decide)
    clear hHeld0 hK K
    (try simp only [Act.put, List.setIfInBounds_toArray])
    refine anyL_one 13 (by kernel_rfl) (upL rfl (fun K hK => ?_))
    refine step_append_rf rfl (.tmp 56) (.tmp 60) rfl N _ _ ([(⟨key, z⟩ : Ent)]) (by first | rfl | simp [Act.eval]) row1 ⟨_, 0, none⟩ 1 1 rfl (by first | rfl | simp [Act.eval]) (HB1.src) (by simp) (Nat.le_trans HN.out hHeld.size) ?_
    intro v4 w4 row4 fr4 new4
    have hb4 := fr4.below hHeld hHeld.size (fun k e => Nat.le_trans (Nat.le_of_eq HNe.out) (row1.blk e).1)
    refine hK.out _ _ (fun _ => hb4) (fun hHeld0 => ?_)
    have hHeld := hHeld0 (by decide)
    clear hHeld0 hK K
    (try simp only [Act.put])
    refine anyL_one 20 (by kernel_rfl) (upL rfl (fun K hK => ?_))
    refine step_append_rf_none rfl (.tmp 61) (.tmp 67) rfl N _ _ (by first | rfl | simp [Act.eval]) row4 (by first | rfl | simp [Act.eval]) ?_
    refine hK.out _ _ (fun _ => hHeld) (fun hHeld0 => ?_)
    have hHeld := hHeld0 (by decide)
    clear hHeld0 hK K
    (try simp only [Act.put])
    refine anyL_one 21 (by kernel_rfl) (upL rfl (fun K hK => ?_))
    go_simp
    refine hK.out _ _ (fun _ => hHeld) (fun hHeld0 => ?_)
    have hHeld := hHeld0 (by decide)
    clear hHeld0 hK K
    (try simp only [Act.put, List.setIfInBounds_toArray, List.set_cons_zero, List.set_cons_succ])
    refine anyL_one 22 (by kernel_rfl) (upL rfl (fun K hK => ?_))
    go_simp
    refine hK.out _ _ (fun _ => hHeld) (fun hHeld0 => ?_)
    have hHeld := hHeld0 (by decide)
    clear hHeld0 hK K
    (try simp only [Act.put, List.setIfInBounds_toArray, List.set_cons_zero, List.set_cons_succ])
    obtain ⟨za, zc, rfl, _, _⟩ := row4.len
    generalize hzn : ([] ++ [(⟨key, z⟩ : Ent)]).length = zn at row4 ⊢
    clear hzn
    obtain ⟨cz, fz, tz⟩ := HR.out.laid hHeld row4 (Nat.le_of_eq HNe.out) HBw.out
    have TZ := (show Hid _ from tz)
    clear tz
    refine anyL_one 23 (by kernel_rfl) (upL rfl (fun K hK => ?_))
    go_simp
    refine hK.out _ _ (fun q => absurd rfl q) (fun _ => ?_)
    clear hK K
    (try simp only [Act.put, List.setIfInBounds_toArray, List.set_cons_zero, List.set_cons_succ])
    refine anyL_done (by kernel_rfl) ?_ _
    go_wp2_with fail
    go_ret2
    exact ⟨rfl, fin9.out _ TZ.out⟩
end

end Go.Proofs.Ytkfoddblgdmabaa.tr
end

section
namespace Go.Proofs.Ytkfoddblgdmabaa.tr
open Go.RowKit

section
variable {B : Nat} {w w' : World} {q : Nat} {v : Value} {l : List Ent}
set_option maxHeartbeats 25600000 in
set_option maxRecDepth 100000 in
theorem rput_new (h : Rf B w q v l) (hB : B ≤ w.heap.size) (hlen : l.length < 4096) {ra rc : Nat} (hv : v = .slice (some ⟨ra, 0, none⟩) l.length rc) (hc : l.length ≤ rc) (key : ByteArray) (z : Int) (hks : key.size ≤ 4096) (hi : ∀ y, l[pos key l]? = some y → ¬ y.key = key) :
    Calls Try.prog 13 #[.pointer (some ⟨q, 0, none⟩), .string key, .int .i64 z] w fun e w' => e = .returned (.tuple #[.bool true, .int .i64 0]) ∧ RfTo B w w' q v (l.take (pos key l) ++ ⟨key, z⟩ :: l.drop (pos key l)) := by
  have cA := rat_any h (by omega) key
  have hple := pos_le key l
  generalize pos key l = i at *
  obtain ⟨ad, hcut⟩ := h.cut hv hc (i := i) (m := i) (Nat.le_refl _) hple
  have d1 : ¬ ((4096 : Int) < (key.size : Int)) := by omega
  have c0 : w.cell? ⟨q, 0, none⟩ = some (.slice (some ⟨ra, 0, none⟩) l.length rc) := by rw [(cell_obj (j := 0) h.top).1, ← hv]; rfl
  have HR := (show Hid _ from h)
  have HV := (show Hid _ from hv)
  have HL : Hid (l.length ≤ 4096) := hide (by omega)
  have HB0 : Hid (B ≤ w.heap.size) := hB
  obtain ⟨n, hn⟩ : ∃ n, l.length = n := ⟨_, rfl⟩
  have HNN : Hid (l.length = n) := hn
  have d4 : ((n : Int) == 4096) = false := by rw [beq_eq_false_iff_ne]; omega
  rw [hn] at c0 hcut
  have HC : Hid (CutR w q l i i n ra rc ad) := hcut
  have hnl : n ≤ 4096 := by omega
  have hin : i ≤ n := by omega
  clear hks h hv hc hB hlen hn hcut hple
  go_enter Try.func13, Try.ntmps13
  go_wp2_with fail
  refine cA.mono ?_
  rintro e1 w1 ⟨rfl, hw⟩
  rw [hw]
  clear hw cA
  by_cases hlt : i < n
  · have hlt2 : (i : Int) < (n : Int) := by omega
    have hxi : l[i]? = some (l[i]'(by have := HNN.out; omega)) := List.getElem?_eq_getElem _
    generalize l[i]'(by have := HNN.out; omega) = y at hxi
    obtain ⟨b, vc', e, _, _, _, s0⟩ := HR.out.row.cell gE_len hxi
    have e5 := HV.out.symm.trans e
    injection e5 with e6 e7 e8
    injection e6 with e9
    injection e9 with e10
    subst e10
    have r0 := (s0 0 _ rfl).1
    rw [Nat.add_zero] at r0
    have hyb := keq_no (hi y hxi)
    clear s0 e7 e8 e hxi hi
    go_wp2_with fail
    clear hyb r0 hlt2
    generalize hW : w = W1 at *
    have C : Hid (CutR W1 q l i i n ra rc ad) := HC.out
    have fin9 : Hid (∀ w' : World, RfTo B W1 w' q v ([] ++ l.take i ++ [⟨key, z⟩] ++ l.drop i) → RfTo B w w' q v (l.take i ++ ⟨key, z⟩ :: l.drop i)) := fun w' h => by rw [hW]; simpa using h
    have HBw : Hid (B ≤ W1.heap.size) := HB0.out
    have CE : Hid (∀ W, Below W1.heap.size W1 W → W.cell? ⟨q, 0, none⟩ = some (.slice (some ⟨ra, 0, none⟩) n rc)) := C.out.ce
    have hA := C.out.had
    have hinn : (i : Int) ≤ (n : Int) := by have := C.out.hm; omega
    have hnrc : (n : Int) ≤ (rc : Int) := by have := C.out.hrc; omega
    have hirc : (i : Int) ≤ (rc : Int) := by omega
    obtain ⟨N, hN⟩ : ∃ N, W1.heap.size = N := ⟨_, rfl⟩
    have HN : Hid (N ≤ W1.heap.size) := Nat.le_of_eq hN.symm
    have HNe : Hid (W1.heap.size = N) := hN
    clear hN hW HC
    refine anyL_begin (S := fun W => Below W1.heap.size W1 W) (n := 23) (by kernel_rfl) (below_drew W1) (fun hHeld => ?_)
    refine takeL 0 48 (v := .pointer (some ⟨q, 0, none⟩)) rfl rfl (by kernel_rfl) (by kernel_rfl) (by kernel_rfl) (by kernel_rfl) (fun _ _ _ h => h) (Or.inl ⟨by rfl, by (intro W hSw; have s2 := CE.out W hSw; go_simp)⟩) hHeld ?_
    (try simp only [List.setIfInBounds_toArray, List.set_cons_zero, List.set_cons_succ])
    refine takeL 2 50 (v := .pointer (some ⟨q, 0, none⟩)) rfl rfl (by kernel_rfl) (by kernel_rfl) (by kernel_rfl) (by kernel_rfl) (fun _ _ _ h => h) (Or.inl ⟨by rfl, by (intro W hSw; have s2 := CE.out W hSw; go_simp)⟩) hHeld ?_
    (try simp only [List.setIfInBounds_toArray, List.set_cons_zero, List.set_cons_succ])
    refine takeL 3 51 (v := .pointer (some ⟨q, 0, none⟩)) rfl rfl (by kernel_rfl) (by kernel_rfl) (by kernel_rfl) (by kernel_rfl) (fun _ _ _ h => h) (Or.inl ⟨by rfl, by (intro W hSw; have s2 := CE.out W hSw; go_simp)⟩) hHeld ?_
    (try simp only [List.setIfInBounds_toArray, List.set_cons_zero, List.set_cons_succ])
    refine takeL 4 52 (v := .pointer (some ⟨q, 0, none⟩)) rfl rfl (by kernel_rfl) (by kernel_rfl) (by kernel_rfl) (by kernel_rfl) (fun _ _ _ h => h) (Or.inl ⟨by rfl, by (intro W hSw; have s2 := CE.out W hSw; go_simp)⟩) hHeld ?_
    (try simp only [List.setIfInBounds_toArray, List.set_cons_zero, List.set_cons_succ])
    refine takeL 5 53 (v := .slice (some ⟨ra, 0, none⟩) n rc) rfl rfl (by kernel_rfl) (by kernel_rfl) (by kernel_rfl) (by kernel_rfl) (fun _ _ _ h => h) (Or.inl ⟨by rfl, by (intro W hSw; have s2 := CE.out W hSw; go_simp)⟩) hHeld ?_
    (try simp only [List.setIfInBounds_toArray, List.set_cons_zero, List.set_cons_succ])
    refine takeL 6 54 (v := .int .i64 (i : Int)) rfl rfl (by kernel_rfl) (by kernel_rfl) (by kernel_rfl) (by kernel_rfl) (fun _ _ _ h => h) (Or.inl ⟨by rfl, by (intro W hSw; have s2 := CE.out W hSw; go_simp)⟩) hHeld ?_
    (try simp only [List.setIfInBounds_toArray, List.set_cons_zero, List.set_cons_succ])
    refine takeL 7 55 (v := .slice (some ⟨ra, 0, none⟩) i rc) rfl rfl (by kernel_rfl) (by kernel_rfl) (by kernel_rfl) (by kernel_rfl) (fun _ _ _ h => h) (Or.inl ⟨by rfl, by (intro W hSw; have s2 := CE.out W hSw; go_simp)⟩) hHeld ?_
    (try simp only [List.setIfInBounds_toArray, List.set_cons_zero, List.set_cons_succ])
    refine takeL 9 57 (v := .string key) rfl rfl (by kernel_rfl) (by kernel_rfl) (by kernel_rfl) (by kernel_rfl) (fun _ _ _ h => h) (Or.inl ⟨by rfl, by (intro W hSw; have s2 := CE.out W hSw; go_simp)⟩) hHeld ?_
    (try simp only [List.setIfInBounds_toArray, List.set_cons_zero, List.set_cons_succ])
    refine takeL 10 58 (v := .int .i64 z) rfl rfl (by kernel_rfl) (by kernel_rfl) (by kernel_rfl) (by kernel_rfl) (fun _ _ _ h => h) (Or.inl ⟨by rfl, by (intro W hSw; have s2 := CE.out W hSw; go_simp)⟩) hHeld ?_
    (try simp only [List.setIfInBounds_toArray, List.set_cons_zero, List.set_cons_succ])
    refine takeL 11 59 (v := .agg #[.string key, .int .i64 z]) rfl rfl (by kernel_rfl) (by kernel_rfl) (by kernel_rfl) (by kernel_rfl) (fun _ _ _ h => h) (Or.inl ⟨by rfl, by (intro W hSw; have s2 := CE.out W hSw; go_simp)⟩) hHeld ?_
    (try simp only [List.setIfInBounds_toArray, List.set_cons_zero, List.set_cons_succ])
    refine takeL 14 62 (v := .pointer (some ⟨q, 0, none⟩)) rfl rfl (by kernel_rfl) (by kernel_rfl) (by kernel_rfl) (by kernel_rfl) (fun _ _ _ h => h) (Or.inl ⟨by rfl, by (intro W hSw; have s2 := CE.out W hSw; go_simp)⟩) hHeld ?_
    (try simp only [List.setIfInBounds_toArray, List.set_cons_zero, List.set_cons_succ])
    refine takeL 15 63 (v := .pointer (some ⟨q, 0, none⟩)) rfl rfl (by kernel_rfl) (by kernel_rfl) (by kernel_rfl) (by kernel_rfl) (fun _ _ _ h => h) (Or.inl ⟨by rfl, by (intro W hSw; have s2 := CE.out W hSw; go_simp)⟩) hHeld ?_
    (try simp only [List.setIfInBounds_toArray, List.set_cons_zero, List.set_cons_succ])
    refine takeL 16 64 (v := .pointer (some ⟨q, 0, none⟩)) rfl rfl (by kernel_rfl) (by kernel_rfl) (by kernel_rfl) (by kernel_rfl) (fun _ _ _ h => h) (Or.inl ⟨by rfl, by (intro W hSw; have s2 := CE.out W hSw; go_simp)⟩) hHeld ?_
    (try simp only [List.setIfInBounds_toArray, List.set_cons_zero, List.set_cons_succ])
    refine takeL 17 65 (v := .slice (some ⟨ra, 0, none⟩) n rc) rfl rfl (by kernel_rfl) (by kernel_rfl) (by kernel_rfl) (by kernel_rfl) (fun _ _ _ h => h) (Or.inl ⟨by rfl, by (intro W hSw; have s2 := CE.out W hSw; go_simp)⟩) hHeld ?_
    (try simp only [List.setIfInBounds_toArray, List.set_cons_zero, List.set_cons_succ])
    refine takeL 18 66 (v := .int .i64 (i : Int)) rfl rfl (by kernel_rfl) (by kernel_rfl) (by kernel_rfl) (by kernel_rfl) (fun _ _ _ h => h) (Or.inl ⟨by rfl, by (intro W hSw; have s2 := CE.out W hSw; go_simp)⟩) hHeld ?_
    (try simp only [List.setIfInBounds_toArray, List.set_cons_zero, List.set_cons_succ])
    refine takeL 19 67 (v := .slice (some ad) (n - i) (rc - i)) rfl rfl (by kernel_rfl) (by kernel_rfl) (by kernel_rfl) (by kernel_rfl) (fun _ _ _ h => h) (Or.inl ⟨by rfl, by (intro W hSw; have s2 := CE.out W hSw; go_simp)⟩) hHeld ?_
    (try simp only [List.setIfInBounds_toArray, List.set_cons_zero, List.set_cons_succ])
    refine anyL_two 1 12 (by kernel_rfl) (upL rfl (fun K hK => ?_)) (upL rfl (fun K hK => ?_))
    · skip
      go_simp
      have row1 := rrow_made _ (N := N) (Nat.le_trans HN.out hHeld.size)
      have hb1 := below2 hHeld (below_alloc1 _ (.cells #[] 54))
      refine hK.out _ _ (fun _ => hb1) (fun hHeld0 => ?_)
      have hHeld := hHeld0 (by decide)
      clear hHeld0 hK K
      (try simp only [Act.put, List.setIfInBounds_toArray, List.set_cons_zero, List.set_cons_succ])
      refine anyL_two 8 12 (by kernel_rfl) (upL rfl (fun K hK => ?_)) (upL rfl (fun K hK => ?_))
      · skip
        refine step_append_rf rfl (.tmp 49) (.tmp 55) rfl N _ _ (l.take i) (by first | rfl | simp [Act.eval]) row1 ⟨ra, 0, none⟩ i rc C.out.l1 (by first | rfl | simp [Act.eval]) (C.out.s1 _ hHeld) (by have := C.out.hm; have := HL.out; have := C.out.hn; simp; omega) (Nat.le_trans HN.out hHeld.size) ?_
        intro v2 w2 row2 fr2 new2
        have hb2 := fr2.below hHeld hHeld.size (fun k e => Nat.le_trans (Nat.le_of_eq HNe.out) (row1.blk e).1)
        refine hK.out _ _ (fun _ => hb2) (fun hHeld0 => ?_)
        have hHeld := hHeld0 (by decide)
        clear hHeld0 hK K
        (try simp only [Act.put, List.setIfInBounds_toArray])
        refine anyL_one 12 (by kernel_rfl) (upL rfl (fun K hK => ?_))
        go_simp
        have hbh := below2 hHeld (below_alloc1 _ (.cells #[.string key, .int .i64 z] 54))
        have HBh := HBR.of _ ⟨key, z⟩ _ (fun k e => (row2.blk e).2)
        have rowh := row2.below' (below_alloc1 _ (.cells #[.string key, .int .i64 z] 54))
        refine hK.out _ _ (fun _ => hbh) (fun hHeld0 => ?_)
        have hHeld := hHeld0 (by decide)
        clear hHeld0 hK K
        (try simp only [Act.put, List.setIfInBounds_toArray, List.set_cons_zero, List.set_cons_succ])
        refine anyL_one 13 (by kernel_rfl) (upL rfl (fun K hK => ?_))
        refine step_append_rf rfl (.tmp 56) (.tmp 60) rfl N _ _ ([(⟨key, z⟩ : Ent)]) (by first | rfl | simp [Act.eval]) rowh ⟨_, 0, none⟩ 1 1 rfl (by first | rfl | simp [Act.eval]) (HBh.src) (by have := C.out.hm; have := HL.out; have := C.out.hn; have := C.out.l1; simp; omega) (Nat.le_trans HN.out hHeld.size) ?_
        intro v4 w4 row4 fr4 new4
        have hb4 := fr4.below hHeld hHeld.size (fun k e => Nat.le_trans (Nat.le_of_eq HNe.out) (rowh.blk e).1)
        refine hK.out _ _ (fun _ => hb4) (fun hHeld0 => ?_)
        have hHeld := hHeld0 (by decide)
        clear hHeld0 hK K
        (try simp only [Act.put, List.setIfInBounds_toArray])
        refine anyL_one 20 (by kernel_rfl) (upL rfl (fun K hK => ?_))
        refine step_append_rf rfl (.tmp 61) (.tmp 67) rfl N _ _ (l.drop i) (by first | rfl | simp [Act.eval]) row4 ad (n - i) (rc - i) C.out.l2 (by first | rfl | simp [Act.eval]) (C.out.s2 _ hHeld) (by have := C.out.hm; have := HL.out; have := C.out.hn; have := C.out.l1; simp; omega) (Nat.le_trans HN.out hHeld.size) ?_
        intro v5 w5 row5 fr5 new5
        have hb5 := fr5.below hHeld hHeld.size (fun k e => Nat.le_trans (Nat.le_of_eq HNe.out) (row4.blk e).1)
        refine hK.out _ _ (fun _ => hb5) (fun hHeld0 => ?_)
        have hHeld := hHeld0 (by decide)
        clear hHeld0 hK K
        (try simp only [Act.put])
        refine anyL_one 21 (by kernel_rfl) (upL rfl (fun K hK => ?_))
        go_simp
        refine hK.out _ _ (fun _ => hHeld) (fun hHeld0 => ?_)
        have hHeld := hHeld0 (by decide)
        clear hHeld0 hK K
        (try simp only [Act.put, List.setIfInBounds_toArray, List.set_cons_zero, List.set_cons_succ])
        refine anyL_one 22 (by kernel_rfl) (upL rfl (fun K hK => ?_))
        go_simp
        refine hK.out _ _ (fun _ => hHeld) (fun hHeld0 => ?_)
        have hHeld := hHeld0 (by decide)
        clear hHeld0 hK K
        (try simp only [Act.put, List.setIfInBounds_toArray, List.set_cons_zero, List.set_cons_succ])
        obtain ⟨za, zc, rfl, _, _⟩ := row5.len
        generalize hzn : ([] ++ l.take i ++ [(⟨key, z⟩ : Ent)] ++ l.drop i).length = zn at row5 ⊢
        clear hzn
        obtain ⟨cz, fz, tz⟩ := HR.out.laid hHeld row5 (Nat.le_of_eq HNe.out) HBw.out
        have TZ := (show Hid _ from tz)
        clear tz
        refine anyL_one 23 (by kernel_rfl) (upL rfl (fun K hK => ?_))
        go_simp
        refine hK.out _ _ (fun q => absurd rfl q) (fun _ => ?_)
        clear hK K
        (try simp only [Act.put, List.setIfInBounds_toArray, List.set_cons_zero, List.set_cons_succ])
        refine anyL_done (by kernel_rfl) ?_ _
        go_wp2_with fail
        go_ret2
        exact ⟨rfl, fin9.out _ TZ.out⟩
      · skip
        go_simp
        have hbh := below2 hHeld (below_alloc1 _ (.cells #[.string key, .int .i64 z] 54))
        have HBh := HBR.of _ ⟨key, z⟩ _ (fun k e => (row1.blk e).2)
        have rowh := row1.below' (below_alloc1 _ (.cells #[.string key, .int .i64 z] 54))
        refine hK.out _ _ (fun _ => hbh) (fun hHeld0 => ?_)
        have hHeld := hHeld0 (by decide)
        clear hHeld0 hK K
        (try simp only [Act.put, List.setIfInBounds_toArray, List.set_cons_zero, List.set_cons_succ])
        refine anyL_one 8 (by kernel_rfl) (upL rfl (fun K hK => ?_))
        refine step_append_rf rfl (.tmp 49) (.tmp 55) rfl N _ _ (l.take i) (by first | rfl | simp [Act.eval]) rowh ⟨ra, 0, none⟩ i rc C.out.l1 (by first | rfl | simp [Act.eval]) (C.out.s1 _ hHeld) (by have := C.out.hm; have := HL.out; have := C.out.hn; simp; omega) (Nat.le_trans HN.out hHeld.size) ?_
        intro v2 w2 row2 fr2 new2
        have hb2 := fr2.below hHeld hHeld.size (fun k e => Nat.le_trans (Nat.le_of_eq HNe.out) (rowh.blk e).1)
        refine hK.out _ _ (fun _ => hb2) (fun hHeld0 => ?_)
        have hHeld := hHeld0 (by decide)
        clear hHeld0 hK K
        (try simp only [Act.put, List.setIfInBounds_toArray])
        have HB2 := HBh.app fr2 new2
        refine anyL_one 13 (by kernel_rfl) (upL rfl (fun K hK => ?_))
        refine step_append_rf rfl (.tmp 56) (.tmp 60) rfl N _ _ ([(⟨key, z⟩ : Ent)]) (by first | rfl | simp [Act.eval]) row2 ⟨_, 0, none⟩ 1 1 rfl (by first | rfl | simp [Act.eval]) (HB2.src) (by have := C.out.hm; have := HL.out; have := C.out.hn; have := C.out.l1; simp; omega) (Nat.le_trans HN.out hHeld.size) ?_
        intro v4 w4 row4 fr4 new4
        have hb4 := fr4.below hHeld hHeld.size (fun k e => Nat.le_trans (Nat.le_of_eq HNe.out) (row2.blk e).1)
        refine hK.out _ _ (fun _ => hb4) (fun hHeld0 => ?_)
        have hHeld := hHeld0 (by decide)
        clear hHeld0 hK K
        (try simp only [Act.put])
        refine anyL_one 20 (by kernel_rfl) (upL rfl (fun K hK => ?_))
        refine step_append_rf rfl (.tmp 61) (.tmp 67) rfl N _ _ (l.drop i) (by first | rfl | simp [Act.eval]) row4 ad (n - i) (rc - i) C.out.l2 (by first | rfl | simp [Act.eval]) (C.out.s2 _ hHeld) (by have := C.out.hm; have := HL.out; have := C.out.hn; have := C.out.l1; simp; omega) (Nat.le_trans HN.out hHeld.size) ?_
        intro v5 w5 row5 fr5 new5
        have hb5 := fr5.below hHeld hHeld.size (fun k e => Nat.le_trans (Nat.le_of_eq HNe.out) (row4.blk e).1)
        refine hK.out _ _ (fun _ => hb5) (fun hHeld0 => ?_)
        have hHeld := hHeld0 (by decide)
        clear hHeld0 hK K
        (try simp only [Act.put])
        refine anyL_one 21 (by kernel_rfl) (upL rfl (fun K hK => ?_))
        go_simp
        refine hK.out _ _ (fun _ => hHeld) (fun hHeld0 => ?_)
        have hHeld := hHeld0 (by decide)
        clear hHeld0 hK K
        (try simp only [Act.put, List.setIfInBounds_toArray, List.set_cons_zero, List.set_cons_succ])
        refine anyL_one 22 (by kernel_rfl) (upL rfl (fun K hK => ?_))
        go_simp
        refine hK.out _ _ (fun _ => hHeld) (fun hHeld0 => ?_)
        have hHeld := hHeld0 (by decide)
        clear hHeld0 hK K
        (try simp only [Act.put, List.setIfInBounds_toArray, List.set_cons_zero, List.set_cons_succ])
        obtain ⟨za, zc, rfl, _, _⟩ := row5.len
        generalize hzn : ([] ++ l.take i ++ [(⟨key, z⟩ : Ent)] ++ l.drop i).length = zn at row5 ⊢
        clear hzn
        obtain ⟨cz, fz, tz⟩ := HR.out.laid hHeld row5 (Nat.le_of_eq HNe.out) HBw.out
        have TZ := (show Hid _ from tz)
        clear tz
        refine anyL_one 23 (by kernel_rfl) (upL rfl (fun K hK => ?_))
        go_simp
        refine hK.out _ _ (fun q => absurd rfl q) (fun _ => ?_)
        clear hK K
        (try simp only [Act.put, List.setIfInBounds_toArray, List.set_cons_zero, List.set_cons_succ])
        refine anyL_done (by kernel_rfl) ?_ _
        go_wp2_with fail
        go_ret2
        exact ⟨rfl, fin9.out _ TZ.out⟩
    · skip
      go_simp
      have hbh := below2 hHeld (below_alloc1 _ (.cells #[.string key, .int .i64 z] 54))
      have HBh := HBR.of W1.drew ⟨key, z⟩ (.slice none 0 0) (fun k e => by simp [Value.ownBlock] at e)
      refine hK.out _ _ (fun _ => hbh) (fun hHeld0 => ?_)
      have hHeld := hHeld0 (by decide)
      clear hHeld0 hK K
      (try simp only [Act.put, List.setIfInBounds_toArray, List.set_cons_zero, List.set_cons_succ])
      refine anyL_one 1 (by kernel_rfl) (upL rfl (fun K hK => ?_))
      have HB1 := HBh.made
      go_simp
      have row1 := rrow_made _ (N := N) (Nat.le_trans HN.out hHeld.size)
      have hb1 := below2 hHeld (below_alloc1 _ (.cells #[] 54))
      refine hK.out _ _ (fun _ => hb1) (fun hHeld0 => ?_)
      have hHeld := hHeld0 (by decide)
      clear hHeld0 hK K
      (try simp only [Act.put, List.setIfInBounds_toArray, List.set_cons_zero, List.set_cons_succ])
      refine anyL_one 8 (by kernel_rfl) (upL rfl (fun K hK => ?_))
      refine step_append_rf rfl (.tmp 49) (.tmp 55) rfl N _ _ (l.take i) (by first | rfl | simp [Act.eval]) row1 ⟨ra, 0, none⟩ i rc C.out.l1 (by first | rfl | simp [Act.eval]) (C.out.s1 _ hHeld) (by have := C.out.hm; have := HL.out; have := C.out.hn; simp; omega) (Nat.le_trans HN.out hHeld.size) ?_
      intro v2 w2 row2 fr2 new2
      have hb2 := fr2.below hHeld hHeld.size (fun k e => Nat.le_trans (Nat.le_of_eq HNe.out) (row1.blk e).1)
      refine hK.out _ _ (fun _ => hb2) (fun hHeld0 => ?_)
      have hHeld := hHeld0 (by decide)
      clear hHeld0 hK K
      (try simp only [Act.put, List.setIfInBounds_toArray])
      have HB2 := HB1.app fr2 new2
      refine anyL_one 13 (by kernel_rfl) (upL rfl (fun K hK => ?_))
      refine step_append_rf rfl (.tmp 56) (.tmp 60) rfl N _ _ ([(⟨key, z⟩ : Ent)]) (by first | rfl | simp [Act.eval]) row2 ⟨_, 0, none⟩ 1 1 rfl (by first | rfl | simp [Act.eval]) (HB2.src) (by have := C.out.hm; have := HL.out; have := C.out.hn; have := C.out.l1; simp; omega) (Nat.le_trans HN.out hHeld.size) ?_
      intro v4 w4 row4 fr4 new4
      have hb4 := fr4.below hHeld hHeld.size (fun k e => Nat.le_trans (Nat.le_of_eq HNe.out) (row2.blk e).1)
      refine hK.out _ _ (fun _ => hb4) (fun hHeld0 => ?_)
      have hHeld := hHeld0 (by decide)
      clear hHeld0 hK K
      (try simp only [Act.put])
      refine anyL_one 20 (by kernel_rfl) (upL rfl (fun K hK => ?_))
      refine step_append_rf rfl (.tmp 61) (.tmp 67) rfl N _ _ (l.drop i) (by first | rfl | simp [Act.eval]) row4 ad (n - i) (rc - i) C.out.l2 (by first | rfl | simp [Act.eval]) (C.out.s2 _ hHeld) (by have := C.out.hm; have := HL.out; have := C.out.hn; have := C.out.l1; simp; omega) (Nat.le_trans HN.out hHeld.size) ?_
      intro v5 w5 row5 fr5 new5
      have hb5 := fr5.below hHeld hHeld.size (fun k e => Nat.le_trans (Nat.le_of_eq HNe.out) (row4.blk e).1)
      refine hK.out _ _ (fun _ => hb5) (fun hHeld0 => ?_)
      have hHeld := hHeld0 (by decide)
      clear hHeld0 hK K
      (try simp only [Act.put])
      refine anyL_one 21 (by kernel_rfl) (upL rfl (fun K hK => ?_))
      go_simp
      refine hK.out _ _ (fun _ => hHeld) (fun hHeld0 => ?_)
      have hHeld := hHeld0 (by decide)
      clear hHeld0 hK K
      (try simp only [Act.put, List.setIfInBounds_toArray, List.set_cons_zero, List.set_cons_succ])
      refine anyL_one 22 (by kernel_rfl) (upL rfl (fun K hK => ?_))
      go_simp
      refine hK.out _ _ (fun _ => hHeld) (fun hHeld0 => ?_)
      have hHeld := hHeld0 (by decide)
      clear hHeld0 hK K
      (try simp only [Act.put, List.setIfInBounds_toArray, List.set_cons_zero, List.set_cons_succ])
      obtain ⟨za, zc, rfl, _, _⟩ := row5.len
      generalize hzn : ([] ++ l.take i ++ [(⟨key, z⟩ : Ent)] ++ l.drop i).length = zn at row5 ⊢
      clear hzn
      obtain ⟨cz, fz, tz⟩ := HR.out.laid hHeld row5 (Nat.le_of_eq HNe.out) HBw.out
      have TZ := (show Hid _ from tz)
      clear tz
      refine anyL_one 23 (by kernel_rfl) (upL rfl (fun K hK => ?_))
      go_simp
      refine hK.out _ _ (fun q => absurd rfl q) (fun _ => ?_)
      clear hK K
      (try simp only [Act.put, List.setIfInBounds_toArray, List.set_cons_zero, List.set_cons_succ])
      refine anyL_done (by kernel_rfl) ?_ _
      go_wp2_with fail
      go_ret2
      exact ⟨rfl, fin9.out _ TZ.out⟩
  · have hlt2 : ¬ ((i : Int) < (n : Int)) := by omega
    clear hi
    go_wp2_with fail
    clear hlt2
    generalize hW : w = W1 at *
    have C : Hid (CutR W1 q l i i n ra rc ad) := HC.out
    have fin9 : Hid (∀ w' : World, RfTo B W1 w' q v ([] ++ l.take i ++ [⟨key, z⟩] ++ l.drop i) → RfTo B w w' q v (l.take i ++ ⟨key, z⟩ :: l.drop i)) := fun w' h => by rw [hW]; simpa using h
    have HBw : Hid (B ≤ W1.heap.size) := HB0.out
    have CE : Hid (∀ W, Below W1.heap.size W1 W → W.cell? ⟨q, 0, none⟩ = some (.slice (some ⟨ra, 0, none⟩) n rc)) := C.out.ce
    have hA := C.out.had
    have hinn : (i : Int) ≤ (n : Int) := by have := C.out.hm; omega
    have hnrc : (n : Int) ≤ (rc : Int) := by have := C.out.hrc; omega
    have hirc : (i : Int) ≤ (rc : Int) := by omega
    obtain ⟨N, hN⟩ : ∃ N, W1.heap.size = N := ⟨_, rfl⟩
    have HN : Hid (N ≤ W1.heap.size) := Nat.le_of_eq hN.symm
    have HNe : Hid (W1.heap.size = N) := hN
    clear hN hW HC
    refine anyL_begin (S := fun W => Below W1.heap.size W1 W) (n := 23) (by kernel_rfl) (below_drew W1) (fun hHeld => ?_)
    refine takeL 0 48 (v := .pointer (some ⟨q, 0, none⟩)) rfl rfl (by kernel_rfl) (by kernel_rfl) (by kernel_rfl) (by kernel_rfl) (fun _ _ _ h => h) (Or.inl ⟨by rfl, by (intro W hSw; have s2 := CE.out W hSw; go_simp)⟩) hHeld ?_
    (try simp only [List.setIfInBounds_toArray, List.set_cons_zero, List.set_cons_succ])
    refine takeL 2 50 (v := .pointer (some ⟨q, 0, none⟩)) rfl rfl (by kernel_rfl) (by kernel_rfl) (by kernel_rfl) (by kernel_rfl) (fun _ _ _ h => h) (Or.inl ⟨by rfl, by (intro W hSw; have s2 := CE.out W hSw; go_simp)⟩) hHeld ?_
    (try simp only [List.setIfInBounds_toArray, List.set_cons_zero, List.set_cons_succ])
    refine takeL 3 51 (v := .pointer (some ⟨q, 0, none⟩)) rfl rfl (by kernel_rfl) (by kernel_rfl) (by kernel_rfl) (by kernel_rfl) (fun _ _ _ h => h) (Or.inl ⟨by rfl, by (intro W hSw; have s2 := CE.out W hSw; go_simp)⟩) hHeld ?_
    (try simp only [List.setIfInBounds_toArray, List.set_cons_zero, List.set_cons_succ])
    refine takeL 4 52 (v := .pointer (some ⟨q, 0, none⟩)) rfl rfl (by kernel_rfl) (by kernel_rfl) (by kernel_rfl) (by kernel_rfl) (fun _ _ _ h => h) (Or.inl ⟨by rfl, by (intro W hSw; have s2 := CE.out W hSw; go_simp)⟩) hHeld ?_
    (try simp only [List.setIfInBounds_toArray, List.set_cons_zero, List.set_cons_succ])
    refine takeL 5 53 (v := .slice (some ⟨ra, 0, none⟩) n rc) rfl rfl (by kernel_rfl) (by kernel_rfl) (by kernel_rfl) (by kernel_rfl) (fun _ _ _ h => h) (Or.inl ⟨by rfl, by (intro W hSw; have s2 := CE.out W hSw; go_simp)⟩) hHeld ?_
    (try simp only [List.setIfInBounds_toArray, List.set_cons_zero, List.set_cons_succ])
    refine takeL 6 54 (v := .int .i64 (i : Int)) rfl rfl (by kernel_rfl) (by kernel_rfl) (by kernel_rfl) (by kernel_rfl) (fun _ _ _ h => h) (Or.inl ⟨by rfl, by (intro W hSw; have s2 := CE.out W hSw; go_simp)⟩) hHeld ?_
    (try simp only [List.setIfInBounds_toArray, List.set_cons_zero, List.set_cons_succ])
    refine takeL 7 55 (v := .slice (some ⟨ra, 0, none⟩) i rc) rfl rfl (by kernel_rfl) (by kernel_rfl) (by kernel_rfl) (by kernel_rfl) (fun _ _ _ h => h) (Or.inl ⟨by rfl, by (intro W hSw; have s2 := CE.out W hSw; go_simp)⟩) hHeld ?_
    (try simp only [List.setIfInBounds_toArray, List.set_cons_zero, List.set_cons_succ])
    refine takeL 9 57 (v := .string key) rfl rfl (by kernel_rfl) (by kernel_rfl) (by kernel_rfl) (by kernel_rfl) (fun _ _ _ h => h) (Or.inl ⟨by rfl, by (intro W hSw; have s2 := CE.out W hSw; go_simp)⟩) hHeld ?_
    (try simp only [List.setIfInBounds_toArray, List.set_cons_zero, List.set_cons_succ])
    refine takeL 10 58 (v := .int .i64 z) rfl rfl (by kernel_rfl) (by kernel_rfl) (by kernel_rfl) (by kernel_rfl) (fun _ _ _ h => h) (Or.inl ⟨by rfl, by (intro W hSw; have s2 := CE.out W hSw; go_simp)⟩) hHeld ?_
    (try simp only [List.setIfInBounds_toArray, List.set_cons_zero, List.set_cons_succ])
    refine takeL 11 59 (v := .agg #[.string key, .int .i64 z]) rfl rfl (by kernel_rfl) (by kernel_rfl) (by kernel_rfl) (by kernel_rfl) (fun _ _ _ h => h) (Or.inl ⟨by rfl, by (intro W hSw; have s2 := CE.out W hSw; go_simp)⟩) hHeld ?_
    (try simp only [List.setIfInBounds_toArray, List.set_cons_zero, List.set_cons_succ])
    refine takeL 14 62 (v := .pointer (some ⟨q, 0, none⟩)) rfl rfl (by kernel_rfl) (by kernel_rfl) (by kernel_rfl) (by kernel_rfl) (fun _ _ _ h => h) (Or.inl ⟨by rfl, by (intro W hSw; have s2 := CE.out W hSw; go_simp)⟩) hHeld ?_
    (try simp only [List.setIfInBounds_toArray, List.set_cons_zero, List.set_cons_succ])
    refine takeL 15 63 (v := .pointer (some ⟨q, 0, none⟩)) rfl rfl (by kernel_rfl) (by kernel_rfl) (by kernel_rfl) (by kernel_rfl) (fun _ _ _ h => h) (Or.inl ⟨by rfl, by (intro W hSw; have s2 := CE.out W hSw; go_simp)⟩) hHeld ?_
    (try simp only [List.setIfInBounds_toArray, List.set_cons_zero, List.set_cons_succ])
    refine takeL 16 64 (v := .pointer (some ⟨q, 0, none⟩)) rfl rfl (by kernel_rfl) (by kernel_rfl) (by kernel_rfl) (by kernel_rfl) (fun _ _ _ h => h) (Or.inl ⟨by rfl, by (intro W hSw; have s2 := CE.out W hSw; go_simp)⟩) hHeld ?_
    (try simp only [List.setIfInBounds_toArray, List.set_cons_zero, List.set_cons_succ])
    refine takeL 17 65 (v := .slice (some ⟨ra, 0, none⟩) n rc) rfl rfl (by kernel_rfl) (by kernel_rfl) (by kernel_rfl) (by kernel_rfl) (fun _ _ _ h => h) (Or.inl ⟨by rfl, by (intro W hSw; have s2 := CE.out W hSw; go_simp)⟩) hHeld ?_
    (try simp only [List.setIfInBounds_toArray, List.set_cons_zero, List.set_cons_succ])
    refine takeL 18 66 (v := .int .i64 (i : Int)) rfl rfl (by kernel_rfl) (by kernel_rfl) (by kernel_rfl) (by kernel_rfl) (fun _ _ _ h => h) (Or.inl ⟨by rfl, by (intro W hSw; have s2 := CE.out W hSw; go_simp)⟩) hHeld ?_
    (try simp only [List.setIfInBounds_toArray, List.set_cons_zero, List.set_cons_succ])
    refine takeL 19 67 (v := .slice (some ad) (n - i) (rc - i)) rfl rfl (by kernel_rfl) (by kernel_rfl) (by kernel_rfl) (by kernel_rfl) (fun _ _ _ h => h) (Or.inl ⟨by rfl, by (intro W hSw; have s2 := CE.out W hSw; go_simp)⟩) hHeld ?_
    (try simp only [List.setIfInBounds_toArray, List.set_cons_zero, List.set_cons_succ])
    refine anyL_two 1 12 (by kernel_rfl) (upL rfl (fun K hK => ?_)) (upL rfl (fun K hK => ?_))
    · skip
      go_simp
      have row1 := rrow_made _ (N := N) (Nat.le_trans HN.out hHeld.size)
      have hb1 := below2 hHeld (below_alloc1 _ (.cells #[] 54))
      refine hK.out _ _ (fun _ => hb1) (fun hHeld0 => ?_)
      have hHeld := hHeld0 (by decide)
      clear hHeld0 hK K
      (try simp only [Act.put, List.setIfInBounds_toArray, List.set_cons_zero, List.set_cons_succ])
      refine anyL_two 8 12 (by kernel_rfl) (upL rfl (fun K hK => ?_)) (upL rfl (fun K hK => ?_))
      · skip
        refine step_append_rf rfl (.tmp 49) (.tmp 55) rfl N _ _ (l.take i) (by first | rfl | simp [Act.eval]) row1 ⟨ra, 0, none⟩ i rc C.out.l1 (by first | rfl | simp [Act.eval]) (C.out.s1 _ hHeld) (by have := C.out.hm; have := HL.out; have := C.out.hn; simp; omega) (Nat.le_trans HN.out hHeld.size) ?_
        intro v2 w2 row2 fr2 new2
        have hb2 := fr2.below hHeld hHeld.size (fun k e => Nat.le_trans (Nat.le_of_eq HNe.out) (row1.blk e).1)
        refine hK.out _ _ (fun _ => hb2) (fun hHeld0 => ?_)
        have hHeld := hHeld0 (by decide)
        clear hHeld0 hK K
        (try simp only [Act.put, List.setIfInBounds_toArray])
        refine anyL_one 12 (by kernel_rfl) (upL rfl (fun K hK => ?_))
        go_simp
        have hbh := below2 hHeld (below_alloc1 _ (.cells #[.string key, .int .i64 z] 54))
        have HBh := HBR.of _ ⟨key, z⟩ _ (fun k e => (row2.blk e).2)
        have rowh := row2.below' (below_alloc1 _ (.cells #[.string key, .int .i64 z] 54))
        refine hK.out _ _ (fun _ => hbh) (fun hHeld0 => ?_)
        have hHeld := hHeld0 (by decide)
        clear hHeld0 hK K
        (try simp only [Act.put, List.setIfInBounds_toArray, List.set_cons_zero, List.set_cons_succ])
        refine anyL_one 13 (by kernel_rfl) (upL rfl (fun K hK => ?_))
        refine step_append_rf rfl (.tmp 56) (.tmp 60) rfl N _ _ ([(⟨key, z⟩ : Ent)]) (by first | rfl | simp [Act.eval]) rowh ⟨_, 0, none⟩ 1 1 rfl (by first | rfl | simp [Act.eval]) (HBh.src) (by have := C.out.hm; have := HL.out; have := C.out.hn; have := C.out.l1; simp; omega) (Nat.le_trans HN.out hHeld.size) ?_
        intro v4 w4 row4 fr4 new4
        have hb4 := fr4.below hHeld hHeld.size (fun k e => Nat.le_trans (Nat.le_of_eq HNe.out) (rowh.blk e).1)
        refine hK.out _ _ (fun _ => hb4) (fun hHeld0 => ?_)
        have hHeld := hHeld0 (by decide)
        clear hHeld0 hK K
        (try simp only [Act.put, List.setIfInBounds_toArray])
        refine anyL_one 20 (by kernel_rfl) (upL rfl (fun K hK => ?_))
        refine step_append_rf rfl (.tmp 61) (.tmp 67) rfl N _ _ (l.drop i) (by first | rfl | simp [Act.eval]) row4 ad (n - i) (rc - i) C.out.l2 (by first | rfl | simp [Act.eval]) (C.out.s2 _ hHeld) (by have := C.out.hm; have := HL.out; have := C.out.hn; have := C.out.l1; simp; omega) (Nat.le_trans HN.out hHeld.size) ?_
        intro v5 w5 row5 fr5 new5
        have hb5 := fr5.below hHeld hHeld.size (fun k e => Nat.le_trans (Nat.le_of_eq HNe.out) (row4.blk e).1)
        refine hK.out _ _ (fun _ => hb5) (fun hHeld0 => ?_)
        have hHeld := hHeld0 (by decide)
        clear hHeld0 hK K
        (try simp only [Act.put])
        refine anyL_one 21 (by kernel_rfl) (upL rfl (fun K hK => ?_))
        go_simp
        refine hK.out _ _ (fun _ => hHeld) (fun hHeld0 => ?_)
        have hHeld := hHeld0 (by decide)
        clear hHeld0 hK K
        (try simp only [Act.put, List.setIfInBounds_toArray, List.set_cons_zero, List.set_cons_succ])
        refine anyL_one 22 (by kernel_rfl) (upL rfl (fun K hK => ?_))
        go_simp
        refine hK.out _ _ (fun _ => hHeld) (fun hHeld0 => ?_)
        have hHeld := hHeld0 (by decide)
        clear hHeld0 hK K
        (try simp only [Act.put, List.setIfInBounds_toArray, List.set_cons_zero, List.set_cons_succ])
        obtain ⟨za, zc, rfl, _, _⟩ := row5.len
        generalize hzn : ([] ++ l.take i ++ [(⟨key, z⟩ : Ent)] ++ l.drop i).length = zn at row5 ⊢
        clear hzn
        obtain ⟨cz, fz, tz⟩ := HR.out.laid hHeld row5 (Nat.le_of_eq HNe.out) HBw.out
        have TZ := (show Hid _ from tz)
        clear tz
        refine anyL_one 23 (by kernel_rfl) (upL rfl (fun K hK => ?_))
        go_simp
        refine hK.out _ _ (fun q => absurd rfl q) (fun _ => ?_)
        clear hK K
        (try simp only [Act.put, List.setIfInBounds_toArray, List.set_cons_zero, List.set_cons_succ])
        refine anyL_done (by kernel_rfl) ?_ _
        go_wp2_with fail
        go_ret2
        exact ⟨rfl, fin9.out _ TZ.out⟩
      · skip
        go_simp
        have hbh := below2 hHeld (below_alloc1 _ (.cells #[.string key, .int .i64 z] 54))
        have HBh := HBR.of _ ⟨key, z⟩ _ (fun k e => (row1.blk e).2)
        have rowh := row1.below' (below_alloc1 _ (.cells #[.string key, .int .i64 z] 54))
        refine hK.out _ _ (fun _ => hbh) (fun hHeld0 => ?_)
        have hHeld := hHeld0 (by decide)
        clear hHeld0 hK K
        (try simp only [Act.put, List.setIfInBounds_toArray, List.set_cons_zero, List.set_cons_succ])
        refine anyL_one 8 (by kernel_rfl) (upL rfl (fun K hK => ?_))
        refine step_append_rf rfl (.tmp 49) (.tmp 55) rfl N _ _ (l.take i) (by first | rfl | simp [Act.eval]) rowh ⟨ra, 0, none⟩ i rc C.out.l1 (by first | rfl | simp [Act.eval]) (C.out.s1 _ hHeld) (by have := C.out.hm; have := HL.out; have := C.out.hn; simp; omega) (Nat.le_trans HN.out hHeld.size) ?_
        intro v2 w2 row2 fr2 new2
        have hb2 := fr2.below hHeld hHeld.size (fun k e => Nat.le_trans (Nat.le_of_eq HNe.out) (rowh.blk e).1)
        refine hK.out _ _ (fun _ => hb2) (fun hHeld0 => ?_)
        have hHeld := hHeld0 (by decide)
        clear hHeld0 hK K
        (try simp only [Act.put, List.setIfInBounds_toArray])
        have HB2 := HBh.app fr2 new2
        refine anyL_one 13 (by kernel_rfl) (upL rfl (fun K hK => ?_))
        refine step_append_rf rfl (.tmp 56) (.tmp 60) rfl N _ _ ([(⟨key, z⟩ : Ent)]) (by first | rfl | simp [Act.eval]) row2 ⟨_, 0, none⟩ 1 1 rfl (by first | rfl | simp [Act.eval]) (HB2.src) (by have := C.out.hm; have := HL.out; have := C.out.hn; have := C.out.l1; simp; omega) (Nat.le_trans HN.out hHeld.size) ?_
        intro v4 w4 row4 fr4 new4
        have hb4 := fr4.below hHeld hHeld.size (fun k e => Nat.le_trans (Nat.le_of_eq HNe.out) (row2.blk e).1)
        refine hK.out _ _ (fun _ => hb4) (fun hHeld0 => ?_)
        have hHeld := hHeld0 (by decide)
        clear hHeld0 hK K
        (try simp only [Act.put])
        refine anyL_one 20 (by kernel_rfl) (upL rfl (fun K hK => ?_))
        refine step_append_rf rfl (.tmp 61) (.tmp 67) rfl N _ _ (l.drop i) (by first | rfl | simp [Act.eval]) row4 ad (n - i) (rc - i) C.out.l2 (by first | rfl | simp [Act.eval]) (C.out.s2 _ hHeld) (by have := C.out.hm; have := HL.out; have := C.out.hn; have := C.out.l1; simp; omega) (Nat.le_trans HN.out hHeld.size) ?_
        intro v5 w5 row5 fr5 new5
        have hb5 := fr5.below hHeld hHeld.size (fun k e => Nat.le_trans (Nat.le_of_eq HNe.out) (row4.blk e).1)
        refine hK.out _ _ (fun _ => hb5) (fun hHeld0 => ?_)
        have hHeld := hHeld0 (by decide)
        clear hHeld0 hK K
        (try simp only [Act.put])
        refine anyL_one 21 (by kernel_rfl) (upL rfl (fun K hK => ?_))
        go_simp
        refine hK.out _ _ (fun _ => hHeld) (fun hHeld0 => ?_)
        have hHeld := hHeld0 (by decide)
        clear hHeld0 hK K
        (try simp only [Act.put, List.setIfInBounds_toArray, List.set_cons_zero, List.set_cons_succ])
        refine anyL_one 22 (by kernel_rfl) (upL rfl (fun K hK => ?_))
        go_simp
        refine hK.out _ _ (fun _ => hHeld) (fun hHeld0 => ?_)
        have hHeld := hHeld0 (by decide)
        clear hHeld0 hK K
        (try simp only [Act.put, List.setIfInBounds_toArray, List.set_cons_zero, List.set_cons_succ])
        obtain ⟨za, zc, rfl, _, _⟩ := row5.len
        generalize hzn : ([] ++ l.take i ++ [(⟨key, z⟩ : Ent)] ++ l.drop i).length = zn at row5 ⊢
        clear hzn
        obtain ⟨cz, fz, tz⟩ := HR.out.laid hHeld row5 (Nat.le_of_eq HNe.out) HBw.out
        have TZ := (show Hid _ from tz)
        clear tz
        refine anyL_one 23 (by kernel_rfl) (upL rfl (fun K hK => ?_))
        go_simp
        refine hK.out _ _ (fun q => absurd rfl q) (fun _ => ?_)
        clear hK K
        (try simp only [Act.put, List.setIfInBounds_toArray, List.set_cons_zero, List.set_cons_succ])
        refine anyL_done (by kernel_rfl) ?_ _
        go_wp2_with fail
        go_ret2
        exact ⟨rfl, fin9.out _ TZ.out⟩
    · skip
      go_simp
      have hbh := below2 hHeld (below_alloc1 _ (.cells #[.string key, .int .i64 z] 54))
      have HBh := HBR.of W1.drew ⟨key, z⟩ (.slice none 0 0) (fun k e => by simp [Value.ownBlock] at e)
      refine hK.out _ _ (fun _ => hbh) (fun hHeld0 => ?_)
      have hHeld := hHeld0 (by decide)
      clear hHeld0 hK K
      (try simp only [Act.put, List.setIfInBounds_toArray, List.set_cons_zero, List.set_cons_succ])
      refine anyL_one 1 (by kernel_rfl) (upL rfl (fun K hK => ?_))
      have HB1 := HBh.made
      go_simp
      have row1 := rrow_made _ (N := N) (Nat.le_trans HN.out hHeld.size)
      have hb1 := below2 hHeld (below_alloc1 _ (.cells #[] 54))
      refine hK.out _ _ (fun _ => hb1) (fun hHeld0 => ?_)
      have hHeld := hHeld0 (by decide)
      clear hHeld0 hK K
      (try simp only [Act.put, List.setIfInBounds_toArray, List.set_cons_zero, List.set_cons_succ])
      refine anyL_one 8 (by kernel_rfl) (upL rfl (fun K hK => ?_))
      refine step_append_rf rfl (.tmp 49) (.tmp 55) rfl N _ _ (l.take i) (by first | rfl | simp [Act.eval]) row1 ⟨ra, 0, none⟩ i rc C.out.l1 (by first | rfl | simp [Act.eval]) (C.out.s1 _ hHeld) (by have := C.out.hm; have := HL.out; have := C.out.hn; simp; omega) (Nat.le_trans HN.out hHeld.size) ?_
      intro v2 w2 row2 fr2 new2
      have hb2 := fr2.below hHeld hHeld.size (fun k e => Nat.le_trans (Nat.le_of_eq HNe.out) (row1.blk e).1)
      refine hK.out _ _ (fun _ => hb2) (fun hHeld0 => ?_)
      have hHeld := hHeld0 (by decide)
      clear hHeld0 hK K
      (try simp only [Act.put, List.setIfInBounds_toArray])
      have HB2 := HB1.app fr2 new2
      refine anyL_one 13 (by kernel_rfl) (upL rfl (fun K hK => ?_))
      refine step_append_rf rfl (.tmp 56) (.tmp 60) rfl N _ _ ([(⟨key, z⟩ : Ent)]) (by first | rfl | simp [Act.eval]) row2 ⟨_, 0, none⟩ 1 1 rfl (by first | rfl | simp [Act.eval]) (HB2.src) (by have := C.out.hm; have := HL.out; have := C.out.hn; have := C.out.l1; simp; omega) (Nat.le_trans HN.out hHeld.size) ?_
      intro v4 w4 row4 fr4 new4
      have hb4 := fr4.below hHeld hHeld.size (fun k e => Nat.le_trans (Nat.le_of_eq HNe.out) (row2.blk e).1)
      refine hK.out _ _ (fun _ => hb4) (fun hHeld0 => ?_)
      have hHeld := hHeld0 (by decide)
      clear hHeld0 hK K
      (try simp only [Act.put])
      refine anyL_one 20 (by kernel_rfl) (upL rfl (fun K hK => ?_))
      refine step_append_rf rfl (.tmp 61) (.tmp 67) rfl N _ _ (l.drop i) (by first | rfl | simp [Act.eval]) row4 ad (n - i) (rc - i) C.out.l2 (by first | rfl | simp [Act.eval]) (C.out.s2 _ hHeld) (by have := C.out.hm; have := HL.out; have := C.out.hn; have := C.out.l1; simp; omega) (Nat.le_trans HN.out hHeld.size) ?_
      intro v5 w5 row5 fr5 new5
      have hb5 := fr5.below hHeld hHeld.size (fun k e => Nat.le_trans (Nat.le_of_eq HNe.out) (row4.blk e).1)
      refine hK.out _ _ (fun _ => hb5) (fun hHeld0 => ?_)
      have hHeld := hHeld0 (by decide)
      clear hHeld0 hK K
      (try simp only [Act.put])
      refine anyL_one 21 (by kernel_rfl) (upL rfl (fun K hK => ?_))
      go_simp
      refine hK.out _ _ (fun _ => hHeld) (fun hHeld0 => ?_)
      have hHeld := hHeld0 (by decide)
      clear hHeld0 hK K
      (try simp only [Act.put, List.setIfInBounds_toArray, List.set_cons_zero, List.set_cons_succ])
      refine anyL_one 22 (by kernel_rfl) (upL rfl (fun K hK => ?_))
      go_simp
      refine hK.out _ _ (fun _ => hHeld) (fun hHeld0 => ?_)
      have hHeld := hHeld0 (by decide)
      clear hHeld0 hK K
      (try simp only [Act.put, List.setIfInBounds_toArray, List.set_cons_zero, List.set_cons_succ])
      obtain ⟨za, zc, rfl, _, _⟩ := row5.len
      generalize hzn : ([] ++ l.take i ++ [(⟨key, z⟩ : Ent)] ++ l.drop i).length = zn at row5 ⊢
      clear hzn
      obtain ⟨cz, fz, tz⟩ := HR.out.laid hHeld row5 (Nat.le_of_eq HNe.out) HBw.out
      have TZ := (show Hid _ from tz)
      clear tz
      refine anyL_one 23 (by kernel_rfl) (upL rfl (fun K hK => ?_))
      go_simp
      refine hK.out _ _ (fun q => absurd rfl q) (fun _ => ?_)
      clear hK K
      (try simp only [Act.put, List.setIfInBounds_toArray, List.set_cons_zero, List.set_cons_succ])
      refine anyL_done (by kernel_rfl) ?_ _
      go_wp2_with fail
      go_ret2
      exact ⟨rfl, fin9.out _ TZ.out⟩

theorem putL_at {key : ByteArray} {z : Int} (hi : ∀ y, l[pos key l]? = some y → ¬ y.key = key) : putL key z l = l.take (pos key l) ++ ⟨key, z⟩ :: l.drop (pos key l) := by
  unfold putL
  cases hx : l[pos key l]? with
  | none => simp [List.drop_of_length_le (List.getElem?_eq_none_iff.1 hx)]
  | some y => simp [hi y hx]
theorem putL_set {key : ByteArray} {z : Int} {y : Ent} (hx : l[pos key l]? = some y) (hy : y.key = key) : putL key z l = l.set (pos key l) ⟨key, z⟩ := by
  unfold putL
  rw [hx]
  simp only [hy, if_true]
  have hlt := (List.getElem?_eq_some_iff.1 hx).1
  rw [List.set_eq_take_append_cons_drop, if_pos hlt]
/-- **Put** of the document's tree. -/
theorem rput_any (h : Rf B w q v l) (hB : B ≤ w.heap.size) (hlen : l.length ≤ 4096) (key : ByteArray) (z : Int) :
    Calls Try.prog 13 #[.pointer (some ⟨q, 0, none⟩), .string key, .int .i64 z] w fun e w' => e = .returned (.tuple #[.bool (putT key z l).1, .int .i64 (putT key z l).2.1]) ∧ RfTo B w w' q v (putT key z l).2.2 := by
  unfold putT
  by_cases hks : 4096 < key.size
  · rw [if_pos hks]
    refine (rput_long q key z w hks).mono ?_
    rintro e w' ⟨rfl, rfl⟩
    exact ⟨rfl, .refl h⟩
  rw [if_neg hks]
  by_cases hx : ∃ y, l[pos key l]? = some y ∧ y.key = key
  · obtain ⟨y, hx, hy⟩ := hx
    obtain ⟨e1, _⟩ := hasL_some hx
    rw [if_pos (by rw [e1]; simpa using hy), putL_set hx hy]
    exact rput_old h (by omega) z (by omega) hx hy
  have hi : ∀ y, l[pos key l]? = some y → ¬ y.key = key := fun y h1 h2 => hx ⟨y, h1, h2⟩
  have e0 : hasL key l = false := by
    cases hx2 : l[pos key l]? with
    | none => exact (hasL_none hx2).1
    | some y => rw [(hasL_some hx2).1]; simpa using hi y hx2
  rw [if_neg (by rw [e0]; simp)]
  by_cases hm : 4096 ≤ l.length
  · rw [if_pos hm]
    refine (rput_many h (by omega) key z (by omega) hi).mono ?_
    rintro e w' ⟨rfl, rfl⟩
    exact ⟨rfl, .refl h⟩
  rw [if_neg hm, putL_at hi]
  rcases h.row.own.2 with ⟨e, e2⟩ | ⟨b, cap, cur, e, _, _, hc, _⟩
  · have hl : l = [] := List.eq_nil_of_length_eq_zero e2
    subst hl
    subst e
    exact rput_nil h hB key z (by omega)
  · exact rput_new h hB (by omega) e hc key z (by omega) hi
end

end Go.Proofs.Ytkfoddblgdmabaa.tr
end

section
namespace Go.Proofs.Ytkfoddblgdmabaa.tr
open Go.RowKit

theorem one_newR (U : World) (x : Ent) : RowR (U.alloc (.cells #[.string x.key, .int .i64 x.n] 54)) 0 (.slice (some ⟨U.heap.size, 0, none⟩) 1 1) [x] :=
  GRow.of_obj (l := [x]) (c := 1) gE_len (heap_alloc_new U _) (Nat.zero_le _) (Nat.le_refl _) (by decide) rfl rfl

section
variable {B : Nat} {w w' : World} {q : Nat} {v : Value} {l : List Ent}
set_option maxHeartbeats 6400000 in
set_option maxRecDepth 100000 in
theorem rrange_any (h : Rf B w q v l) (hlen : l.length ≤ 5000) (key to : ByteArray) (most : Int) :
    Calls Try.prog 22 #[.pointer (some ⟨q, 0, none⟩), .string key, .string to, .int .i64 most] w fun e w' => ∃ v', e = .returned v' ∧ RowR w' w.heap.size v' (tk to most [] (rg key l)) ∧ Below w.heap.size w w' := by
  have cA := rat_any h (by omega) key
  have hple := pos_le key l
  rw [rg_drop]
  generalize pos key l = p at *
  obtain ⟨va, vc, e, _, _⟩ := h.row.len
  have c0 := (cell_obj (j := 0) h.top).1
  have HR : Hid (Rf B w q v l) := h
  have HT : Hid (tk to most [] (l.drop p) = tk to most [] (l.drop p)) := rfl
  obtain ⟨N, hN⟩ : ∃ N, w.heap.size = N := ⟨_, rfl⟩
  subst e
  have c0' : w.cell? ⟨q, 0, none⟩ = some (.slice va l.length vc) := c0
  clear h c0
  rw [hN]
  go_enter Try.func22, Try.ntmps22
  go_wp2_with fail
  refine cA.mono ?_
  rintro e1 w1 ⟨rfl, hw⟩
  rw [hw]
  clear hw cA
  have hN2 : Hid (w.heap.size = N) := hN
  clear hN
  go_wp2_with fail
  go_loopw [9, 10] (fun sl sk wr => ∃ (k : Nat) (acc : List Ent) (u : Value), k ≤ l.length ∧ sk = .int .i64 (k : Int) ∧ sl = u ∧ acc.length ≤ k ∧ Hid (RowR wr N u acc) ∧ Hid (Below N w wr) ∧ Hid (tk to most [] (l.drop p) = tk to most acc (l.drop k))) (fun _ sk _ => l.length - (Go.RowKit.intOf sk).toNat)
  case atStart => exact ⟨p, [], _, hple, rfl, rfl, Nat.zero_le _, grow_nil _ _ _ _ _, Below.refl _ _, rfl⟩
  case round =>
    obtain ⟨k, acc, u, hk, rfl, rfl, hak, hrow, hbel, htk⟩ := hrel
    have hq : wr.cell? ⟨q, 0, none⟩ = some (.slice va l.length vc) := (hbel.out.cell (p := ⟨q, 0, none⟩) (by rw [← hN2.out]; exact (HR.out.lt (Or.inl rfl)).2)).trans c0'
    obtain ⟨ua, uc, eu, _, _⟩ := hrow.out.len
    subst eu
    by_cases hlt : k < l.length
    · have hlt2 : (k : Int) < (l.length : Int) := by omega
      have hx : l[k]? = some l[k] := by simp [hlt]
      have hd : l.drop k = l[k] :: l.drop (k + 1) := List.drop_eq_getElem_cons hlt
      generalize l[k] = y at hx hd
      obtain ⟨b, vc', e, _, _, hbl, s0⟩ := HR.out.row.cell gE_len hx
      injection e with e1 e2 e3
      subst e1
      subst e3
      have r0 := (hbel.out.cell (p := ⟨b, k * 2, none⟩) (by rw [← hN2.out]; exact hbl)).trans (s0 0 _ rfl).1
      have r1 := (hbel.out.cell (p := ⟨b, k * 2 + 1, none⟩) (by rw [← hN2.out]; exact hbl)).trans (s0 1 _ rfl).1
      clear s0 e2
      have HD : Hid (l.drop k = y :: l.drop (k + 1)) := hd
      clear hd hx
      have hak2 : (acc.length : Int) ≤ 5000 := by omega
      by_cases hc : cut to most acc.length y
      · have HE : Hid (tk to most [] (l.drop p) = acc) := by
          show _ = _
          rw [htk.out, HD.out, tk_cut hc]
        by_cases hm : (acc.length : Int) < most
        · have ht : ¬ to.toList = [] ∧ ltS y.key to = false := hc.resolve_left (by omega)
          have h1 : to.toList.isEmpty = false := by simpa [List.isEmpty_iff] using ht.1
          have h2 : Op.bytesLess y.key.toList to.toList = false := ht.2
          clear ht hc
          go_wp2_with fail
          go_ret
          exact ⟨_, rfl, by rw [HE.out]; exact hrow.out, hbel.out⟩
        · clear hc
          go_wp2_with fail
          go_ret
          exact ⟨_, rfl, by rw [HE.out]; exact hrow.out, hbel.out⟩
      · have hm : (acc.length : Int) < most := Decidable.byContradiction fun q => hc (Or.inl (by omega))
        have HK : Hid (tk to most [] (l.drop p) = tk to most (acc ++ [y]) (l.drop (k + 1))) := by
          show _ = _
          rw [htk.out, HD.out, tk_not hc]
        have HALL : Hid (∀ (o : Obj) (W : World), Fr (fun j => (Value.slice ua acc.length uc).ownBlock = some j) (wr.alloc o) W → Below N w W) := fun o W f => f.below (hbel.out.trans ((below_alloc1 wr o).mono (by have := hbel.out.size; have := hN2.out; omega))) (by simp; have := hbel.out.size; have := hN2.out; omega) (fun j e => (hrow.out.blk e).1)
        by_cases ht : to.toList = []
        · have h1 : to.toList.isEmpty = true := by simp [ht]
          clear ht hc
          go_wp2_with (at_builtin; refine wpList_append_rows gE_len gE_one Try.underlying30 Try.infoR rfl (by decide) (by decide) rfl (.tmp 45) (.tmp 53) rfl rfl (hrow.out.below' (below_alloc1 _ _)) rfl (one_newR _ y) (by simp; omega) (by simp; have := hbel.out.size; have := hN2.out; omega) ?_; intro v2 w2 row2 fr2 new2)
          have HR2 : Hid (RowR w2 N v2 (acc ++ [y])) := row2
          have HB2 : Hid (Below N w w2) := HALL.out _ _ fr2
          clear row2 fr2 new2
          go_wp2_with fail
          go_roundw
          case rel => exact ⟨k + 1, acc ++ [y], v2, by omega, by go_num, rfl, by simp; omega, HR2, HB2, HK⟩
          case measure => simp [Go.RowKit.intOf]; omega
        · have h1 : to.toList.isEmpty = false := by simpa [List.isEmpty_iff] using ht
          have h2 : Op.bytesLess y.key.toList to.toList = true := Decidable.byContradiction fun q => hc (Or.inr ⟨ht, show Op.bytesLess y.key.toList to.toList = false by simpa using q⟩)
          clear ht hc
          go_wp2_with (at_builtin; refine wpList_append_rows gE_len gE_one Try.underlying30 Try.infoR rfl (by decide) (by decide) rfl (.tmp 45) (.tmp 53) rfl rfl (hrow.out.below' (below_alloc1 _ _)) rfl (one_newR _ y) (by simp; omega) (by simp; have := hbel.out.size; have := hN2.out; omega) ?_; intro v2 w2 row2 fr2 new2)
          have HR2 : Hid (RowR w2 N v2 (acc ++ [y])) := row2
          have HB2 : Hid (Below N w w2) := HALL.out _ _ fr2
          clear row2 fr2 new2
          go_wp2_with fail
          go_roundw
          case rel => exact ⟨k + 1, acc ++ [y], v2, by omega, by go_num, rfl, by simp; omega, HR2, HB2, HK⟩
          case measure => simp [Go.RowKit.intOf]; omega
    · obtain rfl : k = l.length := by omega
      have hlt2 : ¬ ((l.length : Int) < (l.length : Int)) := by omega
      have HE : Hid (tk to most [] (l.drop p) = acc) := by
        show _ = _
        rw [htk.out, List.drop_length]
        rfl
      go_wp2_with fail
      go_ret
      exact ⟨_, rfl, by rw [HE.out]; exact hrow.out, hbel.out⟩
end

end Go.Proofs.Ytkfoddblgdmabaa.tr
end
