/- KeyJoins: the walk. -/
import Derived.Test.YtijpnlomfodihaaDoorKLaw
namespace Go.Proofs.YtijpnlomfodihaaDoor
open Go.RowKit

theorem mk_yes {L : List V} (h : fitsB L = true) (h2 : (kvs L).length ≤ 4096) : mk L = .tuple #[.string (ba (kvs L)), .int .i64 0] := by
  simp only [mk, mkS, mkE, h, h2, if_true]

theorem mk_long {L : List V} (h : fitsB L = true) (h2 : ¬ (kvs L).length ≤ 4096) : mk L = .tuple #[.string ⟨#[]⟩, .int .i64 2] := by
  simp only [mk, mkS, mkE, h, h2, if_true, if_false]
  rfl

theorem mk_no {L : List V} (h : fitsB L = false) : mk L = .tuple #[.string ⟨#[]⟩, .int .i64 11] := by
  simp only [mk, mkS, mkE, h]
  rfl

/-- The three ways of Make. -/
theorem mk_cases (L : List V) : (fitsB L = true ∧ (kvs L).length ≤ 4096) ∨ (fitsB L = true ∧ ¬ (kvs L).length ≤ 4096) ∨ fitsB L = false := by
  cases h : fitsB L with
  | true =>
    by_cases h2 : (kvs L).length ≤ 4096
    · exact Or.inl ⟨rfl, h2⟩
    · exact Or.inr (Or.inl ⟨rfl, h2⟩)
  | false => exact Or.inr (Or.inr rfl)

theorem fitsB_append (A B : List V) : fitsB (A ++ B) = (fitsB A && fitsB B) := by unfold fitsB; rw [List.all_append]

/-- The number of Make's error, behind one of two whose error is not 0. -/
theorem mk_bad {A B : List V} (h : mkE A ≠ 0 ∨ mkE B ≠ 0) : ∃ T E, mk (A ++ B) = .tuple #[.string T, .int .i64 E] ∧ (E != 0) = true := by
  rcases mk_cases (A ++ B) with ⟨h1, h2⟩ | ⟨h1, h2⟩ | h1
  · exfalso
    rw [fitsB_append, Bool.and_eq_true] at h1
    rw [kvs_append, List.length_append] at h2
    rcases h with h | h
    · exact h (by unfold mkE; rw [h1.1, if_pos rfl, if_pos (by omega)])
    · exact h (by unfold mkE; rw [h1.2, if_pos rfl, if_pos (by omega)])
  · exact ⟨_, _, mk_long h1 h2, by decide⟩
  · exact ⟨_, _, mk_no h1, by decide⟩

theorem mkE_cases (L : List V) : (mkE L = 0 ∧ fitsB L = true ∧ (kvs L).length ≤ 4096) ∨ (mkE L ≠ 0 ∧ ∃ T E, mk L = .tuple #[.string T, .int .i64 E] ∧ (E != 0) = true) := by
  rcases mk_cases L with ⟨h1, h2⟩ | ⟨h1, h2⟩ | h1
  · exact Or.inl ⟨by unfold mkE; rw [h1, if_pos rfl, if_pos h2], h1, h2⟩
  · exact Or.inr ⟨by unfold mkE; rw [h1, if_pos rfl, if_neg h2]; decide, _, _, mk_long h1 h2, by decide⟩
  · exact Or.inr ⟨by unfold mkE; rw [h1]; simp, _, _, mk_no h1, by decide⟩

/-- A list behind another one, in a row that the call owns. -/
theorem VRow.joined {w wr w1 : World} {v v1 : Value} {A B : List V} (h : VRow w wr v A) (hg : wr.grownBy w1 v.ownBlock)
    (ho : w1.ownsRow w.heap.size 43 3 v1 (A.length + B.length) (cellsK A ++ cellsK B)) : VRow w w1 v1 (A ++ B) := by
  refine ⟨?_, h.root.grown hg h.root.size (fun k hk => (h.own.lt k hk).1)⟩
  rw [cellsK_append]
  simpa using ho

/-- What a list's cells hold, wherever it lies. -/
def CellsAt (w : World) (a : Option Addr) (B : List V) : Prop := (a = none ∧ B = []) ∨ ∃ ad, a = some ad ∧ ∀ j u, (cellsK B)[j]? = some u → w.cell? (ad.add j) = some u

theorem SlV.cellsAt {w : World} {a : Option Addr} {B : List V} (h : SlV w a B) : CellsAt w a B := by
  rcases h with rfl | ⟨b, off, rfl, hb, hr⟩
  · cases a with
    | none => exact Or.inl ⟨rfl, rfl⟩
    | some ad => exact Or.inr ⟨ad, rfl, fun j u hu => by simp [cellsK] at hu⟩
  · exact Or.inr ⟨_, rfl, rdV_cells hr⟩

set_option maxHeartbeats 1600000 in
set_option maxRecDepth 100000 in
theorem keyJoins_big (A B : List V) (a b : Option Addr) (ca cb : Nat) (w : World) (hm : ML w) (ha : SlV w a A) (hb : SlV w b B) (hla : A.length ≤ 9223372036854775807) (hlb : B.length ≤ 9223372036854775807) (h : bigL A = true ∨ bigL B = true) :
    Calls Tryd.prog 8 #[.slice a A.length ca, .slice b B.length cb] w fun e w' => e = .returned (.bool true) ∧ Below w.heap.size w w' := by
  have c1 := klarge_any A a ca w ha hla
  cases hA : bigL A with
  | true =>
    rw [hA] at c1
    go_enter Tryd.func8, Tryd.ntmps8
    go_wp2_with fail
    refine c1.mono ?_
    rintro e w1 ⟨rfl, hb1⟩
    go_wp2_with fail
    refine (kwakes_any _ (hm.kept hb1)).mono ?_
    rintro e w2 ⟨rfl, hb2⟩
    go_wp2_with fail
    go_ret
    exact ⟨rfl, below2 hb1 hb2⟩
  | false =>
    rw [hA] at c1
    have hB : bigL B = true := by
      rcases h with h | h
      · rw [hA] at h; cases h
      · exact h
    have c2 := fun w h => klarge_any B b cb w h hlb
    rw [hB] at c2
    go_enter Tryd.func8, Tryd.ntmps8
    go_wp2_with fail
    refine c1.mono ?_
    rintro e w1 ⟨rfl, hb1⟩
    go_wp2_with fail
    refine (c2 _ (hb.kept hb1)).mono ?_
    rintro e w2 ⟨rfl, hb2⟩
    go_wp2_with fail
    refine (kwakes_any _ ((hm.kept hb1).kept hb2)).mono ?_
    rintro e w3 ⟨rfl, hb3⟩
    go_wp2_with fail
    go_ret
    exact ⟨rfl, below3 hb1 hb2 hb3⟩

/-- append of one list of values to a row of them that the call owns. -/
theorem wpList_append_vals {ops : Array Oper} {rest : List Oper} {o : Oper} {act : Act} {Q : Exit → Act → World → Prop} (hgd : o.guard = none) (s x : Operand)
    (ho : o.op = .call { callee := .builtin .append, args := #[s, x], argTypes := #[22, 22] })
    (w0 w : World) (v : Value) (A B : List V) (hs : act.eval s = v) (hv : VRow w0 w v A) (b : Option Addr) (cb : Nat) (hx : act.eval x = .slice b B.length cb) (hn : b = none → cb = 0) (hc : CellsAt w b B) (hl : A.length + B.length ≤ 1000000)
    (h : ∀ v' w', VRow w0 w' v' (A ++ B) → wpList Tryd.prog ops Q rest (act.put o.dst v') w') : wpList Tryd.prog ops Q (o :: rest) act w := by
  obtain ⟨i0, hi, hz0, hz1, hz2⟩ := info_parts Tryd.info43
  rcases hc with ⟨rfl, rfl⟩ | ⟨ad, rfl, hcells⟩
  · rw [hn rfl] at hx
    refine wpList_append_own_none hgd s x 22 ho w0.heap.size 43 i0 3 Tryd.underlying22 hi v A.length (cellsK A) hs hv.own hx ?_
    exact h _ _ (by rw [List.append_nil]; exact hv)
  · refine wpList_append_own w hgd s x 22 ho w0.heap.size 43 i0 (.agg #[.int .i64 0, .int .i64 0, .string ⟨#[]⟩]) 3 32 Tryd.underlying22 hi hz0 hz1 hz2 rfl (by decide) v A.length (cellsK A) hs hv.own ad B.length cb (cellsK B) hx (cellsK_length B) hcells (cellsK_one_each B) (by unfold maxLen; omega) (by omega) hv.root.size ?_
    intro v8 w8 hown8 hgrow8 _
    exact h _ _ (hv.joined hgrow8 hown8)

set_option maxHeartbeats 1600000 in
set_option maxRecDepth 100000 in
theorem keyJoins_bad1 (A B : List V) (a b : Option Addr) (ca cb : Nat) (w : World) (hm : ML w) (ha : SlV w a A) (hb : SlV w b B) (hna : a = none → ca = 0) (hnb : b = none → cb = 0) (hla : A.length ≤ 100) (hlb : B.length ≤ 100)
    (hA : bigL A = false) (hB : bigL B = false) (oA : ∀ v ∈ A, v.ok) (oB : ∀ v ∈ B, v.ok) (TA TB TC : ByteArray) (EA EB EC : Int)
    (mA : mk A = .tuple #[.string TA, .int .i64 EA]) (mB : mk B = .tuple #[.string TB, .int .i64 EB]) (mC : mk (A ++ B) = .tuple #[.string TC, .int .i64 EC]) (f1 : (EA != 0) = true) (f2 : (EC != 0) = true) :
    Calls Tryd.prog 8 #[.slice a A.length ca, .slice b B.length cb] w fun e w' => e = .returned (.bool true) ∧ Below w.heap.size w w' := by
  have c1 := klarge_any A a ca w ha (by omega)
  have c2 := fun w h => klarge_any B b cb w h (by omega)
  rw [hA] at c1
  rw [hB] at c2
  have cFA := fun w h => kfew_any A a ca w h hna (by omega)
  have cFB := fun w h => kfew_any B b cb w h hnb (by omega)
  have oC : ∀ v ∈ A ++ B, v.ok := fun v hv => (List.mem_append.1 hv).elim (oA v) (oB v)
  have lC : (A ++ B).length ≤ 1000000 := by rw [List.length_append]; omega
  have cMA := fun a c w h hm => make_any A a c w h oA hm (by omega)
  have cMB := fun a c w h hm => make_any B a c w h oB hm (by omega)
  have cMC := fun a c w h hm => make_any (A ++ B) a c w h oC hm lC
  rw [mA] at cMA
  rw [mB] at cMB
  rw [mC] at cMC
  clear mA mB mC oA oB oC lC hA hB
  go_enter Tryd.func8, Tryd.ntmps8
  go_wp2_with fail
  refine c1.mono ?_
  rintro e w1 ⟨rfl, hb1⟩
  go_wp2_with fail
  refine (c2 _ (hb.kept hb1)).mono ?_
  rintro e w2 ⟨rfl, hb2⟩
  have k2 := below2 hb1 hb2
  go_wp2_with fail
  refine (cFA _ (ha.kept k2)).mono ?_
  rintro e w3 ⟨v3, rfl, hv3⟩
  have k3 := below2 k2 hv3.root
  obtain ⟨a3, c3, rfl, s3, _⟩ := owns_slV hv3.own
  go_wp2_with fail
  refine (cMA a3 c3 _ s3 (hm.kept k3)).mono ?_
  rintro e w4 ⟨rfl, hb4⟩
  have k4 := below2 k3 hb4
  go_wp2_with fail
  refine (cFB _ (hb.kept k4)).mono ?_
  rintro e w5 ⟨v5, rfl, hv5⟩
  have k5 := below2 k4 hv5.root
  obtain ⟨a5, c5, rfl, s5, _⟩ := owns_slV hv5.own
  go_wp2_with fail
  refine (cMB a5 c5 _ s5 (hm.kept k5)).mono ?_
  rintro e w6 ⟨rfl, hb6⟩
  have k6 := below2 k5 hb6
  go_wp2_with fail
  refine (cFA _ (ha.kept k6)).mono ?_
  rintro e w7 ⟨v7, rfl, hv7⟩
  have k7 := below2 k6 hv7.root
  have s7 := (hb.kept k7).cellsAt
  go_wp2_with (at_builtin; refine wpList_append_vals rfl (.tmp 32) (.tmp 33) rfl w6 _ v7 A B rfl hv7 b cb rfl hnb s7 (by omega) ?_; intro v8 w8 hv8)
  obtain ⟨a8, c8, rfl, s8, _⟩ := owns_slV hv8.own
  have k8 := below2 k6 hv8.root
  refine (cMC a8 c8 _ s8 (hm.kept k8)).mono ?_
  rintro e w9 ⟨rfl, hb9⟩
  have k9 := below2 k8 hb9
  go_wp2_with fail
  refine (kwakes_any _ (hm.kept k9)).mono ?_
  rintro e w10 ⟨rfl, hb10⟩
  go_wp2_with fail
  go_ret
  exact ⟨rfl, below2 k9 hb10⟩

set_option maxHeartbeats 1600000 in
set_option maxRecDepth 100000 in
theorem keyJoins_bad2 (A B : List V) (a b : Option Addr) (ca cb : Nat) (w : World) (hm : ML w) (ha : SlV w a A) (hb : SlV w b B) (hna : a = none → ca = 0) (hnb : b = none → cb = 0) (hla : A.length ≤ 100) (hlb : B.length ≤ 100)
    (hA : bigL A = false) (hB : bigL B = false) (oA : ∀ v ∈ A, v.ok) (oB : ∀ v ∈ B, v.ok) (TA TB TC : ByteArray) (EA EB EC : Int)
    (mA : mk A = .tuple #[.string TA, .int .i64 EA]) (mB : mk B = .tuple #[.string TB, .int .i64 EB]) (mC : mk (A ++ B) = .tuple #[.string TC, .int .i64 EC]) (f1 : EA = 0) (f2 : (EB != 0) = true) (f3 : (EC != 0) = true) :
    Calls Tryd.prog 8 #[.slice a A.length ca, .slice b B.length cb] w fun e w' => e = .returned (.bool true) ∧ Below w.heap.size w w' := by
  have c1 := klarge_any A a ca w ha (by omega)
  have c2 := fun w h => klarge_any B b cb w h (by omega)
  rw [hA] at c1
  rw [hB] at c2
  have cFA := fun w h => kfew_any A a ca w h hna (by omega)
  have cFB := fun w h => kfew_any B b cb w h hnb (by omega)
  have oC : ∀ v ∈ A ++ B, v.ok := fun v hv => (List.mem_append.1 hv).elim (oA v) (oB v)
  have lC : (A ++ B).length ≤ 1000000 := by rw [List.length_append]; omega
  have cMA := fun a c w h hm => make_any A a c w h oA hm (by omega)
  have cMB := fun a c w h hm => make_any B a c w h oB hm (by omega)
  have cMC := fun a c w h hm => make_any (A ++ B) a c w h oC hm lC
  rw [mA] at cMA
  rw [mB] at cMB
  rw [mC] at cMC
  subst f1
  clear mA mB mC oA oB oC lC hA hB
  go_enter Tryd.func8, Tryd.ntmps8
  go_wp2_with fail
  refine c1.mono ?_
  rintro e w1 ⟨rfl, hb1⟩
  go_wp2_with fail
  refine (c2 _ (hb.kept hb1)).mono ?_
  rintro e w2 ⟨rfl, hb2⟩
  have k2 := below2 hb1 hb2
  go_wp2_with fail
  refine (cFA _ (ha.kept k2)).mono ?_
  rintro e w3 ⟨v3, rfl, hv3⟩
  have k3 := below2 k2 hv3.root
  obtain ⟨a3, c3, rfl, s3, _⟩ := owns_slV hv3.own
  go_wp2_with fail
  refine (cMA a3 c3 _ s3 (hm.kept k3)).mono ?_
  rintro e w4 ⟨rfl, hb4⟩
  have k4 := below2 k3 hb4
  go_wp2_with fail
  refine (cFB _ (hb.kept k4)).mono ?_
  rintro e w5 ⟨v5, rfl, hv5⟩
  have k5 := below2 k4 hv5.root
  obtain ⟨a5, c5, rfl, s5, _⟩ := owns_slV hv5.own
  go_wp2_with fail
  refine (cMB a5 c5 _ s5 (hm.kept k5)).mono ?_
  rintro e w6 ⟨rfl, hb6⟩
  have k6 := below2 k5 hb6
  go_wp2_with fail
  refine (cFA _ (ha.kept k6)).mono ?_
  rintro e w7 ⟨v7, rfl, hv7⟩
  have k7 := below2 k6 hv7.root
  have s7 := (hb.kept k7).cellsAt
  go_wp2_with (at_builtin; refine wpList_append_vals rfl (.tmp 32) (.tmp 33) rfl w6 _ v7 A B rfl hv7 b cb rfl hnb s7 (by omega) ?_; intro v8 w8 hv8)
  obtain ⟨a8, c8, rfl, s8, _⟩ := owns_slV hv8.own
  have k8 := below2 k6 hv8.root
  refine (cMC a8 c8 _ s8 (hm.kept k8)).mono ?_
  rintro e w9 ⟨rfl, hb9⟩
  have k9 := below2 k8 hb9
  go_wp2_with fail
  refine (kwakes_any _ (hm.kept k9)).mono ?_
  rintro e w10 ⟨rfl, hb10⟩
  go_wp2_with fail
  go_ret
  exact ⟨rfl, below2 k9 hb10⟩

set_option maxHeartbeats 1600000 in
set_option maxRecDepth 100000 in
theorem keyJoins_long (A B : List V) (a b : Option Addr) (ca cb : Nat) (w : World) (hm : ML w) (ha : SlV w a A) (hb : SlV w b B) (hna : a = none → ca = 0) (hnb : b = none → cb = 0) (hla : A.length ≤ 100) (hlb : B.length ≤ 100)
    (hA : bigL A = false) (hB : bigL B = false) (oA : ∀ v ∈ A, v.ok) (oB : ∀ v ∈ B, v.ok) (TA TB TC : ByteArray) (EA EB EC : Int)
    (mA : mk A = .tuple #[.string TA, .int .i64 EA]) (mB : mk B = .tuple #[.string TB, .int .i64 EB]) (mC : mk (A ++ B) = .tuple #[.string TC, .int .i64 EC]) (f1 : EA = 0) (f2 : EB = 0) (f3 : EC = 2) (f4 : TC = ⟨#[]⟩) (f5 : 4096 < TA.size + TB.size) (f6 : TA.size ≤ 4096) (f7 : TB.size ≤ 4096) :
    Calls Tryd.prog 8 #[.slice a A.length ca, .slice b B.length cb] w fun e w' => e = .returned (.bool true) ∧ Below w.heap.size w w' := by
  have c1 := klarge_any A a ca w ha (by omega)
  have c2 := fun w h => klarge_any B b cb w h (by omega)
  rw [hA] at c1
  rw [hB] at c2
  have cFA := fun w h => kfew_any A a ca w h hna (by omega)
  have cFB := fun w h => kfew_any B b cb w h hnb (by omega)
  have oC : ∀ v ∈ A ++ B, v.ok := fun v hv => (List.mem_append.1 hv).elim (oA v) (oB v)
  have lC : (A ++ B).length ≤ 1000000 := by rw [List.length_append]; omega
  have cMA := fun a c w h hm => make_any A a c w h oA hm (by omega)
  have cMB := fun a c w h hm => make_any B a c w h oB hm (by omega)
  have cMC := fun a c w h hm => make_any (A ++ B) a c w h oC hm lC
  rw [mA] at cMA
  rw [mB] at cMB
  rw [mC] at cMC
  subst f1 f2 f3 f4
  clear mA mB mC oA oB oC lC hA hB
  go_enter Tryd.func8, Tryd.ntmps8
  go_wp2_with fail
  refine c1.mono ?_
  rintro e w1 ⟨rfl, hb1⟩
  go_wp2_with fail
  refine (c2 _ (hb.kept hb1)).mono ?_
  rintro e w2 ⟨rfl, hb2⟩
  have k2 := below2 hb1 hb2
  go_wp2_with fail
  refine (cFA _ (ha.kept k2)).mono ?_
  rintro e w3 ⟨v3, rfl, hv3⟩
  have k3 := below2 k2 hv3.root
  obtain ⟨a3, c3, rfl, s3, _⟩ := owns_slV hv3.own
  go_wp2_with fail
  refine (cMA a3 c3 _ s3 (hm.kept k3)).mono ?_
  rintro e w4 ⟨rfl, hb4⟩
  have k4 := below2 k3 hb4
  go_wp2_with fail
  refine (cFB _ (hb.kept k4)).mono ?_
  rintro e w5 ⟨v5, rfl, hv5⟩
  have k5 := below2 k4 hv5.root
  obtain ⟨a5, c5, rfl, s5, _⟩ := owns_slV hv5.own
  go_wp2_with fail
  refine (cMB a5 c5 _ s5 (hm.kept k5)).mono ?_
  rintro e w6 ⟨rfl, hb6⟩
  have k6 := below2 k5 hb6
  go_wp2_with fail
  refine (cFA _ (ha.kept k6)).mono ?_
  rintro e w7 ⟨v7, rfl, hv7⟩
  have k7 := below2 k6 hv7.root
  have s7 := (hb.kept k7).cellsAt
  go_wp2_with (at_builtin; refine wpList_append_vals rfl (.tmp 32) (.tmp 33) rfl w6 _ v7 A B rfl hv7 b cb rfl hnb s7 (by omega) ?_; intro v8 w8 hv8)
  obtain ⟨a8, c8, rfl, s8, _⟩ := owns_slV hv8.own
  have k8 := below2 k6 hv8.root
  refine (cMC a8 c8 _ s8 (hm.kept k8)).mono ?_
  rintro e w9 ⟨rfl, hb9⟩
  have k9 := below2 k8 hb9
  go_wp2_with fail
  refine (kwakes_any _ (hm.kept k9)).mono ?_
  rintro e w10 ⟨rfl, hb10⟩
  go_wp2_with fail
  go_ret
  exact ⟨rfl, below2 k9 hb10⟩

set_option maxHeartbeats 1600000 in
set_option maxRecDepth 100000 in
theorem keyJoins_good (A B : List V) (a b : Option Addr) (ca cb : Nat) (w : World) (hm : ML w) (ha : SlV w a A) (hb : SlV w b B) (hna : a = none → ca = 0) (hnb : b = none → cb = 0) (hla : A.length ≤ 100) (hlb : B.length ≤ 100)
    (hA : bigL A = false) (hB : bigL B = false) (oA : ∀ v ∈ A, v.ok) (oB : ∀ v ∈ B, v.ok) (TA TB TC : ByteArray) (EA EB EC : Int)
    (mA : mk A = .tuple #[.string TA, .int .i64 EA]) (mB : mk B = .tuple #[.string TB, .int .i64 EB]) (mC : mk (A ++ B) = .tuple #[.string TC, .int .i64 EC]) (f1 : EA = 0) (f2 : EB = 0) (f3 : EC = 0) (f4 : TC = TA ++ TB) (f5 : TA.size + TB.size ≤ 4096) :
    Calls Tryd.prog 8 #[.slice a A.length ca, .slice b B.length cb] w fun e w' => e = .returned (.bool true) ∧ Below w.heap.size w w' := by
  have c1 := klarge_any A a ca w ha (by omega)
  have c2 := fun w h => klarge_any B b cb w h (by omega)
  rw [hA] at c1
  rw [hB] at c2
  have cFA := fun w h => kfew_any A a ca w h hna (by omega)
  have cFB := fun w h => kfew_any B b cb w h hnb (by omega)
  have oC : ∀ v ∈ A ++ B, v.ok := fun v hv => (List.mem_append.1 hv).elim (oA v) (oB v)
  have lC : (A ++ B).length ≤ 1000000 := by rw [List.length_append]; omega
  have cMA := fun a c w h hm => make_any A a c w h oA hm (by omega)
  have cMB := fun a c w h hm => make_any B a c w h oB hm (by omega)
  have cMC := fun a c w h hm => make_any (A ++ B) a c w h oC hm lC
  rw [mA] at cMA
  rw [mB] at cMB
  rw [mC] at cMC
  subst f1 f2 f3 f4
  have fe : ((TA ++ TB).toList == (TA ++ TB).toList) = true := by simp
  clear mA mB mC oA oB oC lC hA hB
  go_enter Tryd.func8, Tryd.ntmps8
  go_wp2_with fail
  refine c1.mono ?_
  rintro e w1 ⟨rfl, hb1⟩
  go_wp2_with fail
  refine (c2 _ (hb.kept hb1)).mono ?_
  rintro e w2 ⟨rfl, hb2⟩
  have k2 := below2 hb1 hb2
  go_wp2_with fail
  refine (cFA _ (ha.kept k2)).mono ?_
  rintro e w3 ⟨v3, rfl, hv3⟩
  have k3 := below2 k2 hv3.root
  obtain ⟨a3, c3, rfl, s3, _⟩ := owns_slV hv3.own
  go_wp2_with fail
  refine (cMA a3 c3 _ s3 (hm.kept k3)).mono ?_
  rintro e w4 ⟨rfl, hb4⟩
  have k4 := below2 k3 hb4
  go_wp2_with fail
  refine (cFB _ (hb.kept k4)).mono ?_
  rintro e w5 ⟨v5, rfl, hv5⟩
  have k5 := below2 k4 hv5.root
  obtain ⟨a5, c5, rfl, s5, _⟩ := owns_slV hv5.own
  go_wp2_with fail
  refine (cMB a5 c5 _ s5 (hm.kept k5)).mono ?_
  rintro e w6 ⟨rfl, hb6⟩
  have k6 := below2 k5 hb6
  go_wp2_with fail
  refine (cFA _ (ha.kept k6)).mono ?_
  rintro e w7 ⟨v7, rfl, hv7⟩
  have k7 := below2 k6 hv7.root
  have s7 := (hb.kept k7).cellsAt
  go_wp2_with (at_builtin; refine wpList_append_vals rfl (.tmp 32) (.tmp 33) rfl w6 _ v7 A B rfl hv7 b cb rfl hnb s7 (by omega) ?_; intro v8 w8 hv8)
  obtain ⟨a8, c8, rfl, s8, _⟩ := owns_slV hv8.own
  have k8 := below2 k6 hv8.root
  refine (cMC a8 c8 _ s8 (hm.kept k8)).mono ?_
  rintro e w9 ⟨rfl, hb9⟩
  have k9 := below2 k8 hb9
  go_wp2_with fail
  refine (kwakes_any _ (hm.kept k9)).mono ?_
  rintro e w10 ⟨rfl, hb10⟩
  go_wp2_with fail
  go_ret
  exact ⟨rfl, below2 k9 hb10⟩

theorem keyJoins_in (A B : List V) (a b : Option Addr) (ca cb : Nat) (w : World) (hm : ML w) (ha : SlV w a A) (hb : SlV w b B) (hna : a = none → ca = 0) (hnb : b = none → cb = 0)
    (hA : bigL A = false) (hB : bigL B = false) (oA : ∀ v ∈ A, v.ok) (oB : ∀ v ∈ B, v.ok) :
    Calls Tryd.prog 8 #[.slice a A.length ca, .slice b B.length cb] w fun e w' => e = .returned (.bool true) ∧ Below w.heap.size w w' := by
  have lA := (bigL_small hA).1
  have lB := (bigL_small hB).1
  have eA : mk A = .tuple #[.string (ba (mkS A)), .int .i64 (mkE A)] := rfl
  have eB : mk B = .tuple #[.string (ba (mkS B)), .int .i64 (mkE B)] := rfl
  rcases mkE_cases A with ⟨zA, fA, nA⟩ | ⟨zA, T1, E1, q1, q2⟩
  · rcases mkE_cases B with ⟨zB, fB, nB⟩ | ⟨zB, T2, E2, q3, q4⟩
    · have fC : fitsB (A ++ B) = true := by rw [fitsB_append, fA, fB]; rfl
      by_cases hn : (kvs (A ++ B)).length ≤ 4096
      · refine keyJoins_good A B a b ca cb w hm ha hb hna hnb lA lB hA hB oA oB _ _ _ _ _ _ (mk_yes fA nA) (mk_yes fB nB) (mk_yes fC hn) rfl rfl rfl ?_ ?_
        · rw [kvs_append, ba_cat]
        · rw [ba_size, ba_size]
          rw [kvs_append, List.length_append] at hn
          exact hn
      · refine keyJoins_long A B a b ca cb w hm ha hb hna hnb lA lB hA hB oA oB _ _ _ _ _ _ (mk_yes fA nA) (mk_yes fB nB) (mk_long fC hn) rfl rfl rfl rfl ?_ nA nB
        rw [ba_size, ba_size]
        rw [kvs_append, List.length_append] at hn
        omega
    · obtain ⟨T3, E3, q5, q6⟩ := mk_bad (A := A) (B := B) (Or.inr zB)
      exact keyJoins_bad2 A B a b ca cb w hm ha hb hna hnb lA lB hA hB oA oB _ _ _ _ _ _ (mk_yes fA nA) q3 q5 rfl q4 q6
  · obtain ⟨T3, E3, q5, q6⟩ := mk_bad (A := A) (B := B) (Or.inl zA)
    exact keyJoins_bad1 A B a b ca cb w hm ha hb hna hnb lA lB hA hB oA oB _ _ _ _ _ _ q1 eB q5 q2 q6

set_option maxRecDepth 100000 in
theorem keyJoins_open (v0 v1 : Value) (W : World) (hm : ML W) {H : Type} {enc : TypeId × Value → H} {base : Nat} {d0 d1 : DataW H} {p0 p1 : List MemPlace}
    (hv0 : Value.okWide Tryd.prog W .any base 22 v0) (h0 : DataW.Trod enc Tryd.prog W 0 (fun _ => true) true 22 v0 d0 p0)
    (hv1 : Value.okWide Tryd.prog W .any base 22 v1) (h1 : DataW.Trod enc Tryd.prog W 0 (fun _ => true) true 22 v1 d1 p1) :
    Calls Tryd.prog 8 #[v0, v1] W fun e w' => e = .returned (.bool true) ∧ Below W.heap.size W w' := by
  obtain ⟨a, A, ca, rfl, ha, oA, lA, hna⟩ := open_values hv0 h0
  obtain ⟨b, B, cb, rfl, hb, oB, lB, hnb⟩ := open_values hv1 h1
  unfold maxLen at lA lB
  cases hA : bigL A with
  | true => exact keyJoins_big A B a b ca cb W hm ha hb (by omega) (by omega) (Or.inl hA)
  | false =>
    cases hB : bigL B with
    | true => exact keyJoins_big A B a b ca cb W hm ha hb (by omega) (by omega) (Or.inr hB)
    | false => exact keyJoins_in A B a b ca cb W hm ha hb hna hnb hA hB (fun v hv => (oA v hv).1) (fun v hv => (oB v hv).1)

end Go.Proofs.YtijpnlomfodihaaDoor
