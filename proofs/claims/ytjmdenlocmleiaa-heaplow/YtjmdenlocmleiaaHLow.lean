/- HeapLow: the walk. -/
import Derived.Test.YtjmdenlocmleiaaHArgs
namespace Go.Proofs.Ytjmdenlocmleiaa
open Go.RowKit

/-- What a page takes anew where a row was deleted. -/
theorem del_ins {l : List Sl} (hF : Fine l) {s : Nat} {r : ByteArray} (h : l[s]? = some (some r)) : insE (delL l (s : Int)) r = 0 ∧ first (delL l (s : Int)) ≤ s := by
  have hlt : s < l.length := (List.getElem?_eq_some_iff.1 h).1
  have hr4 := hF.rows r (List.mem_of_getElem? h)
  have ht := tot_set l s (some r) none h
  have e0 : (rowOf none).size = 0 := rfl
  have e1 : (rowOf (some r)).size = r.size := rfl
  have hm := hF.room
  have hlen : (l.set s none).length = l.length := List.length_set ..
  have hg : (l.set s none)[s]? = some none := by simp [hlt]
  unfold delL
  rw [Int.toNat_natCast]
  generalize hq : l.set s none = q at *
  obtain ⟨t1, t2⟩ := trim_len q
  have t3 := tot_trim q
  have hfirst : first (trimL q) ≤ s := by
    rcases Nat.lt_or_ge s (trimL q).length with z | z
    · rcases Nat.lt_or_ge s (first (trimL q)) with y | y
      · obtain ⟨x, hx⟩ := first_lt _ s y
        rw [t2, List.getElem?_take_of_lt z, hg] at hx
        cases hx
      · exact y
    · exact Nat.le_trans (first_le _) z
  refine ⟨?_, hfirst⟩
  have hw : (withF (trimL q)).length ≤ l.length := by
    unfold withF
    split
    · omega
    · rename_i z
      have := first_le (trimL q)
      rw [List.length_append]
      have : (trimL q).length ≤ s := by omega
      simp
      omega
  have hwt := withF_tot (trimL q)
  unfold room at hm
  unfold insE
  rw [if_neg (show ¬ 400 < r.size by omega), if_neg]
  unfold room
  omega

/-- Where each row went. -/
def Went (n : Nat) (H : Hp) (L : List ByteArray) (K : List Int) : Prop := ∀ (j : Nat) (r : ByteArray), j < K.length → L[j]? = some r → r.size ≤ 400 ∧ ∃ p s : Nat, K[j]? = some (128 * (p : Int) + (s : Int)) ∧ 1 ≤ p ∧ p < n ∧ (H p)[s]? = some (some r)

theorem ins_at {l : List Sl} {row : ByteArray} : (insL l row)[first l]? = some (some row) := by
  have h0 := withF_first l
  have hlt : first l < (withF l).length := (List.getElem?_eq_some_iff.1 h0).1
  unfold insL
  simp [hlt]

theorem Went.ins {n : Nat} {H : Hp} {L : List ByteArray} {K : List Int} (h : Went n H L K) {row : ByteArray} (hx : L[K.length]? = some row) (hr : row.size ≤ 400) (h0 : insHX n H row = 0) : Went n (insHH n H row) L (K ++ [insHK n H row]) := by
  unfold insHX at h0
  rw [if_neg (by omega)] at h0
  cases hl : lowP n H row with
  | none => rw [hl] at h0; cases h0
  | some i =>
    obtain ⟨l1, l2, l3, _⟩ := low_of hl
    have eK : insHK n H row = 128 * (i : Int) + (first (H i) : Int) := by unfold insHK; rw [if_neg (by omega), hl]
    have eH : insHH n H row = updH H i (insL (H i) row) := by unfold insHH; rw [if_neg (by omega), hl]
    rw [eK, eH]
    intro j r hj hL
    rw [List.length_append, List.length_singleton] at hj
    by_cases e : j = K.length
    · subst e
      rw [hx] at hL
      injection hL with hL
      subst hL
      exact ⟨hr, i, first (H i), by simp, l1, l2, by rw [updH_same]; exact ins_at⟩
    · obtain ⟨q1, p, s, q2, q3, q4, q5⟩ := h j r (by omega) hL
      refine ⟨q1, p, s, by rw [List.getElem?_append_left (by omega)]; exact q2, q3, q4, ?_⟩
      by_cases e2 : p = i
      · subst e2
        rw [updH_same]
        have := ins_keep q5 row
        unfold insN at this
        rw [if_pos l3] at this
        exact this
      · rw [updH_ne _ _ e2]; exact q5

/-- A row that is deleted, and put anew. -/
theorem Went.again {n : Nat} {V : Nat → ByteArray} {H : Hp} {L : List ByteArray} {K : List Int} (ok : Vok n V H) (h : Went n H L K) {j : Nat} {r : ByteArray} {k : Int} (hj : j < K.length) (hL : L[j]? = some r) (hk : K[j]? = some k) :
    r.size ≤ 400 ∧ delHX n H k = 0 ∧ insHX n (delHH n H k) r = 0 ∧ insHK n (delHH n H k) r ≤ k := by
  obtain ⟨q1, p, s, q2, q3, q4, q5⟩ := h j r hj hL
  rw [hk] at q2
  injection q2 with q2
  have hsl : s < (H p).length := (List.getElem?_eq_some_iff.1 q5).1
  have h7 := few (ok.fine p).room
  obtain ⟨e1, e2, e3⟩ := pg_near (H := H) q2 (by omega) q3 q4
  have er : rowAt (H p) (s : Int) = some r := by
    unfold rowAt
    rw [if_pos (by omega), Int.toNat_natCast, q5]
    rfl
  have eX : delHX n H k = 0 := by
    unfold delHX delE
    rw [e1, e2, er]
  have eH : delHH n H k = updH H p (delL (H p) (s : Int)) := by
    unfold delHH
    rw [if_pos eX, e1, e2, e3]
  obtain ⟨d1, d2⟩ := del_ins (ok.fine p) q5
  refine ⟨q1, eX, ?_⟩
  rw [eH]
  have hl : ∃ i, lowP n (updH H p (delL (H p) (s : Int))) r = some i := by
    cases hl : lowP n (updH H p (delL (H p) (s : Int))) r with
    | some i => exact ⟨i, rfl⟩
    | none =>
      unfold lowP at hl
      rw [List.find?_eq_none] at hl
      have := hl p (mem_pgs.2 ⟨q3, q4⟩)
      rw [updH_same, d1] at this
      simp at this
  obtain ⟨i, hl⟩ := hl
  obtain ⟨l1, l2, l3, l4⟩ := low_of hl
  unfold insHX insHK
  rw [if_neg (by omega), if_neg (by omega), hl]
  refine ⟨rfl, ?_⟩
  show 128 * (i : Int) + _ ≤ k
  by_cases e : i = p
  · subst e
    rw [updH_same]
    omega
  · have hip : i < p := by
      rcases Nat.lt_or_ge p i with z | z
      · have := l4 p q3 z
        rw [updH_same] at this
        exact absurd d1 this
      · omega
    rw [updH_ne _ _ e]
    have := first_le (H i)
    have := few (ok.fine i).room
    omega


set_option maxHeartbeats 6400000 in
set_option maxRecDepth 100000 in
theorem heapLow_on (a0 : Option Addr) (L : List ByteArray) (c0 : Nat) (at_ : Int) (w : World) (hL : SlG w a0 1 (fun s => [.string s]) L) (hat : -9223372036854775808 ≤ at_ ∧ at_ ≤ 9223372036854775807) (hfew : L.length ≤ 60) :
    Calls Try.prog 5 #[.slice a0 L.length c0, .int .i64 at_] w fun e w' => e = .returned (.bool true) ∧ Below w.heap.size w w' := by
  have cM := made_any 40 3 (by decide) (by decide) w
  have cW := hwakes_any
  have hf2 : decide ((60 : Int) < (L.length : Int)) = false := by simp; omega
  go_enter Try.func5, Try.ntmps5
  go_wp2_with fail
  refine cM.mono ?_
  rintro e w1 ⟨g, p, hb, rfl, t1⟩
  have t0 := Told.nil t1
  clear cM t1
  go_wp2_with fail
  go_loopw [9, 10] (fun spl si wr => ∃ (V : Nat → ByteArray) (H : Hp) (K : List Int), K.length ≤ L.length ∧ si = .int .i64 (K.length : Int) ∧ Told w wr hb p g (250 * K.length) 40 3 V True [] spl K ∧ Hid (Vok 40 V H) ∧ Hid (Went 40 H L K)) (fun _ si _ => L.length - (intOf si).toNat)
  case atStart => exact ⟨_, fun _ => [], [], Nat.zero_le _, rfl, t0, vok_new 40 (by decide) (by decide), fun j r hj => by simp at hj⟩
  case round =>
    clear t0
    obtain ⟨V, H, K, hK, rfl, t, HV, HW⟩ := hrel
    obtain ⟨ka, kc, rfl, _, _⟩ := t.row.len
    have hb1 := t.hs.bel
    by_cases hlt : K.length < L.length
    · have hlt2 : (K.length : Int) < (L.length : Int) := by omega
      have hx : L[K.length]? = some L[K.length] := by simp [hlt]
      generalize L[K.length] = row at hx
      rcases hL with hL | ⟨b, off, rfl, hlb, hcell⟩
      · rw [hL] at hlt; simp at hlt
      have r0 := hcell K.length row hx 0 _ rfl
      rw [Nat.mul_one, Nat.add_zero] at r0
      have r1 : wr.cell? ⟨b, off + K.length, none⟩ = some (.string row) := (hb1.cell (p := ⟨b, _, none⟩) hlb).trans r0
      clear hcell r0
      by_cases hr : row.size ≤ 400
      · have hr2 : decide ((400 : Int) < (row.size : Int)) = false := by simp; omega
        have cI := insert_any t.hs (by omega) (by decide) HV.out row (by omega)
        have HI : Hid (insHX 40 H row = 0 ∨ insHX 40 H row = 50) := by
          show _ ∨ _
          unfold insHX
          rw [if_neg (by omega)]
          split
          · exact Or.inl rfl
          · exact Or.inr rfl
        have HX := (show Hid _ from (⟨hx, hr⟩ : _ ∧ _))
        have T := (show Hid _ from t)
        clear hx hr t
        go_wp2_with fail
        refine cI.mono ?_
        rintro e w2 ⟨k, X, rfl, ⟨q⟩⟩
        rcases q with ⟨_, _, nz, _⟩ | ⟨rfl, hX, V2, ok2, t2⟩
        · exact absurd trivial nz
        have T2 := (show Hid _ from T.out.move t2)
        have OK2 := (show Hid _ from ok2)
        clear cI t2 ok2
        rcases HI.out with e0 | e0
        · have hX0 : X = 0 := hX.trans e0
          clear hX
          subst hX0
          have HW2 := (show Hid _ from HW.out.ins HX.out.1 HX.out.2 e0)
          clear e0 HI
          generalize hk : insHK 40 H row = k at *
          have u2 := T2.out.below (below_alloc1 w2 (.cells #[.int .i64 k] 3))
          go_wp2_with (at_builtin; refine wpList_append_int _ rfl _ _ rfl w.heap.size _ K [k] rfl u2.row ⟨w2.heap.size, 0, none⟩ 1 (by simp; rfl) (one_src _ _ (by simp)) (by simp; omega) u2.hs.bel.size ?_; intro v' w' hrow' hfr hnew)
          go_roundw
          case rel =>
            refine ⟨V2, _, K ++ [k], by simp; omega, by rw [List.length_append, List.length_singleton]; go_num, ?_, OK2, HW2⟩
            have := u2.app hrow' hfr hnew
            refine this.mono ?_
            rw [List.length_append, List.length_singleton]
            omega
          case measure => simp [intOf]; omega
        · have hX0 : X = 50 := hX.trans e0
          clear hX e0
          subst hX0
          have cW2 := cW w2
          go_wp2_with fail
          refine cW2.mono ?_
          rintro e w3 ⟨rfl, b3⟩
          go_wp2_with fail
          go_ret
          exact ⟨rfl, below2 T2.out.hs.bel b3⟩
      · have hr2 : decide ((400 : Int) < (row.size : Int)) = true := by simp; omega
        have cW2 := cW wr
        have HB := (show Hid _ from hb1)
        clear hr t hb1
        go_wp2_with fail
        refine cW2.mono ?_
        rintro e w3 ⟨rfl, b3⟩
        go_wp2_with fail
        go_ret
        exact ⟨rfl, below2 HB.out b3⟩
    · have hend : decide ((K.length : Int) < (L.length : Int)) = false := by simp; omega
      have hKL : K.length = L.length := by omega
      by_cases h0 : K.length = 0
      · have h02 : ((K.length : Int) == 0) = true := by rw [beq_iff_eq]; omega
        have cW2 := cW wr
        have HB := (show Hid _ from hb1)
        clear t hb1 h0 hKL
        go_wp2_with fail
        refine cW2.mono ?_
        rintro e w3 ⟨rfl, b3⟩
        go_wp2_with fail
        go_ret
        exact ⟨rfl, below2 HB.out b3⟩
      · have h02 : ((K.length : Int) == 0) = false := by rw [beq_eq_false_iff_ne]; omega
        have cD := mod_any at_ K.length wr hat.1 hat.2 (by omega) (by omega)
        have HKL := (show Hid _ from hKL)
        have T := (show Hid _ from t)
        clear t hb1 h0 hKL
        go_wp2_with fail
        refine cD.mono ?_
        rintro e w2 ⟨r, rfl, hr, hw2⟩
        rw [hw2]
        clear hw2 cD
        have hx : K[r]? = some K[r] := by simp [hr]
        generalize K[r] = k at hx
        have hrL : r < L.length := by have := HKL.out; omega
        have hy : L[r]? = some L[r] := by simp [hrL]
        generalize L[r] = row at hy
        obtain ⟨q1, q2, q3, q4⟩ := HW.out.again HV.out hr hy hx
        have hr2 : (r : Int) < (K.length : Int) := by omega
        have hrL2 : (r : Int) < (L.length : Int) := by omega
        rcases hL with hL | ⟨b, off, rfl, hlb, hcell⟩
        · rw [hL] at hrL; simp at hrL
        have r0 := hcell r row hy 0 _ rfl
        rw [Nat.mul_one, Nat.add_zero] at r0
        obtain ⟨kb, kc', e, _, _, _, ck⟩ := T.out.row.cell hx
        cases e
        have cDel := delete_any T.out.hs (by omega) (by decide) HV.out k
        rw [q2] at cDel
        have HX := (show Hid _ from hx)
        have HQ : Hid (row.size ≤ 1000000 ∧ insHX 40 (delHH 40 H k) row = 0 ∧ insHK 40 (delHH 40 H k) row ≤ k) := ⟨by omega, q3, q4⟩
        clear q1 q2 q3 q4 hx hy hcell
        go_wp2_with fail
        refine cDel.mono ?_
        rintro e w3 ⟨Y, rfl, ⟨q⟩⟩
        rcases q with ⟨_, nz, _⟩ | ⟨rfl, V3, ok3, t3⟩
        · exact absurd trivial nz
        have T3 := (show Hid _ from T.out.move t3)
        have cI := insert_any T3.out.hs (by omega) (by decide) ok3 row HQ.out.1
        have r3 : w3.cell? ⟨b, off + r, none⟩ = some (.string row) := (T3.out.hs.bel.cell (p := ⟨b, _, none⟩) hlb).trans r0
        clear cDel t3 ok3
        go_wp2_with fail
        refine cI.mono ?_
        rintro e w4 ⟨k4, X, rfl, ⟨q⟩⟩
        rcases q with ⟨_, _, nz, _⟩ | ⟨rfl, hX, V4, ok4, t4⟩
        · exact absurd trivial nz
        rw [HQ.out.2.1] at hX
        subst hX
        have T4 := (show Hid _ from T3.out.move t4)
        have hle : decide (insHK 40 (delHH 40 H k) row ≤ k) = true := by simpa using HQ.out.2.2
        generalize insHK 40 (delHH 40 H k) row = k4 at *
        obtain ⟨kb4, kc4, e, _, _, _, ck4⟩ := T4.out.row.cell HX.out
        cases e
        have cW2 := cW w4
        clear cI t4 ok4
        go_wp2_with fail
        refine cW2.mono ?_
        rintro e w5 ⟨rfl, b5⟩
        go_wp2_with fail
        go_ret
        exact ⟨rfl, below2 T4.out.hs.bel b5⟩

set_option maxHeartbeats 3200000 in
set_option maxRecDepth 100000 in
theorem heapLow_many (a0 : Option Addr) (n c0 : Nat) (at_ : Int) (w : World) (h : 60 < n) :
    Calls Try.prog 5 #[.slice a0 n c0, .int .i64 at_] w fun e w' => e = .returned (.bool true) ∧ Below w.heap.size w w' := by
  have cM := made_any 40 3 (by decide) (by decide) w
  have cW := hwakes_any
  have hf2 : decide ((60 : Int) < (n : Int)) = true := by simp; omega
  go_enter Try.func5, Try.ntmps5
  go_wp2_with fail
  refine cM.mono ?_
  rintro e w1 ⟨g, p, hb, rfl, t1⟩
  have cW1 := cW w1
  have HB : Hid (Below w.heap.size w w1) := t1.bel
  clear cM t1 cW
  go_wp2_with fail
  refine cW1.mono ?_
  rintro e w5 ⟨rfl, b5⟩
  clear cW1
  go_wp2_with fail
  go_ret
  exact ⟨rfl, below2 HB.out b5⟩

set_option maxRecDepth 100000 in
theorem heapLow_any {H : Type} {enc : TypeId × Value → H} {base : Nat} {d0 : DataW H} {p0 : List MemPlace} (v0 : Value) (k : Int) (w : World) (hv0 : Value.okWide Try.prog w .any base 41 v0) (h0 : DataW.Trod enc Try.prog w 0 (fun _ => true) true 41 v0 d0 p0) (hk : -9223372036854775808 ≤ k ∧ k ≤ 9223372036854775807) :
    Calls Try.prog 5 #[v0, .int .i64 k] w fun e w' => e = .returned (.bool true) ∧ Below w.heap.size w w' := by
  obtain ⟨a0, L, c0, rfl, r1, _⟩ := open_texts hv0 h0
  by_cases h : 60 < L.length
  · exact heapLow_many a0 L.length c0 k w h
  · exact heapLow_on a0 L c0 k w r1 hk (by omega)

end Go.Proofs.Ytjmdenlocmleiaa
