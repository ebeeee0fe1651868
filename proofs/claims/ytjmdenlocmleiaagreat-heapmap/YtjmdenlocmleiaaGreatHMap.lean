/- HeapMap: the walk. -/
import Derived.Test.YtjmdenlocmleiaaGreatHOps
namespace Go.Proofs.YtjmdenlocmleiaaGreat
open Go.RowKit

theorem shr_bit : ∀ c : Nat, c < 256 → ∀ e, e < 8 → (bits .and .u8 ((c : Int) / 2 ^ e) 1 == 1) = c.testBit e := by decide +kernel

def anyP (L : List Int) (i : Nat) : Bool := L.any (fun x => decide (x / 128 = (i : Int)))
theorem placesN_mem {n : Nat} {V : Nat → ByteArray} {H : Hp} (ok : Vok n V H) {x : Int} (h : x ∈ placesN n H) : ∃ p s : Nat, x = 128 * (p : Int) + (s : Int) ∧ s < 127 ∧ 1 ≤ p ∧ p < n ∧ (s : Int) ∈ slotsF (H p) 0 := by
  unfold placesN at h
  obtain ⟨p, hp, hx⟩ := List.mem_flatMap.1 h
  obtain ⟨y, hy, rfl⟩ := List.mem_map.1 hx
  obtain ⟨s, rfl, hs⟩ := slotsF_mem _ _ _ hy
  obtain ⟨h1, h2⟩ := mem_pgs.1 hp
  have := few (ok.fine p).room
  exact ⟨p, s, rfl, by omega, h1, h2, hy⟩
theorem any_at {n : Nat} {V : Nat → ByteArray} {H : Hp} (ok : Vok n V H) (i : Nat) : anyP (placesN n H) i = !(H i).isEmpty := by
  cases hq : (H i).isEmpty with
  | true =>
    have he : H i = [] := by simpa using hq
    unfold anyP
    rw [List.any_eq_false.2]
    · rfl
    · intro x hx e
      obtain ⟨p, s, rfl, hs, h1, h2, hm⟩ := placesN_mem ok hx
      have : p = i := by simp at e; omega
      rw [this, he] at hm
      cases hm
  | false =>
    have he : H i ≠ [] := fun e => by rw [e] at hq; cases hq
    have hi : 1 ≤ i ∧ i < n := by
      refine ⟨?_, ?_⟩
      · rcases Nat.eq_zero_or_pos i with z | z
        · exact absurd (ok.out i (Or.inl z)) he
        · exact z
      · rcases Nat.lt_or_ge i n with z | z
        · exact z
        · exact absurd (ok.out i (Or.inr z)) he
    have hl : (slotsF (H i) 0).length ≠ 0 := fun e => he ((slotsF_nil (ok.fine i).trim 0).1 e)
    obtain ⟨y, hy⟩ := List.exists_mem_of_length_pos (Nat.pos_of_ne_zero hl)
    unfold anyP
    rw [List.any_eq_true.2]
    · rfl
    · obtain ⟨s, rfl, hs⟩ := slotsF_mem _ _ _ hy
      have := few (ok.fine i).room
      refine ⟨128 * (i : Int) + (s : Int), List.mem_flatMap.2 ⟨i, mem_pgs.2 hi, List.mem_map.2 ⟨_, hy, rfl⟩⟩, ?_⟩
      simp
      omega
theorem any_step (L : List Int) (i k : Nat) (x : Int) (h : L[k]? = some x) : anyP (L.take (k + 1)) i = (anyP (L.take k) i || decide (x / 128 = (i : Int))) := by
  unfold anyP
  rw [List.take_add_one, h, List.any_append]
  simp

set_option maxHeartbeats 6400000 in
set_option maxRecDepth 100000 in
theorem heapMap_on (a0 : Option Addr) (L : List Hp1) (c0 : Nat) (w : World) (hL : SlG w a0 3 Hp1.cells L) (hlen : L.length ≤ maxLen) :
    Calls Tryz.prog 5 #[.slice a0 L.length c0] w fun e w' => e = .returned (.bool true) ∧ Below w.heap.size w w' := by
  have cM := made_any 20 4 (by decide) (by decide) w
  have cW := hwakes_any
  have cF := fun w1 (b : Below w.heap.size w w1) => fair_any a0 L c0 w1 (hL.kept b) hlen
  go_enter Tryz.func5, Tryz.ntmps5
  go_wp2_with fail
  refine cM.mono ?_
  rintro e w1 ⟨g, p, hb, rfl, t1⟩
  have cF1 := cF w1 t1.bel
  clear cM cF
  go_wp2_with fail
  refine cF1.mono ?_
  rintro e w2 ⟨rfl, hw2⟩
  rw [hw2]
  clear hw2 cF1
  cases hfair : fairB L with
  | false =>
    have cW1 := cW w1
    have HB : Hid (Below w.heap.size w w1) := t1.bel
    clear t1 cW hfair
    go_wp2_with fail
    refine cW1.mono ?_
    rintro e w5 ⟨rfl, b5⟩
    clear cW1
    go_wp2_with fail
    go_ret
    exact ⟨rfl, below2 HB.out b5⟩
  | true =>
    obtain ⟨hl1, hl2⟩ := fair_of hfair
    have HR : Hid (∀ s ∈ L, s.row.size ≤ 2000) := hl2
    clear hfair hl2
    go_wp2_with fail
    go_loopw [7] (fun si wr => ∃ (i : Nat) (V : Nat → ByteArray) (H : Hp), i ≤ L.length ∧ si = .int .i64 (i : Int) ∧ Hs w wr hb p g (140 * i) 20 4 V [] True [] ∧ Hid (Vok 20 V H)) (fun si _ => L.length - (intOf si).toNat)
    case atStart => exact ⟨0, _, fun _ => [], Nat.zero_le _, rfl, t1, vok_new 20 (by decide) (by decide)⟩
    case round =>
      clear t1
      obtain ⟨i, V, H, hi, rfl, t, ok⟩ := hrel
      have hbel := t.bel
      by_cases hlt : i < L.length
      · have hlt2 : (i : Int) < (L.length : Int) := by omega
        have hx : L[i]? = some L[i] := by simp [hlt]
        generalize L[i] = s at hx
        have hsz := HR.out s (List.mem_of_getElem? hx)
        rcases hL with hL | ⟨b, off, rfl, hlb, hcell⟩
        · rw [hL] at hlt; simp at hlt
        have S0 : Hid (w.cell? ⟨b, off + i * 3, none⟩ = some (.int .i64 s.kind)) := hcell i s hx 0 _ rfl
        have S1 : Hid (w.cell? ⟨b, off + i * 3 + 1, none⟩ = some (.int .i64 s.place)) := hcell i s hx 1 _ rfl
        have S2 : Hid (w.cell? ⟨b, off + i * 3 + 2, none⟩ = some (.string s.row)) := hcell i s hx 2 _ rfl
        have s0 := (hbel.cell (p := ⟨b, _, none⟩) hlb).trans S0.out
        have s1 := (hbel.cell (p := ⟨b, _, none⟩) hlb).trans S1.out
        have s2 := (hbel.cell (p := ⟨b, _, none⟩) hlb).trans S2.out
        clear hcell hx hbel
        obtain ⟨kk, pp, row⟩ := s
        simp only at s0 s1 s2 hsz S1 S2
        clear S0
        by_cases k0 : kk = 0
        · subst k0
          have cI := insert_any t (by omega) (by decide) ok.out row (by omega)
          clear t s1
          go_wp2_with fail
          refine cI.mono ?_
          rintro e w3 ⟨K, X, rfl, ⟨q⟩⟩
          rcases q with ⟨_, _, nz, _⟩ | ⟨_, _, V3, ok3, t3⟩
          · exact absurd trivial nz
          have OK3 := (show Hid _ from ok3)
          clear cI ok3
          go_wp2_with fail
          go_roundw
          case rel => exact ⟨i + 1, V3, _, by omega, by go_num, t3.mono (by omega), OK3⟩
          case measure => simp [intOf]; omega
        · have d0 : (kk == 0) = false := by simpa using k0
          by_cases k1 : kk = 1
          · subst k1
            have cI := put_heap t.drew (by omega) (by decide) ok.out pp row (by omega)
            clear t k0
            go_wp2_with fail
            apply wp_end (R := fun U => ∃ V3, Vok 20 V3 (putHH 20 H pp row) ∧ Hs w U hb p g (140 * i + 9) 20 4 V3 [] True [])
            case h =>
              go_region_held3 (fun U => U.cell? ⟨b, off + i * 3 + 1, none⟩ = some (.int .i64 pp) ∧ U.cell? ⟨b, off + i * 3 + 2, none⟩ = some (.string row)) (first | exact hB | exact ⟨s1, s2⟩ | go_keep)
                (first
                  | (go_at_call 13; refine cI.mono ?_; rintro e w3 ⟨Y, rfl, ⟨q⟩⟩; rcases q with ⟨_, nz, _⟩ | ⟨_, V3, ok3, t3⟩; exact absurd trivial nz; have hB := (⟨(t3.bel.cell (p := ⟨b, _, none⟩) hlb).trans S1.out, (t3.bel.cell (p := ⟨b, _, none⟩) hlb).trans S2.out⟩ : _ ∧ _)))
              all_goals exact EndQ.mk ⟨V3, ok3, t3⟩
            rintro w3 ⟨V3, ok3, t3⟩
            have OK3 := (show Hid _ from ok3)
            clear cI ok3
            go_wp2_with fail
            go_roundw
            case rel => exact ⟨i + 1, V3, _, by omega, by go_num, t3.mono (by omega), OK3⟩
            case measure => simp [intOf]; omega
          · have d1 : (kk == 1) = false := by simpa using k1
            by_cases k2 : kk = 2
            · subst k2
              have cI := delete_any t (by omega) (by decide) ok.out pp
              clear t s2 k0 k1
              go_wp2_with fail
              refine cI.mono ?_
              rintro e w3 ⟨Y, rfl, ⟨q⟩⟩
              rcases q with ⟨_, nz, _⟩ | ⟨_, V3, ok3, t3⟩
              · exact absurd trivial nz
              have OK3 := (show Hid _ from ok3)
              clear cI ok3
              go_wp2_with fail
              go_roundw
              case rel => exact ⟨i + 1, V3, _, by omega, by go_num, t3.mono (by omega), OK3⟩
              case measure => simp [intOf]; omega
            · have d2 : (kk == 2) = false := by simpa using k2
              have T := (show Hid _ from t)
              clear t k0 k1 k2 s1 s2
              go_wp2_with fail
              go_roundw
              case rel => exact ⟨i + 1, V, H, by omega, by go_num, T.out.mono (by omega), ok⟩
              case measure => simp [intOf]; omega
      · have hend : decide ((i : Int) < (L.length : Int)) = false := by simp; omega
        have cF := t.flush trivial (by omega)
        clear t hL
        go_wp2_with fail
        refine cF.mono ?_
        rintro e w3 ⟨rfl, t3⟩
        have cR := t3.read 0 (by decide)
        clear cF t3
        go_wp2_with fail
        refine cR.mono ?_
        rintro e w4 ⟨rfl, t4⟩
        have cP := places_any t4.hs (by omega) (by decide) ok.out (by decide) trivial
        clear cR t4
        go_wp2_with fail
        refine cP.mono ?_
        rintro e w5 ⟨v, rfl, t5⟩
        have hm := ok.out.msz
        have hm2 : ((V 0).size : Int) = 512 := by omega
        have HA : Hid (∀ j, j < 4096 → anyP (placesN 20 H) j = bit (V 0) j) := fun j hj => by rw [any_at ok.out, ok.out.map j hj]
        have HM : Hid (∀ x ∈ placesN 20 H, ∃ p s : Nat, x = 128 * (p : Int) + (s : Int) ∧ s < 127 ∧ p < 20) := fun x hx => by
          obtain ⟨p, s, a, b, _, c, _⟩ := placesN_mem ok.out hx
          exact ⟨p, s, a, b, c⟩
        have hrow := t5.row
        have T5 := (show Hid _ from t5)
        have hpl : (placesN 20 H).length ≤ 100000 := by
          rw [placesN_eq]
          have h1 := flat_len ok.out ((pgsN 20).filter (fun i => !(H i).isEmpty))
          have h2 := List.length_filter_le (fun i => !(H i).isEmpty) (pgsN 20)
          have e : (pgsN 20).length = 19 := rfl
          omega
        clear cP t5 ok hend hbel
        generalize placesN 20 H = PP at *
        generalize V 0 = M at *
        obtain ⟨pa, pc, rfl, _, _⟩ := hrow.len
        go_wp2_with fail
        go_loopw [12] (fun si wr => ∃ i : Nat, i ≤ 4096 ∧ si = .int .i64 (i : Int) ∧ Hid (wr = w5)) (fun si _ => 4096 - (intOf si).toNat)
        case atStart => exact ⟨0, Nat.zero_le _, rfl, rfl⟩
        case round =>
          obtain ⟨i, hi, rfl, hwr⟩ := hrel
          rw [hwr.out]
          clear hwr
          by_cases hlt : i < 4096
          · have d1 : decide ((i : Int) < 4096) = true := by simp; omega
            have hbit := HA.out i hlt
            have HBt : Hid (anyP PP i = bit M i) := hbit
            clear hbit
            go_wp2_with fail
            go_loopw [13, 14] (fun sin sk wr => ∃ k : Nat, k ≤ PP.length ∧ sk = .int .i64 (k : Int) ∧ sin = .bool (anyP (PP.take k) i) ∧ Hid (wr = w5)) (fun _ sk _ => PP.length - (intOf sk).toNat)
            case atStart => exact ⟨0, Nat.zero_le _, rfl, rfl, rfl⟩
            case round =>
              obtain ⟨k, hk, rfl, rfl, hwr⟩ := hrel
              rw [hwr.out]
              clear hwr
              by_cases hkl : k < PP.length
              · have hkl2 : (k : Int) < (PP.length : Int) := by omega
                have hx : PP[k]? = some PP[k] := by simp [hkl]
                generalize PP[k] = x at hx
                have hst := any_step PP i k x hx
                obtain ⟨q, s, rfl, hs, hq⟩ := HM.out x (List.mem_of_getElem? hx)
                obtain ⟨kb, kc, e, _, _, _, ck⟩ := hrow.cell hx
                cases e
                have e1 : (128 * (q : Int) + (s : Int)) / 128 = (q : Int) := by omega
                have e2 : (128 * (q : Int) + (s : Int)).tdiv 128 = (q : Int) := by rw [Int.tdiv_eq_ediv_of_nonneg (by omega)]; exact e1
                rw [e1] at hst
                cases hb : anyP (PP.take k) i with
                | true =>
                  rw [hb, Bool.true_or] at hst
                  have HS := (show Hid _ from hst)
                  clear hst hx hb
                  go_wp2_with fail
                  go_roundw
                  case rel => exact ⟨k + 1, by omega, by go_num, by rw [HS.out], True.intro⟩
                  case measure => simp [intOf]; omega
                | false =>
                  rw [hb, Bool.false_or] at hst
                  have HS := (show Hid _ from hst)
                  clear hst hx hb
                  go_wp2_with fail
                  go_roundw
                  case rel => exact ⟨k + 1, by omega, by go_num, by rw [HS.out]; rfl, True.intro⟩
                  case measure => simp [intOf]; omega
              · obtain rfl : k = PP.length := by omega
                rw [List.take_length]
                have hkl2 : decide ((PP.length : Int) < (PP.length : Int)) = false := by simp
                have hlt8 : i / 8 < M.size := by omega
                have hsb := shr_bit (byteAt M (i / 8)) (byteAt_lt _ _) (i % 8) (Nat.mod_lt _ (by decide))
                have hbb := HBt.out
                unfold bit at hbb
                rw [← hbb, byteAt_of hlt8] at hsb
                clear hbb
                generalize anyP PP i = r at *
                cases r
                · go_wp2_with fail
                  go_roundw
                  case rel => exact ⟨i + 1, by omega, by go_num, True.intro⟩
                  case measure => simp [intOf]; omega
                · go_wp2_with fail
                  go_roundw
                  case rel => exact ⟨i + 1, by omega, by go_num, True.intro⟩
                  case measure => simp [intOf]; omega
          · obtain rfl : i = 4096 := by omega
            have cW5 := cW w5
            have d1 : decide (((4096 : Nat) : Int) < 4096) = false := by decide
            go_wp2_with fail
            refine cW5.mono ?_
            rintro e w6 ⟨rfl, b6⟩
            go_wp2_with fail
            go_ret
            exact ⟨rfl, below2 T5.out.hs.bel b6⟩

set_option maxRecDepth 100000 in
theorem heapMap_any {H : Type} {enc : TypeId × Value → H} {base : Nat} {d0 : DataW H} {p0 : List MemPlace} (v0 : Value) (w : World) (hv0 : Value.okWide Tryz.prog w .any base 22 v0) (h0 : DataW.Trod enc Tryz.prog w 0 (fun _ => true) true 22 v0 d0 p0) :
    Calls Tryz.prog 5 #[v0] w fun e w' => e = .returned (.bool true) ∧ Below w.heap.size w w' := by
  obtain ⟨a0, L, c0, rfl, r1, r2, r3, _⟩ := open_steps hv0 h0
  exact heapMap_on a0 L c0 w r1 (by omega)

end Go.Proofs.YtjmdenlocmleiaaGreat
