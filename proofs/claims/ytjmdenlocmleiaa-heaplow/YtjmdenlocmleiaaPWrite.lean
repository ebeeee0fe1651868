/- A builder of texts; the contract of write. -/
import Derived.Test.YtjmdenlocmleiaaPTrim
namespace Go.Proofs.Ytjmdenlocmleiaa
open Go.RowKit

/-- A builder of the call's own that holds bytes. -/
def Bd (B b : Nat) (l : List UInt8) (w : World) : Prop := Lib.IsBuilderF 107 5 B b (Lib.byteCells l) w

theorem bdWrite_any (B b : Nat) (l : List UInt8) (s : ByteArray) (w : World) (h : Bd B b l w) (hlen : l.length + s.size ≤ 140737488355328) (hBw : B ≤ w.heap.size) :
    Calls Try.prog 55 #[.pointer (some ⟨b, 0, none⟩), .string s] w fun e w' => e = .returned (.tuple #[.int .i64 s.size, .nilIface]) ∧ Bd B b (l ++ s.data.toList) w' ∧ Below B w w' ∧ Lib.OthersKept 5 (some b) w w' := by
  have c := Any.Builder_WriteString_k { Try.lays105 with } Try.Builder_Extra_105 B b (Lib.byteCells l) s w h (by rw [Lib.byteCells_length]; exact hlen) hBw
  refine c.mono ?_
  rintro e w' ⟨rfl, h1, h2, h3⟩
  refine ⟨rfl, Or.inr ?_, h2, h3⟩
  rw [Lib.byteCells_append, ← Lib.strCells_eq]
  exact h1

theorem bdLen_any (B b : Nat) (l : List UInt8) (w : World) (h : Bd B b l w) :
    Calls Try.prog 56 #[.pointer (some ⟨b, 0, none⟩)] w fun e w' => e = .returned (.int .i64 (l.length : Int)) ∧ w' = w := by
  have c := Try.Builder_Len_f B b (Lib.byteCells l) w h
  rw [Lib.byteCells_length] at c
  exact c

theorem bdString_any (B b : Nat) (l : List UInt8) (w : World) (h : Bd B b l w) (hBw : B ≤ w.heap.size) :
    Calls Try.prog 57 #[.pointer (some ⟨b, 0, none⟩)] w fun e w' => e = .returned (.string (ba l)) ∧ Below B w w' := by
  refine (Try.Builder_String_any_f B b l w h hBw).mono ?_
  rintro e w' ⟨rfl, _, h2⟩
  exact ⟨rfl, h2⟩

theorem ownsF_below {w w' : World} {base e size : Nat} {v : Value} {n : Nat} {xs : List Value} (h : w.ownsRowF base e size v n xs) (hb : Below w.heap.size w w') : w'.ownsRowF base e size v n xs := by
  obtain ⟨h1, h2⟩ := h
  refine ⟨h1, ?_⟩
  rcases h2 with h2 | ⟨g, cap, cur, fz, hv, hg, hh, r⟩
  · exact Or.inl h2
  · refine Or.inr ⟨g, cap, cur, fz, hv, hg, ?_, r⟩
    have hlt : g < w.heap.size := (Array.getElem?_eq_some_iff.1 hh).1
    rw [hb.block g hlt]
    exact hh
theorem Bd.below {B b : Nat} {l : List UInt8} {w w' : World} (h : Bd B b l w) (hb : Below w.heap.size w w') : Bd B b l w' := by
  have go : ∀ p, Lib.BuilderAtF 107 5 B b p (Lib.byteCells l) w → Lib.BuilderAtF 107 5 B b p (Lib.byteCells l) w' := by
    intro p h
    obtain ⟨h1, v, h2, h3, h4⟩ := h
    have hlt : b < w.heap.size := (Array.getElem?_eq_some_iff.1 h2).1
    exact ⟨h1, v, by rw [hb.block b hlt]; exact h2, ownsF_below h3 hb, h4⟩
  rcases h with h | h
  · exact Or.inl (go _ h)
  · exact Or.inr (go _ h)

theorem bdGrow_any (w : World) : Calls Try.prog 54 #[.pointer (some ⟨w.heap.size, 0, none⟩), .int .i64 512] (w.alloc (.cells #[.pointer none, .slice none 0 0] 107)) fun e w' => e = .returned (.tuple #[]) ∧ Bd w.heap.size w.heap.size [] w' ∧ Below w.heap.size w w' := by
  refine (Try.Builder_Grow_fresh w.heap.size w.heap.size 512 _ (Nat.le_refl _) (heap_alloc_new w _) (by simp) (by omega)).mono ?_
  rintro e w1 ⟨rfl, h1, h2⟩
  exact ⟨rfl, Or.inr (Lib.BuilderAtF.of h1), (below_alloc1 w _).trans h2⟩

theorem ba_cat (a b : List UInt8) : ba a ++ ba b = ba (a ++ b) := by
  apply ba_ext
  simp [ba]

set_option maxHeartbeats 1600000 in
set_option maxRecDepth 100000 in
theorem pwrite_any (a : Option Addr) (c : Nat) (l : List Sl) (B : Nat) (w : World) (h : Rw 94 cf w B (.slice a l.length c) l) (hl : l.length ≤ 1000) (hc : l.length ≤ c) (hF : Fine (trimL l)) (P : ByteArray) (HP : Hid (pg (trimL l) = P)) :
    Calls Try.prog 51 #[.slice a l.length c] w fun e w' => e = .returned (.string P) ∧ Below w.heap.size w w' := by
  have cT := trim_any a c l B w h hl hc
  have hm : Rw 94 cf w B (.slice a (trimL l).length c) (trimL l) := by
    have := h.take (trim_len l).1
    rw [← (trim_len l).2] at this
    exact this
  have hmc : (trimL l).length ≤ c := Nat.le_trans (trim_len l).1 hc
  clear h
  generalize trimL l = m at *
  have hfew := few hF.room
  have hH := head_len m hF.room hF.rows
  have cG := bdGrow_any w
  go_enter Try.func51, Try.ntmps51
  go_wp2_with fail
  go_step3
  go_wp2_with fail
  refine cT.mono ?_
  rintro e w0 ⟨rfl, e0⟩
  rw [e0]
  clear e0 cT
  go_wp2_with fail
  refine cG.mono ?_
  rintro e w1 ⟨rfl, d1, b1⟩
  clear cG
  go_wp2_with fail
  refine (put_any m.length w1 (by omega)).mono ?_
  rintro e w2 ⟨rfl, b2⟩
  have d2 := d1.below b2
  have b02 := b1.trans (b2.mono b1.size)
  have hE : (ByteArray.mk (enc m.length).toArray).size = (enc m.length).length := rfl
  have hE2 := (enc_len m.length).2
  go_wp2_with fail
  refine (bdWrite_any _ _ _ _ _ d2 (by rw [hE]; simp; omega) b02.size).mono ?_
  rintro e w3 ⟨rfl, d3, b3, _⟩
  have b03 := b02.trans b3
  have d3' : Bd w.heap.size w.heap.size (enc m.length ++ bodyL (m.take 0)) w3 := by simpa [bodyL] using d3
  clear d1 d2 d3 b1 b2 b3 b02 hE
  go_wp2_with fail
  go_step3
  go_wp2_with fail
  go_loopw [16] (fun si wr => ∃ k : Nat, k ≤ m.length ∧ si = .int .i64 (k : Int) ∧ Hid (Bd w.heap.size w.heap.size (enc m.length ++ bodyL (m.take k)) wr) ∧ Below w.heap.size w wr) (fun si _ => m.length - (intOf si).toNat)
  case atStart => exact ⟨0, Nat.zero_le _, rfl, d3', b03⟩
  case round =>
    obtain ⟨k, hk, rfl, hD, hb⟩ := hrel
    have hwl : w.heap.size < wr.heap.size := by
      rcases hD.out with q | q
      · obtain ⟨_, v, q2, _⟩ := q; exact (Array.getElem?_eq_some_iff.1 q2).1
      · obtain ⟨_, v, q2, _⟩ := q; exact (Array.getElem?_eq_some_iff.1 q2).1
    by_cases hlt : k < m.length
    · have hlt2 : (k : Int) < (m.length : Int) := by omega
      have hx : m[k]? = some m[k] := by simp [hlt]
      generalize m[k] = s at hx
      obtain ⟨b, c', e, _, _, _, hbl, c0, c1, _⟩ := hm.cell hx
      cases e
      have hmem := List.mem_of_getElem? hx
      have HB : Hid (bodyL (m.take (k + 1)) = bodyL (m.take k) ++ wd s) := by show _ = _; rw [take_snoc m k s hx, bodyL_append]; simp [bodyL]
      have hbb : (bodyL (m.take k)).length ≤ 512 := by
        have e : bodyL m = bodyL (m.take k) ++ bodyL (m.drop k) := by rw [← bodyL_append, List.take_append_drop]
        have := congrArg List.length e
        simp only [headL, List.length_append] at hH this
        omega
      have hb1 := below2 hb (below_alloc1 wr (.cells #[.bool s.isSome, .string (rowOf s)] 94))
      have hD1 := hD.out.below (below_alloc1 wr (.cells #[.bool s.isSome, .string (rowOf s)] 94))
      cases s with
      | none =>
        have d0 : wr.cell? ⟨b, k * 2, none⟩ = some (.bool false) := (hb.cell (p := ⟨b, k * 2, none⟩) hbl).trans c0
        have d1 : wr.cell? ⟨b, k * 2 + 1, none⟩ = some (.string ⟨#[]⟩) := (hb.cell (p := ⟨b, k * 2 + 1, none⟩) hbl).trans c1
        clear c0 c1
        go_wp2_with fail
        refine (put_any 0 _ (by omega)).mono ?_
        rintro e w4 ⟨rfl, b4⟩
        have hD2 := hD1.below b4
        have hb2 := below2 hb1 b4
        have hE : (ByteArray.mk (enc 0).toArray).size = 1 := rfl
        go_wp2_with fail
        refine (bdWrite_any _ _ _ _ _ hD2 (by rw [hE]; simp; omega) hb2.size).mono ?_
        rintro e w5 ⟨rfl, hD3, b5, _⟩
        go_wp2_with fail
        go_roundw
        case rel =>
          refine ⟨k + 1, by omega, by go_num, ?_, hb2.trans b5⟩
          show Bd _ _ _ _
          rw [HB.out, ← List.append_assoc]
          exact hD3
        case measure => simp [intOf]; omega
      | some r =>
        have d0 : wr.cell? ⟨b, k * 2, none⟩ = some (.bool true) := (hb.cell (p := ⟨b, k * 2, none⟩) hbl).trans c0
        have d1 : wr.cell? ⟨b, k * 2 + 1, none⟩ = some (.string r) := (hb.cell (p := ⟨b, k * 2 + 1, none⟩) hbl).trans c1
        have hr4 := hF.rows r hmem
        clear c0 c1
        go_wp2_with fail
        refine (put_S _ _ (ba (enc (r.size + 1))) (by congr 2; first | done | omega) (by omega) (by omega)).mono ?_
        rintro e w4 ⟨rfl, b4⟩
        have hD2 := hD1.below b4
        have hb2 := below2 hb1 b4
        have hE : (ba (enc (r.size + 1))).size ≤ 10 := (enc_len (r.size + 1)).2
        go_wp2_with fail
        refine (bdWrite_any _ _ _ _ _ hD2 (by simp; omega) hb2.size).mono ?_
        rintro e w5 ⟨rfl, hD3, b5, k5⟩
        have hb3 := hb2.trans b5
        have o4 := (b4.block wr.heap.size (by simp)).trans (heap_alloc_new wr _)
        have o5 := k5 wr.heap.size _ o4 (by intro e; have := Option.some.inj e; have := hb.size; have := hwl; omega) (by intro c fz e; injection e with _ e _; exact absurd e (by decide))
        have q1 : w5.cell? ⟨wr.heap.size, 1, none⟩ = some (.string r) := by simp [World.cell?, o5]
        have hE3 := (enc_len (r.size + 1)).2
        go_wp2_with fail
        refine (bdWrite_any _ _ _ r _ hD3 (by simp [ba]; omega) hb3.size).mono ?_
        rintro e w6 ⟨rfl, hD4, b6, _⟩
        go_wp2_with fail
        go_roundw
        case rel =>
          refine ⟨k + 1, by omega, by go_num, ?_, hb3.trans b6⟩
          show Bd _ _ _ _
          rw [HB.out]
          simpa [wd, ba] using hD4
        case measure => simp [intOf]; omega
    · obtain rfl : k = m.length := by omega
      rw [List.take_length] at hD
      have hD' : Bd w.heap.size w.heap.size (headL m) wr := hD.out
      have cL := bdLen_any _ _ _ _ hD'
      have cZ := zeros_any (512 - (headL m).length) wr (by omega)
      rw [show ((512 - (headL m).length : Nat) : Int) = 512 - ((headL m).length : Int) by omega] at cZ
      have HP2 : Hid (ba (headL m ++ List.replicate (512 - (headL m).length) 0) = P) := HP
      generalize hn : (headL m).length = n at *
      go_wp2_with fail
      refine cL.mono ?_
      rintro e w4 ⟨rfl, e4⟩
      rw [e4]
      clear e4 cL
      go_wp2_with fail
      refine cZ.mono ?_
      rintro e w5 ⟨rfl, b5⟩
      have hD2 := hD'.below b5
      have hb2 := below2 hb b5
      go_wp2_with fail
      refine (bdWrite_any _ _ _ _ _ hD2 (by rw [ba_size, List.length_replicate, hn]; omega) hb2.size).mono ?_
      rintro e w6 ⟨rfl, hD3, b6, _⟩
      have hb3 := hb2.trans b6
      go_wp2_with fail
      refine (bdString_any _ _ _ _ hD3 hb3.size).mono ?_
      rintro e w7 ⟨rfl, b7⟩
      go_wp2_with fail
      rw [Exit.noGoto_ret]
      go_ret
      exact ⟨by rw [← HP2.out]; rfl, hb3.trans b7⟩

end Go.Proofs.Ytjmdenlocmleiaa
