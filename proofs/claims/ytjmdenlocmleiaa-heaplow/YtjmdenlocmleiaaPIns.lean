/- Insert. -/
import Derived.Test.YtjmdenlocmleiaaPFind
namespace Go.Proofs.Ytjmdenlocmleiaa
open Go.RowKit

set_option maxHeartbeats 800000 in
theorem ins_form (p row : ByteArray) (w : World) (hp : p.size ≤ 1000000) (h : rd p = none) :
    Calls Try.prog 45 #[.string p, .string row] w fun e w' => e = .returned (.tuple #[.string ⟨#[]⟩, .int .i64 0, .int .i64 11]) ∧ Below w.heap.size w w' := by
  have c := read_no p w hp h
  clear h
  go_enter Try.func45, Try.ntmps45
  go_wp2_with fail
  refine c.mono ?_
  rintro e w1 ⟨v, rfl, _, b1⟩
  go_wp2_with fail
  go_ret3
  exact ⟨rfl, b1⟩

/-- What Insert tells. -/
def insR (l : List Sl) (row : ByteArray) : ByteArray × Int × Int := if insE l row = 0 then (pg (insL l row), (first l : Int), 0) else (⟨#[]⟩, 0, insE l row)
theorem ins_trim {l : List Sl} (h : Fine l) (row : ByteArray) (he : insE l row = 0) : trimL (insL l row) = insL l row := (ins_fine h row he).trim

set_option maxHeartbeats 1600000 in
set_option maxRecDepth 100000 in
theorem ins_any (p : ByteArray) (l : List Sl) (row : ByteArray) (w : World) (hp : p.size ≤ 1000000) (h : rd p = some l) (hF : Fine l) (hrs : row.size ≤ 1000000) (P : ByteArray) (K E : Int) (HP : Hid (insR l row = (P, K, E))) :
    Calls Try.prog 45 #[.string p, .string row] w fun e w' => e = .returned (.tuple #[.string P, .int .i64 K, .int .i64 E]) ∧ Below w.heap.size w w' := by
  have hl : l.length ≤ 127 := few hF.room
  have c := read_yes p w l hp h
  have hwl := withF_len l
  clear h
  by_cases h4 : 400 < row.size
  · have h42 : (400 : Int) < (row.size : Int) := by omega
    have hE : insE l row = 2 := by unfold insE; rw [if_pos h4]
    obtain ⟨rfl, rfl, rfl⟩ : P = ⟨#[]⟩ ∧ K = 0 ∧ E = 2 := by
      have := HP.out
      unfold insR at this
      rw [hE, if_neg (by decide)] at this
      cases this
      exact ⟨rfl, rfl, rfl⟩
    go_enter Try.func45, Try.ntmps45
    go_wp2_with fail
    refine c.mono ?_
    rintro e w1 ⟨v, rfl, r1, b1⟩
    obtain ⟨sa, sc, rfl, hsc, _⟩ := r1.len
    go_wp2_with fail
    refine (withFree_any sa sc l w.heap.size w1 r1 (by omega) b1.size).mono ?_
    rintro e w2 ⟨v2, rfl, r2, b2⟩
    go_wp2_with fail
    go_ret3
    exact ⟨rfl, b1.trans b2⟩
  · have h42 : ¬ (400 : Int) < (row.size : Int) := by omega
    have hrw : ∀ r, some r ∈ withF l → r.size ≤ 400 := fun r hr => hF.rows r (withF_mem hr)
    obtain ⟨R, hR⟩ : ∃ R, room (withF l) = R := ⟨_, rfl⟩
    have HR : Hid (room (withF l) = R) := hR
    by_cases h5 : R < (row.size : Int)
    · have hE : insE l row = 50 := by unfold insE; rw [if_neg h4, hR, if_pos h5]
      obtain ⟨rfl, rfl, rfl⟩ : P = ⟨#[]⟩ ∧ K = 0 ∧ E = 50 := by
        have := HP.out
        unfold insR at this
        rw [hE, if_neg (by decide)] at this
        cases this
        exact ⟨rfl, rfl, rfl⟩
      clear hR HP hE
      go_enter Try.func45, Try.ntmps45
      go_wp2_with fail
      refine c.mono ?_
      rintro e w1 ⟨v, rfl, r1, b1⟩
      obtain ⟨sa, sc, rfl, hsc, _⟩ := r1.len
      go_wp2_with fail
      refine (withFree_any sa sc l w.heap.size w1 r1 (by omega) b1.size).mono ?_
      rintro e w2 ⟨v2, rfl, r2, b2⟩
      obtain ⟨ta, tc, rfl, htc, _⟩ := r2.len
      go_wp2_with fail
      refine (room_any ta tc (withF l) w.heap.size w2 r2 (by omega) hrw R HR).mono ?_
      rintro e w3 ⟨rfl, b3⟩
      go_wp2_with fail
      go_ret3
      exact ⟨rfl, (b1.trans b2).trans (b3.mono (b1.trans b2).size)⟩
    · have hE : insE l row = 0 := by unfold insE; rw [if_neg h4, hR, if_neg h5]
      have hF2 : Fine (trimL (insL l row)) := by rw [ins_trim hF row hE]; exact ins_fine hF row hE
      obtain ⟨HP2, rfl, rfl⟩ : Hid (pg (trimL (insL l row)) = P) ∧ K = (first l : Int) ∧ E = 0 := by
        have := HP.out
        unfold insR at this
        rw [if_pos hE] at this
        cases this
        exact ⟨by rw [ins_trim hF row hE]; exact rfl, rfl, rfl⟩
      have hx := withF_first l
      have hfl : first l < (withF l).length := (List.getElem?_eq_some_iff.1 hx).1
      have hfi : (first l : Int) < ((withF l).length : Int) := by omega
      clear hR HP hE
      go_enter Try.func45, Try.ntmps45
      go_wp2_with fail
      refine c.mono ?_
      rintro e w1 ⟨v, rfl, r1, b1⟩
      obtain ⟨sa, sc, rfl, hsc, _⟩ := r1.len
      go_wp2_with fail
      refine (withFree_any sa sc l w.heap.size w1 r1 (by omega) b1.size).mono ?_
      rintro e w2 ⟨v2, rfl, r2, b2⟩
      have b02 := b1.trans b2
      have r2' := r2
      obtain ⟨b, tc, rfl, htc, _, hb, hbl, c0, c1, f0, f1⟩ := r2.cell hx
      clear r2
      go_wp2_with fail
      refine (room_any _ tc (withF l) w.heap.size w2 r2' (by omega) hrw R HR).mono ?_
      rintro e w3 ⟨rfl, b3⟩
      have b03 := b02.trans (b3.mono b02.size)
      have r3 := r2'.below' b3
      have r4 := r3.set2 (i := first l) (s := some row)
      have b4 := ((Below.refl w.heap.size w3).setCell (p := ⟨b, first l * 2, none⟩) hb (.bool true)).setCell (p := ⟨b, first l * 2 + 1, none⟩) hb (.string row)
      have c0' : w3.cell? ⟨b, first l * 2, none⟩ = some (.bool false) := (b3.cell (p := ⟨b, first l * 2, none⟩) hbl).trans c0
      have c1' : w3.cell? ⟨b, first l * 2 + 1, none⟩ = some (.string ⟨#[]⟩) := (b3.cell (p := ⟨b, first l * 2 + 1, none⟩) hbl).trans c1
      have f0' : w3.frozen? ⟨b, first l * 2, none⟩ = false := (b3.frozen (p := ⟨b, first l * 2, none⟩) hbl).trans f0
      have f1' : w3.frozen? ⟨b, first l * 2 + 1, none⟩ = false := (b3.frozen (p := ⟨b, first l * 2 + 1, none⟩) hbl).trans f1
      have hil : (insL l row).length = (withF l).length := by unfold insL; rw [List.length_set]
      have cW := pwrite_any (some ⟨b, 0, none⟩) tc (insL l row) w.heap.size _ (by rw [hil]; exact r4) (by rw [hil]; omega) (by rw [hil]; exact htc) hF2 P HP2
      rw [hil] at cW
      clear c0 c1 f0 f1 c HP2 hF2 r3 r4 r2'
      go_wp2_with fail
      refine cW.mono ?_
      rintro e w5 ⟨rfl, b5⟩
      go_wp2_with fail
      go_ret3
      exact ⟨rfl, (b03.trans b4).trans (b5.mono (b03.trans b4).size)⟩

end Go.Proofs.Ytjmdenlocmleiaa
