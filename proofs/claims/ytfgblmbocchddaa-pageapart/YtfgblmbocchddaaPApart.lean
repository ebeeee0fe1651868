/- PageApart: the walk. -/
import Derived.Test.YtfgblmbocchddaaPStep
namespace Go.Proofs.Ytfgblmbocchddaa
open Go.RowKit

theorem get_row0 {l : List Sl} {r : ByteArray} (hF : Fine l) (h : l[0]? = some (some r)) (w : World) : Calls Try.prog 20 #[.string (pg l), .int .i64 0] w fun e w' => e = .returned (.tuple #[.string r, .int .i64 0]) ∧ Below w.heap.size w w' :=
  get_row (pg l) l 0 r w (by rw [pg_size hF]; omega) (rd_pg hF) (by have := few hF.room; omega) (hF.rows r (List.mem_of_getElem? h)) h

theorem ins_first (row : ByteArray) (h : row.size ≤ 400) : insR [] row = (pg [some row], 0, 0) ∧ Fine [some row] := by
  have hE : insE [] row = 0 := by
    unfold insE
    rw [if_neg (by omega), if_neg (by have : room (withF []) = 504 := by decide
                                      omega)]
  refine ⟨?_, ins_fine fine_nil row hE⟩
  unfold insR
  rw [if_pos hE]
  rfl

set_option maxHeartbeats 6400000 in
set_option maxRecDepth 100000 in
theorem pageApart_walk (row : ByteArray) (a : Option Addr) (L : List St) (c : Nat) (w : World) (hrm : row.size ≤ maxLen) (hL : SlG w a 3 St.cells L) (hc : L.length ≤ c) (hcm : c ≤ maxLen) (hok : ∀ s ∈ L, s.ok) :
    Calls Try.prog 5 #[.string row, .slice a L.length c] w fun e w' => e = .returned (.bool true) ∧ Below w.heap.size w w' := by
  have hcm2 : (L.length : Int) ≤ 9223372036854775807 := by unfold maxLen at hcm; omega
  unfold maxLen at hrm
  by_cases hf : fairL L
  · have cFr := fair_any a L c w hL hc hcm true ⟨fun _ => hf, fun _ => rfl⟩
    have hlen : L.length ≤ 200 := hf.2
    have hrs : ∀ s ∈ L, s.row.size ≤ 3000 := hf.1
    clear hf hcm
    by_cases h4 : 400 < row.size
    · have h42 : (400 : Int) < (row.size : Int) := by omega
      go_enter Try.func5, Try.ntmps5
      go_wp2_with fail
      refine cFr.mono ?_
      rintro e w1 ⟨rfl, b1⟩
      go_wp2_with fail
      refine (wakes_any _).mono ?_
      rintro e w2 ⟨rfl, b2⟩
      go_wp2_with fail
      go_ret
      exact ⟨rfl, below2 b1 b2⟩
    · have h42 : ¬ (400 : Int) < (row.size : Int) := by omega
      obtain ⟨hI, hF1⟩ := ins_first row (by omega)
      have cI := fun w => ins_any (pg []) [] row w (by rw [pg_size fine_nil]; omega) (rd_pg fine_nil) fine_nil (by omega) (pg [some row]) 0 0 hI
      have h01 : [some row][0]? = some (some row) := rfl
      clear hI
      go_enter Try.func5, Try.ntmps5
      go_wp2_with fail
      refine cFr.mono ?_
      rintro e w1 ⟨rfl, b1⟩
      go_wp2_with fail
      refine (empty_any _).mono ?_
      rintro e w2 ⟨rfl, b2⟩
      have b02 := below2 b1 b2
      go_wp2_with fail
      refine (cI _).mono ?_
      rintro e w3 ⟨rfl, b3⟩
      have b03 := below2 b02 b3
      clear cI cFr b1 b2 b3 b02
      go_wp2_with fail
      go_loopw [5, 8] (fun sp si wr => ∃ (i : Nat) (l : List Sl), i ≤ L.length ∧ si = .int .i64 (i : Int) ∧ sp = .string (pg l) ∧ Fine l ∧ l[0]? = some (some row) ∧ Below w.heap.size w wr) (fun _ si _ => L.length - (intOf si).toNat)
      case atStart => exact ⟨0, [some row], Nat.zero_le _, rfl, rfl, hF1, rfl, b03⟩
      case round =>
        obtain ⟨i, l, hi, rfl, rfl, hF, h0, hb⟩ := hrel
        clear hF1 h01 b03
        by_cases hlt : i < L.length
        · have hlt2 : (i : Int) < (L.length : Int) := by omega
          have hx : L[i]? = some L[i] := by simp [hlt]
          generalize L[i] = x at hx
          have hmem := List.mem_of_getElem? hx
          have hok := hok x hmem
          have hr3 : x.row.size ≤ 1000000 := by have := hrs x hmem; omega
          rcases hL with hL | ⟨bl, off, rfl, hbl, hrd⟩
          · rw [hL] at hlt; simp at hlt
          have k0 : wr.cell? ⟨bl, off + i * 3, none⟩ = some (.int .i64 x.kind) := (hb.cell (p := ⟨bl, off + i * 3, none⟩) hbl).trans (hrd i x hx 0 _ rfl)
          have k1 : wr.cell? ⟨bl, off + i * 3 + 1, none⟩ = some (.int .i64 x.slot) := (hb.cell (p := ⟨bl, off + i * 3 + 1, none⟩) hbl).trans (hrd i x hx 1 _ rfl)
          have k2 : wr.cell? ⟨bl, off + i * 3 + 2, none⟩ = some (.string x.row) := (hb.cell (p := ⟨bl, off + i * 3 + 2, none⟩) hbl).trans (hrd i x hx 2 _ rfl)
          have hb1 := below2 hb (below_alloc1 wr (.cells #[.int .i64 x.kind, .int .i64 x.slot, .string x.row] 33))
          clear hrd hrs hmem hx
          by_cases hk0 : x.kind = 0
          · rw [hk0] at k0 hb1
            clear hk0
            by_cases hs0 : x.slot = 0
            · rw [hs0] at k1 hb1
              clear hs0
              obtain ⟨P, K, E, hO, -, cC⟩ := ins_pg hF x.row hr3
              have hk' := ins_keep h0 x.row
              have hF' := hO.fine hF
              generalize hl' : insN l x.row = l' at *
              clear hl'
              rcases hO with ⟨rfl, rfl, _⟩ | ⟨hE, rfl, rfl⟩
              · have cT := fun w => get_row0 hF' hk' w
                go_wp2_with fail
                refine (cC _).mono ?_
                rintro e w2 ⟨rfl, b2⟩
                have bb2 := below2 hb1 b2
                go_wp2_with fail
                refine (cT _).mono ?_
                rintro e w3 ⟨rfl, b3⟩
                go_wp2_with fail
                go_roundw
                case rel => exact ⟨i + 1, l', by omega, by go_num, rfl, hF', hk', below2 bb2 b3⟩
                case measure => simp [intOf]; omega
              · have hE2 : (E == 0) = false := by simpa using hE
                have cT := fun w => get_row0 hF' hk' w
                go_wp2_with fail
                refine (cC _).mono ?_
                rintro e w2 ⟨rfl, b2⟩
                have bb2 := below2 hb1 b2
                go_wp2_with fail
                refine (cT _).mono ?_
                rintro e w3 ⟨rfl, b3⟩
                go_wp2_with fail
                go_roundw
                case rel => exact ⟨i + 1, l', by omega, by go_num, rfl, hF', hk', below2 bb2 b3⟩
                case measure => simp [intOf]; omega
            · have hs02 : (x.slot == 0) = false := by simpa using hs0
              obtain ⟨P, K, E, hO, -, cC⟩ := ins_pg hF x.row hr3
              have hk' := ins_keep h0 x.row
              have hF' := hO.fine hF
              generalize hl' : insN l x.row = l' at *
              clear hl'
              rcases hO with ⟨rfl, rfl, _⟩ | ⟨hE, rfl, rfl⟩
              · have cT := fun w => get_row0 hF' hk' w
                go_wp2_with fail
                refine (cC _).mono ?_
                rintro e w2 ⟨rfl, b2⟩
                have bb2 := below2 hb1 b2
                go_wp2_with fail
                refine (cT _).mono ?_
                rintro e w3 ⟨rfl, b3⟩
                go_wp2_with fail
                go_roundw
                case rel => exact ⟨i + 1, l', by omega, by go_num, rfl, hF', hk', below2 bb2 b3⟩
                case measure => simp [intOf]; omega
              · have hE2 : (E == 0) = false := by simpa using hE
                have cT := fun w => get_row0 hF' hk' w
                go_wp2_with fail
                refine (cC _).mono ?_
                rintro e w2 ⟨rfl, b2⟩
                have bb2 := below2 hb1 b2
                go_wp2_with fail
                refine (cT _).mono ?_
                rintro e w3 ⟨rfl, b3⟩
                go_wp2_with fail
                go_roundw
                case rel => exact ⟨i + 1, l', by omega, by go_num, rfl, hF', hk', below2 bb2 b3⟩
                case measure => simp [intOf]; omega
          · have hk02 : (x.kind == 0) = false := by simpa using hk0
            have hk03 : (x.kind != 0) = true := by simpa using hk0
            by_cases hs0 : x.slot = 0
            · rw [hs0] at k1 hb1
              go_wp2_with fail
              go_roundw
              case rel => exact ⟨i + 1, l, by omega, by go_num, rfl, hF, h0, hb1⟩
              case measure => simp [intOf]; omega
            · have hs02 : (x.slot == 0) = false := by simpa using hs0
              by_cases hk1 : x.kind = 1
              · rw [hk1] at k0 hb1
                obtain ⟨P, E, hO, -, cC⟩ := put_pg hF x.slot hok.sB x.row hr3
                have hk' := put_keep h0 x.slot hs0 x.row
                have hF' := hO.fine hF
                generalize hl' : putN l x.slot x.row = l' at *
                clear hl'
                rcases hO with ⟨rfl, rfl, _⟩ | ⟨hE, rfl, rfl⟩
                · have cT := fun w => get_row0 hF' hk' w
                  go_wp2_with fail
                  refine (cC _).mono ?_
                  rintro e w2 ⟨rfl, b2⟩
                  have bb2 := below2 hb1 b2
                  go_wp2_with fail
                  refine (cT _).mono ?_
                  rintro e w3 ⟨rfl, b3⟩
                  go_wp2_with fail
                  go_roundw
                  case rel => exact ⟨i + 1, l', by omega, by go_num, rfl, hF', hk', below2 bb2 b3⟩
                  case measure => simp [intOf]; omega
                · have hE2 : (E == 0) = false := by simpa using hE
                  have cT := fun w => get_row0 hF' hk' w
                  go_wp2_with fail
                  refine (cC _).mono ?_
                  rintro e w2 ⟨rfl, b2⟩
                  have bb2 := below2 hb1 b2
                  go_wp2_with fail
                  refine (cT _).mono ?_
                  rintro e w3 ⟨rfl, b3⟩
                  go_wp2_with fail
                  go_roundw
                  case rel => exact ⟨i + 1, l', by omega, by go_num, rfl, hF', hk', below2 bb2 b3⟩
                  case measure => simp [intOf]; omega
              · have hk12 : (x.kind == 1) = false := by simpa using hk1
                by_cases hk2 : x.kind = 2
                · rw [hk2] at k0 hb1
                  obtain ⟨P, E, hO, -, cC⟩ := del_pg hF x.slot hok.sB
                  have hk' := del_keep h0 x.slot hs0
                  have hF' := hO.fine hF
                  generalize hl' : delN l x.slot = l' at *
                  clear hl'
                  rcases hO with ⟨rfl, rfl, _⟩ | ⟨hE, rfl, rfl⟩
                  · have cT := fun w => get_row0 hF' hk' w
                    go_wp2_with fail
                    refine (cC _).mono ?_
                    rintro e w2 ⟨rfl, b2⟩
                    have bb2 := below2 hb1 b2
                    go_wp2_with fail
                    refine (cT _).mono ?_
                    rintro e w3 ⟨rfl, b3⟩
                    go_wp2_with fail
                    go_roundw
                    case rel => exact ⟨i + 1, l', by omega, by go_num, rfl, hF', hk', below2 bb2 b3⟩
                    case measure => simp [intOf]; omega
                  · have hE2 : (E == 0) = false := by simpa using hE
                    have cT := fun w => get_row0 hF' hk' w
                    go_wp2_with fail
                    refine (cC _).mono ?_
                    rintro e w2 ⟨rfl, b2⟩
                    have bb2 := below2 hb1 b2
                    go_wp2_with fail
                    refine (cT _).mono ?_
                    rintro e w3 ⟨rfl, b3⟩
                    go_wp2_with fail
                    go_roundw
                    case rel => exact ⟨i + 1, l', by omega, by go_num, rfl, hF', hk', below2 bb2 b3⟩
                    case measure => simp [intOf]; omega
                · have hk22 : (x.kind == 2) = false := by simpa using hk2
                  have cT := fun w => get_row0 hF h0 w
                  go_wp2_with fail
                  refine (cT _).mono ?_
                  rintro e w3 ⟨rfl, b3⟩
                  go_wp2_with fail
                  go_roundw
                  case rel => exact ⟨i + 1, l, by omega, by go_num, rfl, hF, h0, below2 hb1 b3⟩
                  case measure => simp [intOf]; omega
        · obtain rfl : i = L.length := by omega
          go_wp2_with fail
          refine (wakes_any _).mono ?_
          rintro e w4 ⟨rfl, b4⟩
          go_wp2_with fail
          go_ret
          exact ⟨rfl, below2 hb b4⟩
  · have cFr := fair_any a L c w hL hc hcm false ⟨(fun h => by cases h), (fun h => absurd h hf)⟩
    go_enter Try.func5, Try.ntmps5
    go_wp2_with fail
    refine cFr.mono ?_
    rintro e w1 ⟨rfl, b1⟩
    go_wp2_with fail
    refine (wakes_any _).mono ?_
    rintro e w2 ⟨rfl, b2⟩
    go_wp2_with fail
    go_ret
    exact ⟨rfl, below2 b1 b2⟩

section
open Go.ChangeShapes Go.WideShapes Go.ChangeAt Go.Deep
theorem pageApart_any {H : Type} {enc : TypeId × Value → H} {base : Nat} {d : DataW H} {ps : List MemPlace} (row : ByteArray) (v : Value) (W : World) (hrm : row.size ≤ maxLen) (hv : Value.okWide Try.prog W .any base 22 v) (h : DataW.Trod enc Try.prog W 0 (fun _ => true) true 22 v d ps) :
    Calls Try.prog 5 #[.string row, v] W fun e w' => e = .returned (.bool true) ∧ Below W.heap.size W w' := by
  obtain ⟨a, L, c, rfl, h1, h2, h3, h4⟩ := open_steps hv h
  exact pageApart_walk row a L c W hrm h1 h2 h3 h4
end

end Go.Proofs.Ytfgblmbocchddaa
