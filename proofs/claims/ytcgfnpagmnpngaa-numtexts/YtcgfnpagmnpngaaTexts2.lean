/- NumTexts, where there are texts. -/
import Derived.Test.YtcgfnpagmnpngaaTexts
import Derived.SliceStrings
namespace Go.Proofs.Ytcgfnpagmnpngaa
open Go.RowKit Go.ChangeShapes Go.WideShapes Go.ChangeAt

theorem step_T {g : Nat → ByteArray} {k : Nat} {T S : ByteArray} (hT : T.data.toList = catN g k) (hS : S = ba (putT (g k).data.toList)) : (T ++ S).data.toList = catN g (k + 1) := by
  rw [add_data, hT, hS, catN]
  rfl

theorem step_S {g : Nat → ByteArray} {k : Nat} (h : ∀ j, j < k → (g j).size ≤ 1000) (hk : (g k).size ≤ 1000) : ∀ j, j < k + 1 → (g j).size ≤ 1000 := by
  intro j hj
  by_cases e : j = k
  · subst e; exact hk
  · exact h j (by omega)

theorem step_size {g : Nat → ByteArray} {k : Nat} {T : ByteArray} (hT : T.data.toList = catN g k) (h : ∀ j, j < k → (g j).size ≤ 1000) (hk : k ≤ 100) : T.size ≤ 101000 := by
  have h1 := catN_len g k h
  rw [← hT] at h1
  simp at h1
  omega

set_option maxHeartbeats 1600000 in
set_option maxRecDepth 100000 in
theorem texts_in (g : Nat → ByteArray) (b off len cap : Nat) (w : World) (h0 : 0 < len) (h1 : len ≤ 100) (hb : b < w.heap.size)
    (hc : ∀ i, i < len → w.cell? ⟨b, off + i, none⟩ = some (.string (g i))) :
    Calls Try.prog 7 #[.slice (some ⟨b, off, none⟩) len cap] w fun e w' => e = .returned (.bool true) ∧ Below w.heap.size w w' := by
  have hi : ¬ (100 : Int) < (len : Int) := by omega
  go_enter Try.func7, Try.ntmps7
  go_wp2_with fail
  go_loopw [3, 4] (fun sa si wr => ∃ (k : Nat) (T : ByteArray), k ≤ len ∧ si = .int .i64 (k : Int) ∧ sa = .string T ∧ Hid (T.data.toList = catN g k) ∧ Hid (∀ j, j < k → (g j).size ≤ 1000) ∧ T.size ≤ 101000 ∧ Below w.heap.size w wr)
    (fun _ si _ => len - (intOf si).toNat)
  case atStart => exact ⟨0, ⟨#[]⟩, Nat.zero_le _, rfl, rfl, show (ByteArray.mk #[]).data.toList = catN g 0 from rfl, show ∀ j, j < 0 → (g j).size ≤ 1000 from fun j hj => absurd hj (by omega), by decide, Below.refl _ _⟩
  case round =>
    obtain ⟨k, T, hk, rfl, rfl, HT, HS, hTs, hnx⟩ := hrel
    by_cases hlt : k < len
    · have hcell : wr.cell? ⟨b, off + k, none⟩ = some (.string (g k)) := (hnx.cell (by exact hb)).trans (hc k hlt)
      by_cases hbig : 1000 < (g k).size
      · have hbig' : (1000 : Int) < ((g k).size : Int) := by omega
        go_wp2_with fail
        refine (wakes_any _).mono ?_
        rintro e w1 ⟨rfl, hb1⟩
        go_wp2_with fail
        go_ret
        exact ⟨rfl, hnx.trans (hb1.mono hnx.size)⟩
      · have hbig' : ¬ (1000 : Int) < ((g k).size : Int) := by omega
        obtain ⟨S, hS⟩ : ∃ S, S = ba (putT (g k).data.toList) := ⟨_, rfl⟩
        have cP := fun w => putText_S (g k) w S hS (by omega)
        have hSs : S.size ≤ 1010 := by rw [hS, ba_size]; have := putT_len (g k); omega
        have HS2 : Hid (S = ba (putT (g k).data.toList)) := hS
        clear hS
        go_wp2_with fail
        refine (cP _).mono ?_
        rintro e w1 ⟨rfl, hb1⟩
        go_wp2_with fail
        go_roundw
        case rel => exact ⟨k + 1, T ++ S, by omega, by go_num, rfl, step_T HT.out HS2.out, step_S HS.out (by omega), step_size (step_T HT.out HS2.out) (step_S HS.out (by omega)) (by omega), hnx.trans (hb1.mono hnx.size)⟩
        case measure => simp [intOf]; omega
    · obtain rfl : k = len := by omega
      clear hlt hk
      go_wp2_with fail
      go_loopw [5, 6] (fun sp si w2 => ∃ j : Nat, j ≤ k ∧ si = .int .i64 (j : Int) ∧ sp = .int .i64 ((catN g j).length : Int) ∧ Below w.heap.size w w2)
        (fun _ si _ => k - (intOf si).toNat)
      case atStart => exact ⟨0, Nat.zero_le _, rfl, rfl, hnx⟩
      case round =>
        obtain ⟨j, hj, rfl, rfl, hn2⟩ := hrel
        by_cases hlt : j < k
        · have cG := fun w => getText_nth g k j T HT.out hlt h1 HS.out w
          have e1 : (catN g (j + 1)).length = (catN g j).length + (putT (g j).data.toList).length := by rw [catN, List.length_append]
          have e2 := catN_len g (j + 1) (fun i hi => HS.out i (by omega))
          have HE : Hid ((catN g (j + 1)).length = (catN g j).length + (putT (g j).data.toList).length) := e1
          have hb1 : (catN g j).length + (putT (g j).data.toList).length ≤ 101000 := by omega
          clear e1 e2
          generalize (catN g j).length = p at *
          generalize (putT (g j).data.toList).length = q at *
          go_wp2_with fail
          refine (cG _).mono ?_
          rintro e w3 ⟨rfl, hb3⟩
          have hn3 : Below w.heap.size w w3 := hn2.trans (hb3.mono hn2.size)
          have hcell : w3.cell? ⟨b, off + j, none⟩ = some (.string (g j)) := (hn3.cell (by exact hb)).trans (hc j hlt)
          go_wp2_with fail
          go_roundw
          case rel => exact ⟨j + 1, by omega, by go_num, by rw [HE.out]; go_num, hn3⟩
          case measure => simp [intOf]; omega
        · obtain rfl : j = k := by omega
          have hend : (((catN g j).length : Int) == (T.size : Int)) = true := by
            rw [beq_iff_eq, ← HT.out]
            simp
          go_wp2_with fail
          refine (wakes_any _).mono ?_
          rintro e w3 ⟨rfl, hb3⟩
          go_wp2_with fail
          go_ret
          exact ⟨rfl, hn2.trans (hb3.mono hn2.size)⟩

theorem Try.cells9 : Try.prog.cellsOf 9 = 1 := by kernel_rfl

theorem texts_walk (v : Value) (W : World) {H : Type} {enc : TypeId × Value → H} {base : Nat} {d : DataW H} {ps : List MemPlace}
    (hv : Value.okWide Try.prog W .any base 47 v) (h : DataW.Trod enc Try.prog W 0 (fun _ => true) true 47 v d ps) :
    Calls Try.prog 7 #[v] W fun e w' => e = .returned (.bool true) ∧ Below W.heap.size W w' := by
  obtain ⟨a, len, cap, rfl⟩ := okWide_slice Try.underlying47 hv
  obtain ⟨fuel, hf⟩ := h
  rcases open_strings Try.underlying47 Try.underlying9 Try.cells9 hf with ⟨hcs, _⟩ | ⟨x, l, c, ss, hcs, _, hl, hm, hz, _, hcell, hws⟩
  · simp [Value.cells] at hcs
    obtain ⟨rfl, rfl, rfl⟩ := hcs
    exact texts_none none 0 W
  · simp [Value.cells] at hcs
    obtain ⟨rfl, rfl, rfl⟩ := hcs
    by_cases h1 : 100 < len
    · exact texts_many _ len cap W h1
    · by_cases h0 : len = 0
      · subst h0
        exact texts_none _ cap W
      · simp at hz
        obtain ⟨b, off, spot⟩ := x
        have hc0 := hcell 0 (by omega)
        have hspot : spot = none := by simpa [Addr.add] using World.cell?_spot hc0
        subst hspot
        have hcell' : ∀ i, i < len → W.cell? ⟨b, off + i, none⟩ = some (.string (ss.getD i ByteArray.empty)) := fun i hi => by
          have := hcell i (by omega)
          rwa [Addr.add_lit] at this
        exact texts_in (fun i => ss.getD i ByteArray.empty) b off len cap W (by omega) (by omega) (World.block_lt_of_cell? W _ (hcell' 0 (by omega))) hcell'

end Go.Proofs.Ytcgfnpagmnpngaa
