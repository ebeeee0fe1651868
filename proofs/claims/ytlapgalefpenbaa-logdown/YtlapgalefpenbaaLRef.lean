/- The document's words: Sectors, Room. -/
import Derived.Test.YtlapgalefpenbaaLCopy
namespace Go.Proofs.Ytlapgalefpenbaa
open Go.RowKit

set_option maxHeartbeats 400000 in
theorem refSectors_any (k m : Nat) (hk : k ≤ 1000000000) (hm : m = k / 500 + 1) (w : World) : Calls Try.prog 14 #[.int .i64 (k : Int)] w fun e w' => e = .returned (.int .i64 (m : Int)) ∧ w' = w := by
  have hq : (k : Int) / 500 + 1 = (m : Int) := by omega
  clear hm
  go_enter Try.func14, Try.ntmps14
  go_wp2_with fail
  go_ret
  exact ⟨rfl, rfl⟩

theorem secsL_take (recs : List ByteArray) (i : Nat) (x : ByteArray) (h : recs[i]? = some x) : secsL (recs.take (i + 1)) = secsL (recs.take i) + secs x := by
  rw [List.take_add_one, h, secsL_append]
  rfl
theorem secsL_bound (recs : List ByteArray) (h : ∀ t ∈ recs, t.size ≤ 1000000) : secsL recs ≤ 2001 * recs.length := by
  induction recs with
  | nil => simp [secsL]
  | cons t r ih =>
    have h1 := ih (fun x hx => h x (List.mem_cons_of_mem _ hx))
    have h2 := h t (List.mem_cons_self ..)
    have h3 : secs t ≤ 2001 := by unfold secs; omega
    rw [secsL, List.length_cons]
    omega

set_option maxHeartbeats 1600000 in
set_option maxRecDepth 100000 in
theorem refRoom_any (n : Nat) (h8 : 8 ≤ n) (hn : n ≤ 8192) (bs : ByteArray) (hbs : bs.size ≤ 1000000) (B : Nat) (v : Value) (recs : List ByteArray) (w : World) (hrow : Row w B v recs) (hl : recs.length ≤ 10000) (hs : ∀ t ∈ recs, t.size ≤ 1000000) :
    Calls Try.prog 13 #[.int .i64 (n : Int), .agg #[.string bs, v]] w fun e w' => e = .returned (.int .i64 ((areaN n : Int) - (secsL (bs :: recs) : Int))) ∧ Below w.heap.size w w' := by
  obtain ⟨a, c, hav⟩ := hrow.len
  have hrow2 := hrow
  subst hav
  obtain ⟨A, hA⟩ : ∃ A, A = areaN n := ⟨_, rfl⟩
  have hA1 : ((n : Int) - 4).tdiv 2 = (A : Int) := by rw [Int.tdiv_eq_ediv_of_nonneg (by omega), hA]; unfold areaN; omega
  have hA2 : A ≤ 4096 := by rw [hA]; unfold areaN; omega
  rw [← hA]
  have cS := fun w => refSectors_any bs.size (secs bs) (by omega) rfl w
  have hsb : secs bs ≤ 2001 := by unfold secs; omega
  have hend : (secsL (bs :: recs) : Int) = (secs bs : Int) + (secsL recs : Int) := by simp [secsL]
  rw [hend]
  have hbound := secsL_bound recs hs
  generalize secs bs = m at *
  clear hA hend
  go_enter Try.func13, Try.ntmps13
  go_wp2_with fail
  refine (cS _).mono ?_
  rintro e w1 ⟨rfl, e1⟩
  rw [e1]
  go_wp2_with fail
  go_loopw [5, 6] (fun sn si wr => ∃ i : Nat, i ≤ recs.length ∧ si = .int .i64 (i : Int) ∧ sn = .int .i64 ((A : Int) - (m : Int) - (secsL (recs.take i) : Int)) ∧ Below w.heap.size w wr ∧ wr.cell? ⟨w.heap.size, 1, none⟩ = some (.slice a recs.length c)) (fun _ si _ => recs.length - (intOf si).toNat)
  case atStart => exact ⟨0, Nat.zero_le _, rfl, by simp [secsL], below_alloc1 _ _, by go_simp⟩
  case round =>
    obtain ⟨i, hi, rfl, rfl, hb, c1⟩ := hrel
    by_cases hlt : i < recs.length
    · have hlt2 : (i : Int) < (recs.length : Int) := by omega
      have hx : recs[i]? = some recs[i] := by simp [hlt]
      generalize recs[i] = x at hx
      obtain ⟨b, o, cap, e, hc, cx⟩ := hrow2.cell hx
      injection e with q1 q2 q3
      subst q1 q3
      have cx1 : wr.cell? ⟨b, o + i, none⟩ = some (.string x) := (hb.cell (p := ⟨b, o + i, none⟩) (World.block_lt_of_cell? w _ cx)).trans cx
      have hxs := hs x (List.mem_of_getElem? hx)
      have cX := fun w => refSectors_any x.size (secs x) (by omega) rfl w
      have htk := secsL_take recs i x hx
      have hbi := secsL_bound (recs.take i) (fun t ht => hs t (List.mem_of_mem_take ht))
      have hli : (recs.take i).length ≤ 10000 := by rw [List.length_take]; omega
      have hsx : secs x ≤ 2001 := by unfold secs; omega
      have HT : Hid (secsL (recs.take (i + 1)) = secsL (recs.take i) + secs x) := htk
      clear htk hx cx
      generalize secs x = sx at *
      go_wp2_with fail
      refine (cX _).mono ?_
      rintro e w2 ⟨rfl, e2⟩
      rw [e2]
      go_wp2_with fail
      go_roundw
      case rel => exact ⟨i + 1, by omega, by go_num, by rw [HT.out]; congr 1; omega, hb, c1⟩
      case measure => simp [intOf]; omega
    · obtain rfl : i = recs.length := by omega
      rw [List.take_length]
      go_wp2_with fail
      go_ret
      exact ⟨by show Ending.returned (Value.int .i64 _) = _; congr 2; omega, hb⟩

end Go.Proofs.Ytlapgalefpenbaa
