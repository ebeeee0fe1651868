/- Beside a heap: its pool's Evict and Flush, its device's Read and Refuse; fair. -/
import Derived.Test.YtjmdenlocmleiaaGreatHArgs
namespace Go.Proofs.YtjmdenlocmleiaaGreat
open Go.RowKit

section
variable {W w w' : World} {hb p g bd n m : Nat} {V : Nat → ByteArray} {H : Hp} {A : List Nat} {z : Prop} {E E' : List (Nat × Obj)}

theorem Hs.evict (h : Hs W w hb p g bd n m V A z E) (hbd : bd ≤ 80000) (k : Int) (h1 : -9223372036854775808 ≤ k) (h2 : k ≤ 9223372036854775807) :
    Calls Tryz.prog 17 #[.pointer (some ⟨p, 0, none⟩), .int .i64 k] w fun e w' => ∃ X, e = .returned (.int .i64 X) ∧ Hs W w' hb p g (bd + 1) n m V A z E := by
  obtain ⟨S, a, b, rfl, rfl, hz⟩ := h.ex
  refine (a.evict hbd k h1 h2).mono ?_
  rintro e w' ⟨rfl, q⟩
  obtain ⟨t, r⟩ := b.evict a.ok k
  exact ⟨_, rfl, ⟨_, q, r, t.dn, t.n, fun y => t.nx (hz y)⟩⟩

/-- A heap whose pages are all on the device. -/
structure Hf (W w : World) (hb p g bd n m : Nat) (V : Nat → ByteArray) (A : List Nat) (z : Prop) (E : List (Nat × Obj)) : Prop where
  ex : ∃ S, Q1 W w p g bd S ((hb, hobj p) :: E) ∧ Hv S V A ∧ S.D.n = n ∧ S.n = m ∧ (z → S.D.next ≤ 0) ∧ ∀ j, j < n → S.D.seen j = V j
theorem Hf.hs (h : Hf W w hb p g bd n m V A z E) : Hs W w hb p g bd n m V A z E := by
  obtain ⟨S, a, b, c, d, e, _⟩ := h.ex
  exact ⟨S, a, b, c, d, e⟩

theorem Hs.flush (h : Hs W w hb p g bd n m V A z E) (hz : z) (hbd : bd ≤ 80000) :
    Calls Tryz.prog 18 #[.pointer (some ⟨p, 0, none⟩)] w fun e w' => e = .returned (.int .i64 0) ∧ Hf W w' hb p g (bd + 66) n m V A z E := by
  obtain ⟨S, a, b, rfl, rfl, hy⟩ := h.ex
  refine (a.flush hbd).mono ?_
  rintro e w' ⟨rfl, q⟩
  obtain ⟨r1, t, r2, r3⟩ := b.flush a.ok (hy hz)
  exact ⟨by rw [r1], ⟨_, q, r2, t.dn, t.n, fun y => t.nx (hy y), r3⟩⟩

theorem Hf.read (h : Hf W w hb p g bd n m V A z E) (i : Nat) (hi : i < n) :
    Calls Tryz.prog 26 #[.pointer (some ⟨g, 0, none⟩), .int .i64 (i : Int)] w fun e w' => e = .returned (.tuple #[.string (V i), .int .i64 0]) ∧ Hf W w' hb p g bd n m V A z E := by
  obtain ⟨S, a, b, rfl, rfl, hy, hs⟩ := h.ex
  refine (a.readUp i hi (by have := b.up; omega)).mono ?_
  rintro e w' ⟨rfl, q⟩
  exact ⟨by rw [hs i hi], ⟨S, q, b, rfl, rfl, hy, hs⟩⟩

/-- A heap made anew over the same pool. -/
theorem Hs.renew (h : Hs W w hb p g bd n m V A z E) : Hs W (w.alloc (hobj p)) w.heap.size p g bd n m V A z E := by
  obtain ⟨S, a, r⟩ := h.ex
  exact ⟨S, (a.alloc (hobj p)).less (fun y hy => (List.mem_cons.1 hy).elim (fun e => by rw [e]; simp) (fun q => by simp [q])), r⟩

def fairB (L : List Hp1) : Bool := decide (L.length ≤ 100) && L.all (fun s => decide (s.row.size ≤ 2000))

set_option maxHeartbeats 800000 in
set_option maxRecDepth 100000 in
theorem fair_any (a0 : Option Addr) (L : List Hp1) (c : Nat) (w : World) (hL : SlG w a0 3 Hp1.cells L) (hlen : L.length ≤ maxLen) :
    Calls Tryz.prog 9 #[.slice a0 L.length c] w fun e w' => e = .returned (.bool (fairB L)) ∧ w' = w := by
  have hlen2 : L.length ≤ 9223372036854775807 := by unfold maxLen at hlen; omega
  go_enter Tryz.func9, Tryz.ntmps9
  go_wp2_with fail
  go_loopw [3] (fun si wr => ∃ i : Nat, i ≤ L.length ∧ si = .int .i64 (i : Int) ∧ Hid (wr = w) ∧ Hid (∀ s ∈ L.take i, s.row.size ≤ 2000)) (fun si _ => L.length - (intOf si).toNat)
  case atStart => exact ⟨0, Nat.zero_le _, rfl, rfl, fun s hs => by simp at hs⟩
  case round =>
    obtain ⟨i, hi, rfl, hwr, hall⟩ := hrel
    rw [hwr.out]
    clear hwr
    by_cases hlt : i < L.length
    · have hlt2 : (i : Int) < (L.length : Int) := by omega
      have hx : L[i]? = some L[i] := by simp [hlt]
      generalize L[i] = s at hx
      rcases hL with hL | ⟨b, off, rfl, hlb, hcell⟩
      · rw [hL] at hlt; simp at hlt
      have r2 : w.cell? ⟨b, off + i * 3 + 2, none⟩ = some (.string s.row) := hcell i s hx 2 _ rfl
      clear hcell
      by_cases hr : s.row.size ≤ 2000
      · have hr2 : decide ((2000 : Int) < (s.row.size : Int)) = false := by simp; omega
        have HA : Hid (∀ s ∈ L.take (i + 1), s.row.size ≤ 2000) := fun t ht => by
          rw [List.take_add_one, hx] at ht
          rcases List.mem_append.1 ht with q | q
          · exact hall.out t q
          · simp at q; rw [q]; exact hr
        clear hr hx
        go_wp2_with fail
        go_roundw
        case rel => exact ⟨i + 1, by omega, by go_num, True.intro, HA⟩
        case measure => simp [intOf]; omega
      · have hr2 : decide ((2000 : Int) < (s.row.size : Int)) = true := by simp; omega
        have hf : fairB L = false := by
          unfold fairB
          rw [Bool.and_eq_false_iff]
          refine Or.inr ?_
          rw [List.all_eq_false]
          exact ⟨s, List.mem_of_getElem? hx, by simpa using hr⟩
        have HB := (show Hid _ from hf)
        clear hr hx hf
        go_wp2_with fail
        go_ret
        exact ⟨by rw [HB.out]; rfl, rfl⟩
    · obtain rfl : i = L.length := by omega
      rw [List.take_length] at hall
      have hf : fairB L = decide ((L.length : Int) ≤ 100) := by
        unfold fairB
        have : L.all (fun s => decide (s.row.size ≤ 2000)) = true := by
          rw [List.all_eq_true]
          exact fun s hs => by simpa using hall.out s hs
        rw [this, Bool.and_true]
        simp
        omega
      have HB := (show Hid _ from hf)
      clear hf
      go_wp2_with fail
      go_ret
      exact ⟨by rw [HB.out]; rfl, rfl⟩
theorem fair_of {L : List Hp1} (h : fairB L = true) : L.length ≤ 100 ∧ ∀ s ∈ L, s.row.size ≤ 2000 := by
  unfold fairB at h
  rw [Bool.and_eq_true, List.all_eq_true] at h
  exact ⟨by simpa using h.1, fun s hs => by simpa using h.2 s hs⟩
end
end Go.Proofs.YtjmdenlocmleiaaGreat
