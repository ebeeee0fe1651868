/- The contracts of few, and of the document's Get and Set. -/
import Derived.Test.YtndbhalkhejgjaaVKeep
import Derived.Laws.AppendOwnNone
import Derived.Laws.Cover1
namespace Go.Proofs.Ytndbhalkhejgjaa
open Go.RowKit

/-- What the call owns is a list of properties. -/
theorem owns_sl {w : World} {base : Nat} {v : Value} {L : List Pr} (h : w.ownsRow base 62 4 v L.length (cellsL L)) : ∃ a cap, v = .slice a L.length cap ∧ Sl w a L := by
  have h0 := h
  rcases h.2 with ⟨rfl, hn⟩ | ⟨g, cap, cur, rfl, _, hg, _⟩
  · have : L = [] := List.eq_nil_of_length_eq_zero hn
    subst this
    exact ⟨none, 0, rfl, Or.inl rfl⟩
  · exact ⟨_, cap, rfl, Or.inr ⟨g, 0, rfl, (Array.getElem?_eq_some_iff.1 hg).1, owns_rd h0⟩⟩

theorem rd_cells {w : World} {b off : Nat} {L : List Pr} (h : Rd w b off L) : ∀ j u, (cellsL L)[j]? = some u → w.cell? ((⟨b, off, none⟩ : Addr).add j) = some u := by
  intro j u hu
  have hj : j < (cellsL L).length := (List.getElem?_eq_some_iff.1 hu).1
  rw [cellsL_length] at hj
  have hi : j / 4 < L.length := by omega
  have hp : L[j / 4]? = some L[j / 4] := by simp [hi]
  have hq := cellsL_get L (j / 4) (j % 4) _ hp (by omega)
  rw [show j / 4 * 4 + j % 4 = j by omega, hu] at hq
  obtain ⟨h0, h1, h2, h3⟩ := h (j / 4) _ hp
  rw [Addr.add_lit]
  have hm : j % 4 = 0 ∨ j % 4 = 1 ∨ j % 4 = 2 ∨ j % 4 = 3 := by omega
  rcases hm with e | e | e | e
  · rw [e] at hq; simp [Pr.cells] at hq; rw [hq, show off + j = off + j / 4 * 4 by omega]; exact h0
  · rw [e] at hq; simp [Pr.cells] at hq; rw [hq, show off + j = off + j / 4 * 4 + 1 by omega]; exact h1
  · rw [e] at hq; simp [Pr.cells] at hq; rw [hq, show off + j = off + j / 4 * 4 + 2 by omega]; exact h2
  · rw [e] at hq; simp [Pr.cells] at hq; rw [hq, show off + j = off + j / 4 * 4 + 3 by omega]; exact h3

theorem cellsL_one_each (L : List Pr) : ∀ u ∈ cellsL L, u.oneCell' = true := by
  induction L with
  | nil => intro u hu; simp [cellsL] at hu
  | cons p l ih =>
    intro u hu
    rw [cellsL, List.mem_append] at hu
    rcases hu with h | h
    · exact cells_one p u h
    · exact ih u h

set_option maxHeartbeats 400000 in
set_option maxRecDepth 100000 in
theorem few_nil (w : World) : Calls Try.prog 23 #[.slice none 0 0] w fun e w' => ∃ v, e = .returned v ∧ w'.ownsRow w.heap.size 62 4 v 0 (cellsL []) ∧ Below w.heap.size w w' := by
  obtain ⟨i0, hi, hz0, hz1, hz2⟩ := info_parts Try.info62
  have hmade : (w.alloc (.cells #[] 62)).ownsRow w.heap.size 62 4 (.slice (some ⟨w.heap.size, 0, none⟩) 0 0) 0 [] := World.ownsRow_made w #[] 0 (Nat.le_refl _) (Nat.zero_le _) rfl
  go_enter Try.func23, Try.ntmps23
  go_wp2_with (at_builtin; refine wpList_append_own_none rfl (.tmp 3) (.tmp 4) 37 rfl w.heap.size 62 i0 4 Try.underlying37 hi _ 0 [] rfl hmade rfl ?_)
  go_ret
  exact ⟨_, rfl, hmade, below_alloc1 _ _⟩

set_option maxHeartbeats 400000 in
set_option maxRecDepth 100000 in
theorem few_some (L : List Pr) (ad : Addr) (cap : Nat) (w : World) (hc : ∀ j u, (cellsL L)[j]? = some u → w.cell? (ad.add j) = some u) (hl : L.length ≤ 1000000) :
    Calls Try.prog 23 #[.slice (some ad) L.length cap] w fun e w' => ∃ v, e = .returned v ∧ w'.ownsRow w.heap.size 62 4 v L.length (cellsL L) ∧ Below w.heap.size w w' := by
  obtain ⟨i0, hi, hz0, hz1, hz2⟩ := info_parts Try.info62
  have hmade : (w.alloc (.cells #[] 62)).ownsRow w.heap.size 62 4 (.slice (some ⟨w.heap.size, 0, none⟩) 0 0) 0 [] := World.ownsRow_made w #[] 0 (Nat.le_refl _) (Nat.zero_le _) rfl
  have hc' : ∀ j u, (cellsL L)[j]? = some u → (w.alloc (.cells #[] 62)).cell? (ad.add j) = some u := fun j u hu => by
    have h1 := hc j u hu
    rw [World.cell?_alloc_some w _ _ (by rw [h1]; rfl)]
    exact h1
  go_enter Try.func23, Try.ntmps23
  go_wp2_with (at_builtin; refine wpList_append_own _ rfl (.tmp 3) (.tmp 4) 37 rfl w.heap.size 62 i0 (.agg #[.string ⟨#[]⟩, .int .i64 0, .int .i64 0, .string ⟨#[]⟩]) 4 48 Try.underlying37 hi hz0 hz1 hz2 rfl (by decide) _ 0 [] rfl hmade ad L.length cap (cellsL L) rfl (cellsL_length L) hc' (cellsL_one_each L) (by unfold maxLen; omega) (by omega) (by simp) ?_; intro v3 w3 hown3 hgrow3 hnil3)
  go_ret
  refine ⟨_, rfl, by simpa using hown3, ?_⟩
  exact (below_alloc1 w _).trans ((Below.refl _ _).grown hgrow3 (by simp) (fun k hk => by cases hk; exact Nat.le_refl _))

theorem few_any (L : List Pr) (a : Option Addr) (cap : Nat) (w : World) (h : Sl w a L) (hn : a = none → cap = 0) (hl : L.length ≤ 1000000) :
    Calls Try.prog 23 #[.slice a L.length cap] w fun e w' => ∃ a' cap', e = .returned (.slice a' L.length cap') ∧ Sl w' a' L ∧ Below w.heap.size w w' := by
  have fin : ∀ (W : World) (v : Value), W.ownsRow w.heap.size 62 4 v L.length (cellsL L) → Below w.heap.size w W → ∃ a' cap', Ending.returned v = .returned (.slice a' L.length cap') ∧ Sl W a' L ∧ Below w.heap.size w W := by
    intro W v ho hb
    obtain ⟨a', c', rfl, hs⟩ := owns_sl ho
    exact ⟨a', c', rfl, hs, hb⟩
  rcases h with rfl | ⟨b, off, rfl, hb, hr⟩
  · cases a with
    | none =>
      rw [hn rfl]
      refine (few_nil w).mono ?_
      rintro e w' ⟨v, rfl, ho, hb⟩
      exact fin w' v ho hb
    | some ad =>
      refine (few_some [] ad cap w (by intro j u hu; simp [cellsL] at hu) (by simp)).mono ?_
      rintro e w' ⟨v, rfl, ho, hb⟩
      exact fin w' v ho hb
  · refine (few_some L ⟨b, off, none⟩ cap w (rd_cells hr) hl).mono ?_
    rintro e w' ⟨v, rfl, ho, hb⟩
    exact fin w' v ho hb

set_option maxHeartbeats 800000 in
set_option maxRecDepth 100000 in
theorem refGet_some (L : List Pr) (name : ByteArray) (b off cap : Nat) (w : World) (hb : b < w.heap.size) (hr : Rd w b off L) (hlen : L.length ≤ 281474976710656) :
    Calls Try.prog 32 #[.slice (some ⟨b, off, none⟩) L.length cap, .string name] w fun e w' =>
      e = .returned (.agg #[.int .i64 (getL L name).1.k, .int .i64 (getL L name).1.n, .string (getL L name).1.s, .bool (getL L name).2]) ∧ Below w.heap.size w w' := by
  go_enter Try.func32, Try.ntmps32
  go_wp2_with fail
  go_loop [5] (fun si => ∃ k : Nat, k ≤ L.length ∧ si = .int .i64 (k : Int) ∧ Hid (getL (L.drop k) name = getL L name)) (fun si => L.length - (intOf si).toNat)
  case atStart => exact ⟨0, Nat.zero_le _, rfl, rfl⟩
  case round =>
    obtain ⟨k, hk, rfl, HL⟩ := hrel
    by_cases hlt : k < L.length
    · obtain ⟨e0, e1, e2, e3⟩ := (hr.kept (below_alloc1 w (.cells #[.int .i64 0, .int .i64 0, .string ⟨#[]⟩, .bool false] 55)) hb) k L[k] (by simp [hlt])
      have HL2 : Hid ((if L[k].name = name then (L[k].v, true) else getL (L.drop (k + 1)) name) = getL L name) := by rw [← HL.out, drop_cons_l L k hlt]; rfl
      generalize L[k] = q at *
      obtain ⟨m, kk, n, s⟩ := q
      simp only at *
      clear HL
      by_cases hm : m = name
      · subst hm
        have HL3 : Hid (getL L m = (⟨kk, n, s⟩, true)) := by rw [← HL2.out, if_pos rfl]; rfl
        clear HL2
        go_wp2_with fail
        exact bodyPost_ret (v := .agg #[.int .i64 kk, .int .i64 n, .string s, .bool true]) (by simp [results, Try.results32, go_sem]) rfl ⟨by rw [HL3.out], below_alloc1 _ _⟩
      · have hm' := list_ne hm
        have HL3 : Hid (getL (L.drop (k + 1)) name = getL L name) := by rw [← HL2.out, if_neg hm]; rfl
        clear HL2 hm
        go_wp2_with fail
        go_round
        case rel => exact ⟨k + 1, by omega, by go_num, HL3⟩
        case measure => simp [intOf]; omega
    · have HL3 : Hid (getL L name = (noV, false)) := by rw [← HL.out, List.drop_of_length_le (by omega)]; rfl
      clear HL
      go_wp2_with fail
      exact bodyPost_ret (v := .agg #[.int .i64 0, .int .i64 0, .string ⟨#[]⟩, .bool false]) (by simp [results, Try.results32, go_sem]) rfl ⟨by rw [HL3.out]; rfl, below_alloc1 _ _⟩

end Go.Proofs.Ytndbhalkhejgjaa
