/- The contract of the document's own Compare of two lists; KeyOrder's walk. -/
import Derived.Test.YtijpnlomfodihaaDoorKJoins
import Derived.Test.YtijpnlomfodihaaDoorVComp2
import Derived.Laws.Cover1
namespace Go.Proofs.YtijpnlomfodihaaDoor
open Go.RowKit

theorem cmpL_step (A B : List V) (k : Nat) (ha : k < A.length) (hb : k < B.length) : cmpL (A.drop k) (B.drop k) = if cmpV A[k] B[k] = 0 then cmpL (A.drop (k + 1)) (B.drop (k + 1)) else cmpV A[k] B[k] := by
  rw [List.drop_eq_getElem_cons ha, List.drop_eq_getElem_cons hb]
  rfl

theorem cmpL_end (A B : List V) (k : Nat) (ha : k ≤ A.length) (hb : k ≤ B.length) (h : ¬ (k < A.length ∧ k < B.length)) : cmpL (A.drop k) (B.drop k) = if A.length < B.length then -1 else if B.length < A.length then 1 else 0 := by
  by_cases h1 : k < A.length
  · have h2 : k = B.length := by omega
    rw [List.drop_eq_getElem_cons h1, (show B.drop k = [] from List.drop_eq_nil_of_le (by omega)), if_neg (by omega), if_pos (by omega)]
    rfl
  · have h3 : k = A.length := by omega
    rw [(show A.drop k = [] from List.drop_eq_nil_of_le (by omega))]
    by_cases h2 : k < B.length
    · rw [List.drop_eq_getElem_cons h2, if_pos (by omega)]
      rfl
    · rw [(show B.drop k = [] from List.drop_eq_nil_of_le (by omega)), if_neg (by omega), if_neg (by omega)]
      rfl

set_option maxHeartbeats 1600000 in
set_option maxRecDepth 100000 in
theorem refCmp_some (A B : List V) (b off cap b' off' cap' : Nat) (w : World) (hb : b < w.heap.size) (hr : RdV w b off A) (hb' : b' < w.heap.size) (hr' : RdV w b' off' B) (hlA : A.length ≤ 1000000) (_hlB : B.length ≤ 1000000) :
    Calls Tryd.prog 19 #[.slice (some ⟨b, off, none⟩) A.length cap, .slice (some ⟨b', off', none⟩) B.length cap'] w fun e w' => e = .returned (.int .i64 (cmpL A B)) ∧ Below w.heap.size w w' := by
  obtain ⟨G, hG⟩ : ∃ G, cmpL A B = G := ⟨_, rfl⟩
  have HG : Hid (cmpL (A.drop 0) (B.drop 0) = G) := hG
  rw [hG]
  clear hG
  go_enter Tryd.func19, Tryd.ntmps19
  go_wp2_with fail
  go_loopw [5] (fun si wr => ∃ k : Nat, k ≤ A.length ∧ k ≤ B.length ∧ si = .int .i64 (k : Int) ∧ Hid (cmpL (A.drop k) (B.drop k) = G) ∧ Below w.heap.size w wr) (fun si _ => A.length - (intOf si).toNat)
  case atStart => exact ⟨0, Nat.zero_le _, Nat.zero_le _, rfl, HG, Below.refl _ _⟩
  case round =>
    obtain ⟨k, hkA, hkB, rfl, HR, hbl⟩ := hrel
    clear HG
    by_cases hlt : k < A.length ∧ k < B.length
    · obtain ⟨h1, h2⟩ := hlt
      obtain ⟨e0, e1, e2⟩ := (hr.kept hbl hb) k A[k] (by simp [h1])
      obtain ⟨g0, g1, g2⟩ := (hr'.kept hbl hb') k B[k] (by simp [h2])
      have cV := fun w => refCompare_any A[k] B[k] w
      have HS := HR.out
      rw [cmpL_step A B k h1 h2] at HS
      have hi2 : ∀ c : Int, cmpV A[k] B[k] = c → c = 0 → Hid (cmpL (A.drop (k + 1)) (B.drop (k + 1)) = G) := fun c hc h0 => by rw [hc, if_pos h0] at HS; exact HS
      have hi3 : ∀ c : Int, cmpV A[k] B[k] = c → c ≠ 0 → c = G := fun c hc h0 => by rw [hc, if_neg h0] at HS; exact HS
      clear HS HR
      obtain ⟨c, hc⟩ : ∃ c, cmpV A[k] B[k] = c := ⟨_, rfl⟩
      rw [hc] at cV
      have hj2 := hi2 c hc
      have hj3 := hi3 c hc
      clear hi2 hi3 hc
      generalize A[k] = q at *
      generalize B[k] = r at *
      obtain ⟨kk, n, s⟩ := q
      obtain ⟨kk', n', s'⟩ := r
      simp only [V.val] at *
      have i0 : (0 : Int) ≤ (k : Int) := by omega
      have i1 : (k : Int) < (A.length : Int) := by omega
      have i2 : (k : Int) < (B.length : Int) := by omega
      have y0 : b < wr.heap.size := by have := hbl.size; omega
      have y1 : b' < wr.heap.size := by have := hbl.size; omega
      by_cases h0 : c = 0
      · have HN := hj2 h0
        subst h0
        clear hj2 hj3
        go_wp2_with fail
        go_region_held3 (fun W => W.cell? ⟨b, off + k * 3, none⟩ = some (.int .i64 kk) ∧ W.cell? ⟨b, off + k * 3 + 1, none⟩ = some (.int .i64 n) ∧ W.cell? ⟨b, off + k * 3 + 2, none⟩ = some (.string s) ∧ W.cell? ⟨b', off' + k * 3, none⟩ = some (.int .i64 kk') ∧ W.cell? ⟨b', off' + k * 3 + 1, none⟩ = some (.int .i64 n') ∧ W.cell? ⟨b', off' + k * 3 + 2, none⟩ = some (.string s'))
          (first | exact ⟨(hB.cell (p := ⟨b, _, none⟩) y0).trans e0, (hB.cell (p := ⟨b, _, none⟩) y0).trans e1, (hB.cell (p := ⟨b, _, none⟩) y0).trans e2, (hB.cell (p := ⟨b', _, none⟩) y1).trans g0, (hB.cell (p := ⟨b', _, none⟩) y1).trans g1, (hB.cell (p := ⟨b', _, none⟩) y1).trans g2⟩ | exact ⟨e0, e1, e2, g0, g1, g2⟩ | go_keep)
          ((go_at_call 31; refine (cV _).mono ?_; rintro e wA ⟨rfl, hbA⟩; have hB := kdrew hbA))
        all_goals go_wp2_with fail
        all_goals go_roundw
        case rel => exact ⟨k + 1, by omega, by omega, by go_num, HN, below2 hbl hB⟩
        case measure => simp [intOf]; omega
      · have HN := hj3 h0
        subst HN
        have hne : (c != 0) = true := by simpa using h0
        clear hj2 hj3 h0
        go_wp2_with fail
        go_region_held3 (fun W => W.cell? ⟨b, off + k * 3, none⟩ = some (.int .i64 kk) ∧ W.cell? ⟨b, off + k * 3 + 1, none⟩ = some (.int .i64 n) ∧ W.cell? ⟨b, off + k * 3 + 2, none⟩ = some (.string s) ∧ W.cell? ⟨b', off' + k * 3, none⟩ = some (.int .i64 kk') ∧ W.cell? ⟨b', off' + k * 3 + 1, none⟩ = some (.int .i64 n') ∧ W.cell? ⟨b', off' + k * 3 + 2, none⟩ = some (.string s'))
          (first | exact ⟨(hB.cell (p := ⟨b, _, none⟩) y0).trans e0, (hB.cell (p := ⟨b, _, none⟩) y0).trans e1, (hB.cell (p := ⟨b, _, none⟩) y0).trans e2, (hB.cell (p := ⟨b', _, none⟩) y1).trans g0, (hB.cell (p := ⟨b', _, none⟩) y1).trans g1, (hB.cell (p := ⟨b', _, none⟩) y1).trans g2⟩ | exact ⟨e0, e1, e2, g0, g1, g2⟩ | go_keep)
          ((go_at_call 31; refine (cV _).mono ?_; rintro e wA ⟨rfl, hbA⟩; have hB := kdrew hbA))
        all_goals go_wp2_with fail
        all_goals go_ret
        all_goals exact ⟨rfl, below2 hbl hB⟩
    · have HE := HR.out
      rw [cmpL_end A B k hkA hkB hlt] at HE
      clear HR
      by_cases z1 : A.length < B.length
      · rw [if_pos z1] at HE
        subst HE
        go_wp2_with fail
        go_ret
        exact ⟨rfl, hbl⟩
      · by_cases z2 : B.length < A.length
        · rw [if_neg z1, if_pos z2] at HE
          subst HE
          go_wp2_with fail
          go_ret
          exact ⟨rfl, hbl⟩
        · rw [if_neg z1, if_neg z2] at HE
          subst HE
          go_wp2_with fail
          go_ret
          exact ⟨rfl, hbl⟩

set_option maxHeartbeats 800000 in
set_option maxRecDepth 100000 in
theorem refCmp_none (A B : List V) (a a' : Option Addr) (cap cap' : Nat) (w : World) (h : A = [] ∨ B = []) (hlA : A.length ≤ 1000000) (hlB : B.length ≤ 1000000) :
    Calls Tryd.prog 19 #[.slice a A.length cap, .slice a' B.length cap'] w fun e w' => e = .returned (.int .i64 (cmpL A B)) ∧ Below w.heap.size w w' := by
  have HE := cmpL_end A B 0 (Nat.zero_le _) (Nat.zero_le _) (by rcases h with rfl | rfl <;> simp)
  rw [List.drop_zero, List.drop_zero] at HE
  rw [HE]
  clear HE
  have h0 : A.length = 0 ∨ B.length = 0 := by rcases h with rfl | rfl <;> simp
  clear h
  generalize A.length = n at *
  generalize B.length = m at *
  rcases h0 with rfl | rfl
  · by_cases z : 0 < m
    · rw [if_pos z]
      go_enter Tryd.func19, Tryd.ntmps19
      go_wp2_with fail
      refine wp_loop_rounds 1 ?_
      rw [rounds_succ]
      go_wp2_with fail
      go_ret
      exact ⟨rfl, Below.refl _ _⟩
    · obtain rfl : m = 0 := by omega
      go_enter Tryd.func19, Tryd.ntmps19
      go_wp2_with fail
      refine wp_loop_rounds 1 ?_
      rw [rounds_succ]
      go_wp2_with fail
      go_ret
      exact ⟨rfl, Below.refl _ _⟩
  · by_cases z : 0 < n
    · rw [if_neg (by omega), if_pos z]
      go_enter Tryd.func19, Tryd.ntmps19
      go_wp2_with fail
      refine wp_loop_rounds 1 ?_
      rw [rounds_succ]
      go_wp2_with fail
      go_ret
      exact ⟨rfl, Below.refl _ _⟩
    · obtain rfl : n = 0 := by omega
      go_enter Tryd.func19, Tryd.ntmps19
      go_wp2_with fail
      refine wp_loop_rounds 1 ?_
      rw [rounds_succ]
      go_wp2_with fail
      go_ret
      exact ⟨rfl, Below.refl _ _⟩

theorem refCmp_any (A B : List V) (a a' : Option Addr) (cap cap' : Nat) (w : World) (ha : SlV w a A) (hb : SlV w a' B) (hlA : A.length ≤ 1000000) (hlB : B.length ≤ 1000000) :
    Calls Tryd.prog 19 #[.slice a A.length cap, .slice a' B.length cap'] w fun e w' => e = .returned (.int .i64 (cmpL A B)) ∧ Below w.heap.size w w' := by
  rcases ha with h | ⟨b, off, rfl, hb1, hr1⟩
  · exact refCmp_none A B a a' cap cap' w (Or.inl h) hlA hlB
  · rcases hb with h | ⟨b', off', rfl, hb2, hr2⟩
    · exact refCmp_none A B _ a' cap cap' w (Or.inr h) hlA hlB
    · exact refCmp_some A B b off cap b' off' cap' w hb1 hr1 hb2 hr2 hlA hlB

end Go.Proofs.YtijpnlomfodihaaDoor
