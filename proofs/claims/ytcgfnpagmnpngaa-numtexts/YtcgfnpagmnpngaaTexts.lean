/- The walk of NumTexts: texts that stand one behind the other are got one by one. -/
import Derived.Test.YtcgfnpagmnpngaaBackLaw
namespace Go.Proofs.Ytcgfnpagmnpngaa
open Go.RowKit

/-- The first k texts, one behind the other. -/
def catN (g : Nat → ByteArray) : Nat → List UInt8
  | 0 => []
  | k + 1 => catN g k ++ putT (g k).data.toList

theorem catN_split (g : Nat → ByteArray) (n k : Nat) (h : k ≤ n) : ∃ r, catN g n = catN g k ++ r := by
  induction n with
  | zero =>
    obtain rfl : k = 0 := by omega
    exact ⟨[], rfl⟩
  | succ n ih =>
    by_cases hk : k ≤ n
    · obtain ⟨r, hr⟩ := ih hk
      exact ⟨r ++ putT (g n).data.toList, by rw [catN, hr, List.append_assoc]⟩
    · obtain rfl : k = n + 1 := by omega
      exact ⟨[], by simp⟩

theorem catN_at (g : Nat → ByteArray) (n k : Nat) (h : k < n) : ∃ r, catN g n = catN g k ++ (putT (g k).data.toList ++ r) := by
  obtain ⟨r, hr⟩ := catN_split g n (k + 1) h
  exact ⟨r, by rw [hr, catN, List.append_assoc]⟩

theorem putT_len (s : ByteArray) : (putT s.data.toList).length ≤ 10 + s.size := by
  unfold putT
  have := (enc_len s.data.toList.length).2
  have hl : s.data.toList.length = s.size := by simp
  rw [List.length_append]
  omega

theorem catN_len (g : Nat → ByteArray) (n : Nat) (h : ∀ j, j < n → (g j).size ≤ 1000) : (catN g n).length ≤ 1010 * n := by
  induction n with
  | zero => simp [catN]
  | succ n ih =>
    have h1 := ih (fun j hj => h j (by omega))
    have h2 := putT_len (g n)
    have h3 := h n (by omega)
    rw [catN, List.length_append]
    omega

theorem ba_data (s : ByteArray) : ba s.data.toList = s := by
  unfold ba
  simp

theorem getText_at (a r : List UInt8) (s : ByteArray) (hs : s.size ≤ 1000) :
    getTextAt (a ++ (putT s.data.toList ++ r)) (a.length : Int) 1000 = (s.data.toList, (putT s.data.toList).length, true) := by
  have hl : s.data.toList.length = s.size := by simp
  have hg : getAt (a ++ (putT s.data.toList ++ r)) (a.length : Int) = (s.size, (enc s.size).length, true) := by
    unfold getAt
    rw [if_pos ⟨by omega, by rw [List.length_append]; omega⟩, Int.toNat_natCast, List.drop_left]
    unfold putT
    rw [hl, List.append_assoc, dec_enc _ _ (by omega)]
  unfold getTextAt
  rw [hg]
  simp only [Int.toNat_natCast]
  rw [if_pos ⟨trivial, by omega, by omega, by simp [putT, hl]; omega⟩]
  have hd : (a ++ (putT s.data.toList ++ r)).drop (a.length + (enc s.size).length) = s.data.toList ++ r := by
    rw [← List.drop_drop, List.drop_left]
    unfold putT
    rw [hl, List.append_assoc, List.drop_left]
  rw [hd, ← hl, List.take_left]
  simp [putT]

theorem getText_nth (g : Nat → ByteArray) (n k : Nat) (T : ByteArray) (hT : T.data.toList = catN g n) (hk : k < n) (hn : n ≤ 100) (hs : ∀ j, j < n → (g j).size ≤ 1000) (w : World) :
    Calls Try.prog 18 #[.string T, .int .i64 ((catN g k).length : Int), .int .i64 1000] w fun e w' =>
      e = .returned (.tuple #[.string (g k), .int .i64 ((putT (g k).data.toList).length : Int), .bool true]) ∧ Below w.heap.size w w' := by
  have hl : T.data.toList.length = T.size := by simp
  have h1 := catN_len g n hs
  rw [← hT, hl] at h1
  have hc := getText_any T ((catN g k).length : Int) 1000 w (by omega) ⟨by omega, by omega⟩
  obtain ⟨r, hr⟩ := catN_at g n k hk
  rw [hT, hr, getText_at _ _ _ (hs k hk)] at hc
  simp only [ba_data] at hc
  exact hc

set_option maxHeartbeats 800000 in
set_option maxRecDepth 100000 in
theorem texts_many (v : Option Addr) (len cap : Nat) (w : World) (h : 100 < len) :
    Calls Try.prog 7 #[.slice v len cap] w fun e w' => e = .returned (.bool true) ∧ Below w.heap.size w w' := by
  have hi : (100 : Int) < (len : Int) := by omega
  go_enter Try.func7, Try.ntmps7
  go_wp2_with fail
  refine (wakes_any _).mono ?_
  rintro e w1 ⟨rfl, hb1⟩
  go_wp2_with fail
  go_ret
  exact ⟨rfl, hb1⟩

set_option maxHeartbeats 800000 in
set_option maxRecDepth 100000 in
theorem texts_none (v : Option Addr) (cap : Nat) (w : World) :
    Calls Try.prog 7 #[.slice v 0 cap] w fun e w' => e = .returned (.bool true) ∧ Below w.heap.size w w' := by
  go_enter Try.func7, Try.ntmps7
  go_wp2_with fail
  refine wp_loop_rounds 1 ?_
  rw [rounds_succ]
  go_wp2_with fail
  refine wp_loop_rounds 1 ?_
  rw [rounds_succ]
  go_wp2_with fail
  refine (wakes_any _).mono ?_
  rintro e w1 ⟨rfl, hb1⟩
  go_wp2_with fail
  go_ret
  exact ⟨rfl, hb1⟩

end Go.Proofs.Ytcgfnpagmnpngaa
