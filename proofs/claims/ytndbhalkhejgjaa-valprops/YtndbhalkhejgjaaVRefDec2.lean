/- The contract of the document's Decode: numbers and texts; and whole. -/
import Derived.Test.YtndbhalkhejgjaaVRefDec
namespace Go.Proofs.Ytndbhalkhejgjaa
open Go.RowKit

/-- Five cells of one block, none of them frozen. -/
structure B5 (w : World) (b : Nat) (x0 x1 x2 x3 x4 : Value) : Prop where
  c0 : w.cell? ⟨b, 0, none⟩ = some x0
  c1 : w.cell? ⟨b, 1, none⟩ = some x1
  c2 : w.cell? ⟨b, 2, none⟩ = some x2
  c3 : w.cell? ⟨b, 3, none⟩ = some x3
  c4 : w.cell? ⟨b, 4, none⟩ = some x4
  f0 : w.frozen? ⟨b, 0, none⟩ = false
  f1 : w.frozen? ⟨b, 1, none⟩ = false
  f2 : w.frozen? ⟨b, 2, none⟩ = false
  f3 : w.frozen? ⟨b, 3, none⟩ = false
  f4 : w.frozen? ⟨b, 4, none⟩ = false

theorem B5.new (w : World) (x0 x1 x2 x3 x4 : Value) (t : TypeId) {H : Nat} (hH : w.heap.size = H) : B5 (w.alloc (.cells #[x0, x1, x2, x3, x4] t)) H x0 x1 x2 x3 x4 := by
  subst hH
  refine ⟨?_, ?_, ?_, ?_, ?_, ?_, ?_, ?_, ?_, ?_⟩ <;> simp

theorem B5.kept {w w' : World} {B b : Nat} {x0 x1 x2 x3 x4 : Value} (h : B5 w b x0 x1 x2 x3 x4) (hb : Below B w w') (hB : b < B) : B5 w' b x0 x1 x2 x3 x4 :=
  ⟨(hb.cell (p := ⟨b, 0, none⟩) hB).trans h.c0, (hb.cell (p := ⟨b, 1, none⟩) hB).trans h.c1, (hb.cell (p := ⟨b, 2, none⟩) hB).trans h.c2, (hb.cell (p := ⟨b, 3, none⟩) hB).trans h.c3, (hb.cell (p := ⟨b, 4, none⟩) hB).trans h.c4,
    (hb.frozen (p := ⟨b, 0, none⟩) hB).trans h.f0, (hb.frozen (p := ⟨b, 1, none⟩) hB).trans h.f1, (hb.frozen (p := ⟨b, 2, none⟩) hB).trans h.f2, (hb.frozen (p := ⟨b, 3, none⟩) hB).trans h.f3, (hb.frozen (p := ⟨b, 4, none⟩) hB).trans h.f4⟩

theorem below_set5 {w w1 : World} (h : Below w.heap.size w w1) (a b c d e : Value) :
    Below w.heap.size w (((((w1.setCell ⟨w.heap.size, 0, none⟩ a).setCell ⟨w.heap.size, 1, none⟩ b).setCell ⟨w.heap.size, 2, none⟩ c).setCell ⟨w.heap.size, 3, none⟩ d).setCell ⟨w.heap.size, 4, none⟩ e) :=
  ((((h.setCell (p := ⟨w.heap.size, 0, none⟩) (Nat.le_refl _) a).setCell (p := ⟨w.heap.size, 1, none⟩) (Nat.le_refl _) b).setCell (p := ⟨w.heap.size, 2, none⟩) (Nat.le_refl _) c).setCell (p := ⟨w.heap.size, 3, none⟩) (Nat.le_refl _) d).setCell (p := ⟨w.heap.size, 4, none⟩) (Nat.le_refl _) e

theorem below_set5a {w w1 : World} (h : Below w.heap.size w w1) (a b c d e : Value) (o : Obj) :
    Below w.heap.size w ((((((w1.setCell ⟨w.heap.size, 0, none⟩ a).setCell ⟨w.heap.size, 1, none⟩ b).setCell ⟨w.heap.size, 2, none⟩ c).setCell ⟨w.heap.size, 3, none⟩ d).setCell ⟨w.heap.size, 4, none⟩ e).alloc o) :=
  (below_set5 h a b c d e).alloc (below_set5 h a b c d e).size o

set_option maxHeartbeats 800000 in
set_option maxRecDepth 100000 in
theorem refDecode_2 (s : ByteArray) (p : Nat) (w : World) (hp : p < s.size) (hs : s.size ≤ 281474976710656) (hc : bt s p = 2) (d : V × Nat × Bool)
    (hd : d = if (getAt s.data.toList ((p + 1 : Nat) : Int)).2.2 = true then (⟨2, zag (getAt s.data.toList ((p + 1 : Nat) : Int)).1, ⟨#[]⟩⟩, 1 + (getAt s.data.toList ((p + 1 : Nat) : Int)).2.1, true) else (noV, 0, false)) :
    Calls Try.prog 18 #[.string s, .int .i64 (p : Int)] w fun e w' => e = .returned (gotG d) ∧ Below w.heap.size w w' := by
  have hb := bt_eq s p hp
  rw [hc] at hb
  have h1 : ¬ (s.size : Int) ≤ (p : Int) := by omega
  have cG := fun w => refGetInt_any s ((p + 1 : Nat) : Int) w hs
  have hz := getAt_size s.data.toList ((p + 1 : Nat) : Int)
  rw [show (((p + 1 : Nat)) : Int) = (p : Int) + 1 by omega] at *
  generalize getAt s.data.toList ((p : Int) + 1) = g at *
  obtain ⟨N, j, ok⟩ := g
  simp only at *
  generalize zag N = Z at *
  clear hc
  cases ok with
  | true =>
    rw [if_pos rfl] at hd
    subst hd
    go_enter Try.func18, Try.ntmps18
    go_wp2_with fail
    refine (cG _).mono ?_
    rintro e w1 ⟨rfl, hb1⟩
    have hR : B5 w1 w.heap.size (.int .i64 0) (.int .i64 0) (.string ⟨#[]⟩) (.int .i64 0) (.bool false) := (B5.new w _ _ _ _ _ _ rfl).kept hb1 (by simp)
    have hz1 : w.heap.size < w1.heap.size := by have := hb1.size; simp at this; omega
    obtain ⟨r0, r1, r2, r3, r4, f0, f1, f2, f3, f4⟩ := hR
    go_wp2_with fail
    refine bodyPost_ret (v := gotG (⟨2, Z, ⟨#[]⟩⟩, 1 + j, true)) (by simp [results, Try.results18, go_sem, gotG, hz1, r0, r1, r2, r3, r4]) rfl ⟨rfl, ?_⟩
    exact below_set5a (below2 (below_alloc1 w _) hb1) _ _ _ _ _ _
  | false =>
    rw [if_neg (by simp)] at hd
    subst hd
    go_enter Try.func18, Try.ntmps18
    go_wp2_with fail
    refine (cG _).mono ?_
    rintro e w1 ⟨rfl, hb1⟩
    have hR : B5 w1 w.heap.size (.int .i64 0) (.int .i64 0) (.string ⟨#[]⟩) (.int .i64 0) (.bool false) := (B5.new w _ _ _ _ _ _ rfl).kept hb1 (by simp)
    have hz1 : w.heap.size < w1.heap.size := by have := hb1.size; simp at this; omega
    obtain ⟨r0, r1, r2, r3, r4, f0, f1, f2, f3, f4⟩ := hR
    go_wp2_with fail
    refine bodyPost_ret (v := gotG (noV, 0, false)) (by simp [results, Try.results18, go_sem, gotG, noV, hz1, r0, r1, r2, r3, r4]) rfl ⟨rfl, ?_⟩
    exact below_set5a (below2 (below_alloc1 w _) hb1) _ _ _ _ _ _

set_option maxHeartbeats 800000 in
set_option maxRecDepth 100000 in
theorem refDecode_3 (s : ByteArray) (p : Nat) (w : World) (hp : p < s.size) (hs : s.size ≤ 281474976710656) (hc : bt s p = 3) (d : V × Nat × Bool)
    (hd : d = if (getTextAt s.data.toList ((p + 1 : Nat) : Int) 1024).2.2 = true then (⟨3, 0, ba (getTextAt s.data.toList ((p + 1 : Nat) : Int) 1024).1⟩, 1 + (getTextAt s.data.toList ((p + 1 : Nat) : Int) 1024).2.1, true) else (noV, 0, false)) :
    Calls Try.prog 18 #[.string s, .int .i64 (p : Int)] w fun e w' => e = .returned (gotG d) ∧ Below w.heap.size w w' := by
  have hb := bt_eq s p hp
  rw [hc] at hb
  have h1 : ¬ (s.size : Int) ≤ (p : Int) := by omega
  have cG := fun w => refGetText_any s ((p + 1 : Nat) : Int) 1024 w hs (by omega)
  have hz := getTextAt_size s.data.toList ((p + 1 : Nat) : Int)
  rw [show (((p + 1 : Nat)) : Int) = (p : Int) + 1 by omega] at *
  generalize getTextAt s.data.toList ((p : Int) + 1) 1024 = g at *
  obtain ⟨N, j, ok⟩ := g
  simp only at *
  generalize ba N = Z at *
  clear hc
  cases ok with
  | true =>
    rw [if_pos rfl] at hd
    subst hd
    go_enter Try.func18, Try.ntmps18
    go_wp2_with fail
    refine (cG _).mono ?_
    rintro e w1 ⟨rfl, hb1⟩
    have hR : B5 w1 w.heap.size (.int .i64 0) (.int .i64 0) (.string ⟨#[]⟩) (.int .i64 0) (.bool false) := (B5.new w _ _ _ _ _ _ rfl).kept hb1 (by simp)
    have hz1 : w.heap.size < w1.heap.size := by have := hb1.size; simp at this; omega
    obtain ⟨r0, r1, r2, r3, r4, f0, f1, f2, f3, f4⟩ := hR
    go_wp2_with fail
    refine bodyPost_ret (v := gotG (⟨3, 0, Z⟩, 1 + j, true)) (by simp [results, Try.results18, go_sem, gotG, hz1, r0, r1, r2, r3, r4]) rfl ⟨rfl, ?_⟩
    exact below_set5a (below2 (below_alloc1 w _) hb1) _ _ _ _ _ _
  | false =>
    rw [if_neg (by simp)] at hd
    subst hd
    go_enter Try.func18, Try.ntmps18
    go_wp2_with fail
    refine (cG _).mono ?_
    rintro e w1 ⟨rfl, hb1⟩
    have hR : B5 w1 w.heap.size (.int .i64 0) (.int .i64 0) (.string ⟨#[]⟩) (.int .i64 0) (.bool false) := (B5.new w _ _ _ _ _ _ rfl).kept hb1 (by simp)
    have hz1 : w.heap.size < w1.heap.size := by have := hb1.size; simp at this; omega
    obtain ⟨r0, r1, r2, r3, r4, f0, f1, f2, f3, f4⟩ := hR
    go_wp2_with fail
    refine bodyPost_ret (v := gotG (noV, 0, false)) (by simp [results, Try.results18, go_sem, gotG, noV, hz1, r0, r1, r2, r3, r4]) rfl ⟨rfl, ?_⟩
    exact below_set5a (below2 (below_alloc1 w _) hb1) _ _ _ _ _ _

theorem bt_rest (s : ByteArray) (p : Nat) (h : p < s.size) : bt (rest s p) 0 = bt s p := by
  have h2 : 0 < (rest s p).size := by rw [rest_size]; omega
  have e : (rest s p).data.toList = s.data.toList.drop p := by unfold rest; rw [extract_drop]
  have e1 := drop_cons (rest s p) 0 h2
  have e2 := drop_cons s p h
  rw [List.drop_zero, e, e2] at e1
  have e3 := (List.cons.inj e1).1
  rw [← bt_eq _ 0 h2, ← bt_eq s p h, e3]

theorem refDecode_any (s : ByteArray) (p : Int) (w : World) (hs : s.size ≤ 281474976710656) :
    Calls Try.prog 18 #[.string s, .int .i64 p] w fun e w' => e = .returned (gotG (decV s p)) ∧ Below w.heap.size w w' := by
  unfold decV
  by_cases hp : 0 ≤ p ∧ p < (s.size : Int)
  · rw [if_pos hp]
    obtain ⟨P, rfl⟩ := Int.eq_ofNat_of_zero_le hp.1
    have hP : P < s.size := by omega
    simp only [Int.toNat_natCast]
    by_cases h0 : bt s P = 0
    · rw [h0]
      exact refDecode_0 s P w hP h0
    by_cases h1 : bt s P = 1
    · rw [h1]
      refine refDecode_1 s P w hP hs h1 _ ?_
      by_cases hb : P + 1 < s.size ∧ bt s (P + 1) ≤ 1
      · have hd : decK 1 (rest s (P + 1)) = (⟨1, (bt s (P + 1) : Int), ⟨#[]⟩⟩, 1, true) := by
          unfold decK
          rw [if_neg (by omega), if_pos rfl, if_pos ⟨by rw [rest_size]; omega, by rw [bt_rest s (P + 1) hb.1]; exact hb.2⟩, bt_rest s (P + 1) hb.1]
        rw [hd, if_pos hb]
        rfl
      · have hd : decK 1 (rest s (P + 1)) = (noV, 0, false) := by
          unfold decK
          rw [if_neg (by omega), if_pos rfl, if_neg]
          rintro ⟨h3, h4⟩
          rw [rest_size] at h3
          rw [bt_rest s (P + 1) (by omega)] at h4
          exact hb ⟨by omega, h4⟩
        rw [hd, if_neg hb]
        rfl
    by_cases h2 : bt s P = 2
    · rw [h2]
      refine refDecode_2 s P w hP hs h2 _ ?_
      have hd : decK 2 (rest s (P + 1)) = if (getAt s.data.toList ((P + 1 : Nat) : Int)).2.2 = true then (⟨2, zag (getAt s.data.toList ((P + 1 : Nat) : Int)).1, ⟨#[]⟩⟩, (getAt s.data.toList ((P + 1 : Nat) : Int)).2.1, true) else (noV, 0, false) := by
        unfold decK
        rw [if_neg (by omega), if_neg (by omega), if_pos rfl, getAt_rest s (P + 1) (by omega)]
      rw [hd]
      generalize getAt s.data.toList ((P + 1 : Nat) : Int) = g
      obtain ⟨N, j, ok⟩ := g
      cases ok <;> rfl
    by_cases h3 : bt s P = 3
    · rw [h3]
      refine refDecode_3 s P w hP hs h3 _ ?_
      have hd : decK 3 (rest s (P + 1)) = if (getTextAt s.data.toList ((P + 1 : Nat) : Int) 1024).2.2 = true then (⟨3, 0, ba (getTextAt s.data.toList ((P + 1 : Nat) : Int) 1024).1⟩, (getTextAt s.data.toList ((P + 1 : Nat) : Int) 1024).2.1, true) else (noV, 0, false) := by
        unfold decK
        rw [if_neg (by omega), if_neg (by omega), if_neg (by omega), if_pos rfl, getTextAt_rest s (P + 1) (by omega)]
      rw [hd]
      generalize getTextAt s.data.toList ((P + 1 : Nat) : Int) 1024 = g
      obtain ⟨N, j, ok⟩ := g
      cases ok <;> rfl
    · have h := refDecode_big s P w hP _ rfl (by omega)
      have hd : decK (bt s P) (rest s (P + 1)) = (noV, 0, false) := by
        unfold decK
        rw [if_neg h0, if_neg h1, if_neg h2, if_neg h3]
      rw [hd]
      exact h
  · rw [if_neg hp]
    exact refDecode_out s p w (by omega)

end Go.Proofs.Ytndbhalkhejgjaa
