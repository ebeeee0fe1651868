/- Flush. -/
import Derived.Test.YtkjioabhdglkpaaGreatDWrite
namespace Go.Proofs.YtkjioabhdglkpaaGreat
open Go.RowKit

/-- What is flushed behind the first k writes. -/
def flN (f : Nat → ByteArray) (l : List (Nat × ByteArray)) : Nat → Nat → ByteArray
  | 0 => f
  | k + 1 => match l[k]? with
    | none => flN f l k
    | some p => upd (flN f l k) p.1 p.2

theorem flN_succ (f : Nat → ByteArray) (l : List (Nat × ByteArray)) (k : Nat) (p : Nat × ByteArray) (h : l[k]? = some p) : flN f l (k + 1) = upd (flN f l k) p.1 p.2 := by
  show (match l[k]? with
    | none => flN f l k
    | some p => upd (flN f l k) p.1 p.2) = _
  rw [h]

/-- A flush that is OK. -/
def DS.flushed (D : DS) : DS := { D with safe := flN D.safe D.held D.held.length, held := [], ops := D.ops + 1, left := D.left - 1 }

theorem Dev.hvOf {B : Nat} {w : World} {g gs : Nat} {hv : Value} {D : DS} (h : Dev B w g gs hv D) : ∃ a c, hv = .slice a D.held.length c := by
  rcases h.own.2 with ⟨e, hn⟩ | ⟨b, cap, cur, e, _⟩
  · exact ⟨_, _, by rw [hn]; exact e⟩
  · exact ⟨_, _, e⟩

theorem fr_alone {F : Nat → Prop} {a b c : World} (h : Fr F a b) (k : Fr F b c) : Fr F a c := h.trans k (fun _ _ x => x)

set_option maxHeartbeats 400000 in
theorem flush_down {B : Nat} {w : World} {g gs : Nat} {hv : Value} {D : DS} (h : Dev B w g gs hv D) (hl : D.left = 0) :
    Calls Tryz.prog 49 #[.pointer (some ⟨g, 0, none⟩)] w fun e w' => e = .returned (.int .i64 41) ∧ w' = w := by
  have cD := down_any h
  rw [hl] at cD
  go_enter Tryz.func49, Tryz.ntmps49
  go_wp2_with fail
  refine cD.mono ?_
  rintro e w2 ⟨rfl, h2⟩
  rw [h2]
  go_wp2_with fail
  go_ret
  exact ⟨rfl, rfl⟩

set_option maxHeartbeats 1600000 in
set_option maxRecDepth 100000 in
theorem flush_ok {B : Nat} {w : World} {g gs : Nat} {hv : Value} {D : DS} (h : Dev B w g gs hv D) (hl : D.left ≠ 0) (hh : ∀ p ∈ D.held, p.1 < D.n)
    (b1 : 0 ≤ D.ops ∧ D.ops ≤ 100000000) (b2 : -100000000 ≤ D.left ∧ D.left ≤ 9223372036854775807) (b4 : D.held.length ≤ 100000000) :
    Calls Tryz.prog 49 #[.pointer (some ⟨g, 0, none⟩)] w fun e w' => e = .returned (.int .i64 0) ∧ Dev B w' g gs (.slice none 0 0) D.flushed ∧ Fr (foot g gs hv) w w' := by
  have cD := down_any h
  rw [show (D.left == 0) = false by simpa using hl] at cD
  obtain ⟨a, c, rfl⟩ := h.hvOf
  have c1 := h.cell.2.1
  have f1 := h.free.1 1
  go_enter Tryz.func49, Tryz.ntmps49
  go_wp2_with fail
  refine cD.mono ?_
  rintro e w2 ⟨rfl, e2⟩
  rw [e2]
  clear e2
  go_wp2_with fail
  go_loopw [12] (fun si wr => ∃ k : Nat, k ≤ D.held.length ∧ si = .int .i64 (k : Int) ∧ Dev B wr g gs (.slice a D.held.length c) { D with safe := flN D.safe D.held k } ∧ Fr (foot g gs (.slice a D.held.length c)) w wr) (fun si _ => D.held.length - (intOf si).toNat)
  case atStart => exact ⟨0, by omega, rfl, h, Fr.refl _ _⟩
  case round =>
    obtain ⟨k, hk, rfl, hd, hf⟩ := hrel
    by_cases hlt : k < D.held.length
    · have hp : D.held[k]? = some D.held[k] := by simp [hlt]
      generalize D.held[k] = p at hp
      obtain ⟨i, s⟩ := p
      have hin : i < D.n := hh (i, s) (List.mem_of_getElem? hp)
      obtain ⟨b, cap, hv', cH0, cH1⟩ := hd.cellHeld k (i, s) hp
      have hstep := flN_succ D.safe D.held k (i, s) hp
      injection hv' with e1 e2 e3
      subst e1 e3
      simp only at cH0 cH1
      have hlt2 : (k : Int) < (D.held.length : Int) := by omega
      have hin2 : (i : Int) < (D.n : Int) := by omega
      have h5 := hd.below (below_alloc1 wr (.cells #[.int .i64 (i : Int), .string s] 111))
      have fr5 := hf.alloc (.cells #[.int .i64 (i : Int), .string s] 111)
      have c50 := h5.cell.1
      have c51 := h5.cellSafe i hin
      have f51 := h5.free.2 (i * 2)
      have HS : Hid (flN D.safe D.held (k + 1) = upd (flN D.safe D.held k) i s) := hstep
      clear hstep hp
      go_wp2_with fail
      go_region
      go_wp2_with fail
      go_roundw
      case rel =>
        refine ⟨k + 1, by omega, by go_num, ?_, ?_⟩
        · rw [HS.out]; exact (h5.setSafe i s).kept (fun _ _ => rfl)
        · exact (fr5.set (Or.inl (Or.inr (Or.inl rfl))) _).drew
      case measure => simp [intOf]; omega
    · obtain rfl : k = D.held.length := by omega
      have c1 := hd.cell.2.1
      have f1 := hd.free.1 1
      have h3 := hd.setHeld (.slice none 0 0) [] (World.ownsRow_nil _ _ _ _) (by simp [Value.ownBlock]) (by simp [Value.ownBlock])
      have fr3 := hf.set (p := ⟨g, 1, none⟩) (Or.inl (Or.inl rfl)) (.slice none 0 0)
      go_wp2_with fail
      refine (count_any h3 b1 b2.1 b2.2).mono ?_
      rintro e w9 ⟨rfl, h10, fr10⟩
      go_wp2_with fail
      go_ret
      refine ⟨rfl, h10, fr3.trans fr10 ?_⟩
      rintro j hj (r | r | r)
      · exact Or.inl r
      · exact Or.inr (Or.inl r)
      · simp [Value.ownBlock] at r

end Go.Proofs.YtkjioabhdglkpaaGreat
