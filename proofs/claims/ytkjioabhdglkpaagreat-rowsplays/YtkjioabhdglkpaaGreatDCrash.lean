/- Crash. -/
import Derived.Test.YtkjioabhdglkpaaGreatDFlush
namespace Go.Proofs.YtkjioabhdglkpaaGreat
open Go.RowKit

/-- A list of numbers in memory. -/
def SlI (w : World) (a : Option Addr) (L : List Int) : Prop := L = [] ∨ ∃ b off, a = some ⟨b, off, none⟩ ∧ b < w.heap.size ∧ ∀ i x, L[i]? = some x → w.cell? ⟨b, off + i, none⟩ = some (.int .i64 x)

theorem SlI.kept {w w' : World} {a : Option Addr} {L : List Int} (h : SlI w a L) (hb : Below w.heap.size w w') : SlI w' a L := by
  rcases h with h | ⟨b, off, e, hlt, hr⟩
  · exact Or.inl h
  · exact Or.inr ⟨b, off, e, by have := hb.size; omega, fun i x hx => (hb.cell (p := ⟨b, _, none⟩) hlt).trans (hr i x hx)⟩

/-- The beginning of one text, the end of another one. -/
def tear (n : Nat) (s old : ByteArray) : ByteArray := s.extract 0 n ++ old.extract n old.size

theorem tear_size (n : Nat) (s old : ByteArray) (h1 : s.size = 512) (h2 : old.size = 512) (hn : n ≤ 512) : (tear n s old).size = 512 := by
  unfold tear
  rw [ByteArray.size_append, ByteArray.size_extract, ByteArray.size_extract]
  omega

/-- What is flushed behind a crash, as far as the first k writes. -/
def crN (f : Nat → ByteArray) (l : List (Nat × ByteArray)) (keep : List Int) : Nat → Nat → ByteArray
  | 0 => f
  | k + 1 => match l[k]?, keep[k]? with
    | some p, some x => upd (crN f l keep k) p.1 (tear (kept x) p.2 (crN f l keep k p.1))
    | _, _ => crN f l keep k

theorem crN_some (f : Nat → ByteArray) (l : List (Nat × ByteArray)) (keep : List Int) (k : Nat) (p : Nat × ByteArray) (x : Int) (h : l[k]? = some p) (hx : keep[k]? = some x) :
    crN f l keep (k + 1) = upd (crN f l keep k) p.1 (tear (kept x) p.2 (crN f l keep k p.1)) := by
  rw [crN, h, hx]

theorem crN_none (f : Nat → ByteArray) (l : List (Nat × ByteArray)) (keep : List Int) (k : Nat) (hx : keep[k]? = none) : crN f l keep (k + 1) = crN f l keep k := by
  rw [crN, hx]
  cases l[k]? <;> rfl

theorem upd_size {f : Nat → ByteArray} {i n : Nat} {s : ByteArray} (hf : ∀ j, j < n → (f j).size = 512) (hs : s.size = 512) : ∀ j, j < n → (upd f i s j).size = 512 := by
  intro j hj
  unfold upd
  split
  · exact hs
  · exact hf j hj

theorem crN_size {f : Nat → ByteArray} {l : List (Nat × ByteArray)} {keep : List Int} {n : Nat} (hf : ∀ j, j < n → (f j).size = 512) (hh : ∀ p ∈ l, p.1 < n ∧ p.2.size = 512) (k : Nat) : ∀ j, j < n → (crN f l keep k j).size = 512 := by
  induction k with
  | zero => exact hf
  | succ k ih =>
    cases hx : keep[k]? with
    | none => rw [crN_none _ _ _ _ hx]; exact ih
    | some x =>
      cases hp : l[k]? with
      | none => rw [crN, hp]; exact ih
      | some p =>
        rw [crN_some _ _ _ _ _ _ hp hx]
        have := hh p (List.mem_of_getElem? hp)
        exact upd_size ih (tear_size _ _ _ this.2 (ih _ this.1) (kept_le x))

/-- What is latest behind a crash, as far as the first k writes. -/
def seN (f safe : Nat → ByteArray) (l : List (Nat × ByteArray)) : Nat → Nat → ByteArray
  | 0 => f
  | k + 1 => match l[k]? with
    | none => seN f safe l k
    | some p => upd (seN f safe l k) p.1 (safe p.1)

theorem seN_succ (f safe : Nat → ByteArray) (l : List (Nat × ByteArray)) (k : Nat) (p : Nat × ByteArray) (h : l[k]? = some p) : seN f safe l (k + 1) = upd (seN f safe l k) p.1 (safe p.1) := by
  rw [seN, h]

/-- A crash. -/
def DS.crashed (D : DS) (keep : List Int) : DS :=
  { D with safe := crN D.safe D.held keep D.held.length, seen := seN D.seen (crN D.safe D.held keep D.held.length) D.held D.held.length, held := [], left := -1, next := 0 }

set_option maxHeartbeats 3200000 in
set_option maxRecDepth 100000 in
theorem crash_any {B : Nat} {w : World} {g gs : Nat} {hv : Value} {D : DS} (h : Dev B w g gs hv D) (L : List Int) (ka : Option Addr) (kc : Nat) (hL : SlI w ka L) (hka : ∀ b off, ka = some ⟨b, off, none⟩ → L ≠ [] → ¬ foot g gs hv b)
    (hh : ∀ p ∈ D.held, p.1 < D.n ∧ p.2.size = 512) (hs : ∀ j, j < D.n → (D.safe j).size = 512) (b4 : D.held.length ≤ 100000000) :
    Calls Tryz.prog 22 #[.pointer (some ⟨g, 0, none⟩), .slice ka L.length kc] w fun e w' => e = .returned (.tuple #[]) ∧ Dev B w' g gs (.slice none 0 0) (D.crashed L) ∧ Fr (foot g gs hv) w w' := by
  obtain ⟨a, c, rfl⟩ := h.hvOf
  have c1 := h.cell.2.1
  go_enter Tryz.func22, Tryz.ntmps22
  go_wp2_with fail
  go_loopw [16] (fun si wr => ∃ k : Nat, k ≤ D.held.length ∧ si = .int .i64 (k : Int) ∧ Dev B wr g gs (.slice a D.held.length c) { D with safe := crN D.safe D.held L k } ∧ Fr (foot g gs (.slice a D.held.length c)) w wr) (fun si _ => D.held.length - (intOf si).toNat)
  case atStart => exact ⟨0, by omega, rfl, h, Fr.refl _ _⟩
  case round =>
    obtain ⟨k, hk, rfl, hd, hf⟩ := hrel
    by_cases hlt : k < D.held.length
    · have hp : D.held[k]? = some D.held[k] := by simp [hlt]
      generalize D.held[k] = p at hp
      obtain ⟨i, s⟩ := p
      obtain ⟨hin, hss⟩ := hh (i, s) (List.mem_of_getElem? hp)
      simp only at hin hss
      obtain ⟨b, cap, hv', cH0, cH1⟩ := hd.cellHeld k (i, s) hp
      injection hv' with e1 e2 e3
      subst e1 e3
      simp only at cH0 cH1
      have hlt2 : (k : Int) < (D.held.length : Int) := by omega
      have hin2 : (i : Int) < (D.n : Int) := by omega
      have h5 := hd.below (below_alloc1 wr (.cells #[.int .i64 (i : Int), .string s] 111))
      have fr5 := hf.alloc (.cells #[.int .i64 (i : Int), .string s] 111)
      by_cases hkL : k < L.length
      · have hx : L[k]? = some L[k] := by simp [hkL]
        generalize L[k] = x at hx
        have hstep := crN_some D.safe D.held L k (i, s) x hp hx
        have c50 := h5.cell.1
        have c51 := h5.cellSafe i hin
        have f51 := h5.free.2 (i * 2)
        have hsz := crN_size (keep := L) hs hh k i hin
        simp only at c51
        rcases hL with hL | ⟨kb, off, rfl, hkb, hkr⟩
        · rw [hL] at hkL; simp at hkL
        have cK : (wr.alloc (.cells #[.int .i64 (i : Int), .string s] 111)).cell? ⟨kb, off + k, none⟩ = some (.int .i64 x) := by
          have e1 : wr.heap[kb]? = w.heap[kb]? := hf.block kb hkb (hka kb off rfl (by rintro rfl; simp at hkL))
          have e2 := (below_alloc1 wr (.cells #[.int .i64 (i : Int), .string s] 111)).cell (p := ⟨kb, off + k, none⟩) (Nat.lt_of_lt_of_le hkb hf.size)
          rw [e2]
          exact (World.cell?_of_block (w := w) e1).trans (hkr k x hx)
        have cKept := fun w => kept_any x w _ rfl
        have hkept := kept_le x
        simp only at hstep
        obtain ⟨T, hT⟩ : ∃ T, tear (kept x) s (crN D.safe D.held L k i) = T := ⟨_, rfl⟩
        rw [hT] at hstep
        have HS : Hid (crN D.safe D.held L (k + 1) = upd (crN D.safe D.held L k) i T) := hstep
        unfold tear at hT
        generalize kept x = m at cKept hkept hT
        generalize crN D.safe D.held L k i = old at c51 hsz hT
        rw [hsz] at hT
        have hkL2 : (k : Int) < (L.length : Int) := by omega
        have hm2 : (m : Int) ≤ 512 := by omega
        have hm3 : (0 : Int) ≤ (m : Int) := by omega
        clear hstep hp hx hkr hka hh hs
        go_wp2_with fail
        refine (cKept _).mono ?_
        rintro e w3 ⟨rfl, e3⟩
        rw [e3]
        clear e3
        go_wp2_with fail
        go_region
        go_wp2_with fail
        go_roundw
        case rel =>
          refine ⟨k + 1, by omega, by go_num, ?_, ?_⟩
          · rw [HS.out]; exact (h5.setSafe i T).kept (fun _ _ => rfl)
          · exact (fr5.set (Or.inl (Or.inr (Or.inl rfl))) _).drew
        case measure => simp [intOf]; omega
      · have hx : L[k]? = none := by simp; omega
        have hstep := crN_none D.safe D.held L k hx
        have HS : Hid (crN D.safe D.held L (k + 1) = crN D.safe D.held L k) := hstep
        have hkL2 : ¬ (k : Int) < (L.length : Int) := by omega
        clear hstep hp hx
        go_wp2_with fail
        go_roundw
        case rel =>
          refine ⟨k + 1, by omega, by go_num, ?_, ?_⟩
          · rw [HS.out]; exact h5
          · exact fr5
        case measure => simp [intOf]; omega
    · obtain rfl : k = D.held.length := by omega
      obtain ⟨S, hS⟩ : ∃ S, crN D.safe D.held L D.held.length = S := ⟨_, rfl⟩
      have HS : Hid (crN D.safe D.held L D.held.length = S) := hS
      rw [hS] at hd
      clear hS
      have c1 := hd.cell.2.1
      go_wp2_with fail
      go_loopw [60] (fun si wr => ∃ k : Nat, k ≤ D.held.length ∧ si = .int .i64 (k : Int) ∧ Dev B wr g gs (.slice a D.held.length c) { D with safe := S, seen := seN D.seen S D.held k } ∧ Fr (foot g gs (.slice a D.held.length c)) w wr) (fun si _ => D.held.length - (intOf si).toNat)
      case atStart => exact ⟨0, by omega, rfl, hd, hf⟩
      case round =>
        obtain ⟨k, hk, rfl, hd, hf⟩ := hrel
        by_cases hlt : k < D.held.length
        · have hp : D.held[k]? = some D.held[k] := by simp [hlt]
          generalize D.held[k] = p at hp
          obtain ⟨i, s⟩ := p
          obtain ⟨hin, hss⟩ := hh (i, s) (List.mem_of_getElem? hp)
          simp only at hin hss
          obtain ⟨b, cap, hv', cH0, cH1⟩ := hd.cellHeld k (i, s) hp
          injection hv' with e1 e2 e3
          subst e1 e3
          simp only at cH0 cH1
          have hlt2 : (k : Int) < (D.held.length : Int) := by omega
          have hin2 : (i : Int) < (D.n : Int) := by omega
          have h5 := hd.below (below_alloc1 _ (.cells #[.int .i64 (i : Int), .string s] 111))
          have fr5 := hf.alloc (.cells #[.int .i64 (i : Int), .string s] 111)
          have hstep := seN_succ D.seen S D.held k (i, s) hp
          have c50 := h5.cell.1
          have c51 := h5.cellSeen i hin
          have c52 := h5.cellSafe i hin
          have f51 := h5.free.2 (i * 2 + 1)
          simp only at c51 c52 hstep
          have HT : Hid (seN D.seen S D.held (k + 1) = upd (seN D.seen S D.held k) i (S i)) := hstep
          clear hstep hp
          go_wp2_with fail
          go_region
          go_wp2_with fail
          go_roundw
          case rel =>
            refine ⟨k + 1, by omega, by go_num, ?_, ?_⟩
            · rw [HT.out]; exact (h5.setSeen i (S i)).kept (fun _ _ => rfl)
            · exact (fr5.set (Or.inl (Or.inr (Or.inl rfl))) _).drew
          case measure => simp [intOf]; omega
        · obtain rfl : k = D.held.length := by omega
          have c1 := hd.cell.2.1
          have f1 := hd.free.1 1
          have h3 := hd.setHeld (.slice none 0 0) [] (World.ownsRow_nil _ _ _ _) (by simp [Value.ownBlock]) (by simp [Value.ownBlock])
          have fr3 := hf.set (p := ⟨g, 1, none⟩) (Or.inl (Or.inl rfl)) (.slice none 0 0)
          have hfoot : ∀ i, i < w.heap.size → foot g gs (.slice none 0 0) i → foot g gs (.slice a D.held.length c) i := by
            rintro j hj (r | r | r)
            · exact Or.inl r
            · exact Or.inr (Or.inl r)
            · simp [Value.ownBlock] at r
          go_wp2_with fail
          refine (arm_any h3 (-1) (-1) rfl).mono ?_
          rintro e w9 ⟨rfl, h10, fr10⟩
          go_wp2_with fail
          refine (refuse_any h10 0 0 rfl).mono ?_
          rintro e w10 ⟨rfl, h11, fr11⟩
          go_wp2_with fail
          go_end0
          refine ⟨rfl, ?_, (fr3.trans fr10 hfoot).trans fr11 hfoot⟩
          have e := HS.out
          subst e
          exact h11

end Go.Proofs.YtkjioabhdglkpaaGreat
