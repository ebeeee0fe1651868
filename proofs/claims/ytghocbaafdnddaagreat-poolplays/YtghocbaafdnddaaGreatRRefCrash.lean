/- The document's device: Crash. -/
import Derived.Test.YtghocbaafdnddaaGreatRRefW
namespace Go.Proofs.YtghocbaafdnddaaGreat
open Go.RowKit

theorem extract_nil (s : ByteArray) (a b : Nat) (h : b ≤ a) : s.extract a b = ⟨#[]⟩ := by
  apply ByteArray.ext
  apply Array.eq_empty_of_size_eq_zero
  have := ByteArray.size_extract (a := s) (b := a) (e := b)
  have h2 : (s.extract a b).size = 0 := by rw [this]; omega
  exact h2

theorem extract_all (s : ByteArray) (n : Nat) (h : s.size ≤ n) : s.extract 0 n = s := by
  apply ByteArray.ext
  rw [ByteArray.data_extract]
  apply Array.ext
  · have : s.data.size = s.size := rfl
    simp
    omega
  · intro i h1 h2
    simp

theorem app_nil (s : ByteArray) : s ++ ⟨#[]⟩ = s := by
  apply ByteArray.ext
  simp
theorem nil_app (s : ByteArray) : (⟨#[]⟩ : ByteArray) ++ s = s := by
  apply ByteArray.ext
  simp

theorem tear_full (s old : ByteArray) (h1 : s.size = 512) (h2 : old.size = 512) : tear 512 s old = s := by
  unfold tear
  rw [extract_nil old 512 old.size (by omega), app_nil, extract_all _ _ (by omega)]

theorem tear_none (s old : ByteArray) : tear 0 s old = old := by
  unfold tear
  rw [extract_nil s 0 0 (Nat.le_refl _), nil_app, extract_all _ _ (Nat.le_refl _)]

theorem upd_same (f : Nat → ByteArray) (i : Nat) : upd f i (f i) = f := by
  funext j
  unfold upd
  split
  · rename_i e; rw [e]
  · rfl

/-- A write of which a crash keeps nothing. -/
theorem crN_lost (f : Nat → ByteArray) (l : List (Nat × ByteArray)) (keep : List Int) (k : Nat) (x : Int) (hx : keep[k]? = some x) (h : kept x = 0) : crN f l keep (k + 1) = crN f l keep k := by
  cases hp : l[k]? with
  | none => rw [crN, hp]
  | some p => rw [crN_some _ _ _ _ _ _ hp hx, h, tear_none, upd_same]

/-- A crash. -/
def RS.crashed (Q : RS) (keep : List Int) : RS :=
  { Q with safe := crN Q.safe Q.held keep Q.held.length, seen := crN Q.safe Q.held keep Q.held.length, held := [], armed := false, refuse := 0 }

set_option maxHeartbeats 6400000 in
set_option maxRecDepth 100000 in
theorem rcrash_any {B : Nat} {w : World} {g : Nat} {h : RH} {Q : RS} (r : RDev B w g h Q) (L : List Int) (ka : Option Addr) (kc : Nat) (hL : SlI w ka L) (hka : ∀ b off, ka = some ⟨b, off, none⟩ → L ≠ [] → ¬ rfoot g h b)
    (hh : ∀ p ∈ Q.held, p.1 < Q.n ∧ p.2.size = 512) (hs : ∀ j, j < Q.n → (Q.safe j).size = 512) (b4 : Q.held.length ≤ 1000000) (hB : B ≤ w.heap.size) (hn : Q.n ≤ 8192) :
    Calls Tryz.prog 25 #[.pointer (some ⟨g, 0, none⟩), .slice ka L.length kc] w fun e w' => e = .returned (.tuple #[]) ∧ ∃ h', RDev B w' g h' (Q.crashed L) ∧ Fr (rfoot g h) w w' ∧ ∀ k, rfoot g h' k → rfoot g h k ∨ w.heap.size ≤ k := by
  obtain ⟨i0, hi0, hz0, hz1, hz2⟩ := info_parts Tryz.info9
  obtain ⟨a, c, hhv⟩ := r.hvOf
  obtain ⟨ge, ce, ga, ca, hv⟩ := h
  simp only at hhv
  subst hhv
  go_enter Tryz.func25, Tryz.ntmps25
  go_wp2_with fail
  go_loopw [4] (fun si wr => ∃ k : Nat, k ≤ Q.held.length ∧ si = .int .i64 (k : Int) ∧ RDev B wr g ⟨ge, ce, ga, ca, .slice a Q.held.length c⟩ { Q with safe := crN Q.safe Q.held L k } ∧ Fr (rfoot g ⟨ge, ce, ga, ca, .slice a Q.held.length c⟩) w wr) (fun si _ => Q.held.length - (intOf si).toNat)
  case atStart => exact ⟨0, by omega, rfl, r, Fr.refl _ _⟩
  case round =>
    obtain ⟨k, hk, rfl, hd, hf⟩ := hrel
    by_cases hlt : k < Q.held.length
    · have hp : Q.held[k]? = some Q.held[k] := by simp [hlt]
      generalize Q.held[k] = p at hp
      obtain ⟨i, s⟩ := p
      obtain ⟨hin, hss⟩ := hh (i, s) (List.mem_of_getElem? hp)
      simp only at hin hss
      obtain ⟨b, cap, hv', cH0, cH1⟩ := hd.cellHeld k (i, s) hp
      injection hv' with e1 e2 e3
      subst e1 e3
      simp only at cH0 cH1
      have c2 := hd.cell.2.2.1
      have hlt2 : (k : Int) < (Q.held.length : Int) := by omega
      have hin2 : (i : Int) < (Q.n : Int) := by omega
      have h5 := hd.below (below_alloc1 wr (.cells #[.int .i64 (i : Int), .string s] 100))
      have fr5 := hf.alloc (.cells #[.int .i64 (i : Int), .string s] 100)
      have c51 := h5.cell.2.1
      have c5s := h5.cellSafe i hin
      have f5s := h5.safe.frozenAt i
      simp only at c2 c51 c5s f5s
      have hsz := crN_size (keep := L) hs hh k i hin
      by_cases hkL : k < L.length
      · have hx : L[k]? = some L[k] := by simp [hkL]
        generalize L[k] = x at hx
        rcases hL with hL | ⟨kb, off, rfl, hkb, hkr⟩
        · rw [hL] at hkL; simp at hkL
        have cK : wr.cell? ⟨kb, off + k, none⟩ = some (.int .i64 x) := (World.cell?_of_block (w := w) (hf.block kb hkb (hka kb off rfl (by rintro rfl; simp at hkL)))).trans (hkr k x hx)
        have hkL2 : (k : Int) < (L.length : Int) := by omega
        by_cases h1 : x = 1
        · subst h1
          have hstep := crN_some Q.safe Q.held L k (i, s) 1 hp hx
          simp only at hstep
          rw [show kept 1 = 512 from rfl, tear_full _ _ hss hsz] at hstep
          have HS : Hid (crN Q.safe Q.held L (k + 1) = upd (crN Q.safe Q.held L k) i s) := hstep
          clear hstep hp hx hkr hka hh hs
          go_wp2_with fail
          go_region
          go_wp2_with fail
          go_roundw
          case rel =>
            refine ⟨k + 1, by omega, by go_num, ?_, ?_⟩
            · rw [HS.out]; exact (h5.setSafe i s).kept (fun _ _ => rfl)
            · exact (fr5.set (Or.inl (Or.inr (Or.inr (Or.inl rfl)))) _).drew
          case measure => simp [intOf]; omega
        · have d1 : (x == 1) = false := by simpa using h1
          by_cases h2 : 2 ≤ x ∧ x ≤ 513
          · obtain ⟨m, rfl⟩ : ∃ m : Nat, x = (m : Int) + 2 := ⟨(x - 2).toNat, by omega⟩
            have hm : m ≤ 511 := by omega
            have hkept : kept ((m : Int) + 2) = m := by unfold kept; rw [if_neg h1, if_pos (by omega)]; omega
            have hstep := crN_some Q.safe Q.held L k (i, s) _ hp hx
            simp only at hstep
            rw [hkept] at hstep
            obtain ⟨T, hT⟩ : ∃ T, tear m s (crN Q.safe Q.held L k i) = T := ⟨_, rfl⟩
            rw [hT] at hstep
            have HS : Hid (crN Q.safe Q.held L (k + 1) = upd (crN Q.safe Q.held L k) i T) := hstep
            unfold tear at hT
            generalize crN Q.safe Q.held L k i = old at c5s hsz hT
            rw [hsz] at hT
            have d2 : decide ((2 : Int) ≤ (m : Int) + 2) = true := by simp; omega
            have d3 : decide ((m : Int) + 2 ≤ 513) = true := by simp; omega
            have d4 : (m : Int) + 2 - 2 = (m : Int) := by omega
            have hm2 : (m : Int) ≤ 512 := by omega
            have hm3 : (0 : Int) ≤ (m : Int) := by omega
            clear hstep hp hx hkr hka hh hs h1 h2 hkept
            go_wp2_with fail
            go_region
            go_wp2_with fail
            go_roundw
            case rel =>
              refine ⟨k + 1, by omega, by go_num, ?_, ?_⟩
              · rw [HS.out]; exact (h5.setSafe i T).kept (fun _ _ => rfl)
              · exact (fr5.set (Or.inl (Or.inr (Or.inr (Or.inl rfl)))) _).drew
            case measure => simp [intOf]; omega
          · have hkept : kept x = 0 := by unfold kept; rw [if_neg h1, if_neg (by omega)]
            have HS : Hid (crN Q.safe Q.held L (k + 1) = crN Q.safe Q.held L k) := crN_lost _ _ _ _ x hx hkept
            clear hp hx hkr hka hh hs hkept
            by_cases h3 : 2 ≤ x
            · have d2 : decide (2 ≤ x) = true := by simpa using h3
              have d3 : decide (x ≤ 513) = false := by simp; omega
              clear h1 h2
              go_wp2_with fail
              go_roundw
              case rel =>
                refine ⟨k + 1, by omega, by go_num, ?_, fr5⟩
                rw [HS.out]; exact h5
              case measure => simp [intOf]; omega
            · have d2 : decide (2 ≤ x) = false := by simpa using h3
              clear h1 h2
              go_wp2_with fail
              go_roundw
              case rel =>
                refine ⟨k + 1, by omega, by go_num, ?_, fr5⟩
                rw [HS.out]; exact h5
              case measure => simp [intOf]; omega
      · have hx : L[k]? = none := by simp; omega
        have hstep := crN_none Q.safe Q.held L k hx
        have HS : Hid (crN Q.safe Q.held L (k + 1) = crN Q.safe Q.held L k) := hstep
        have hkL2 : ¬ (k : Int) < (L.length : Int) := by omega
        clear hstep hp hx
        go_wp2_with fail
        go_roundw
        case rel =>
          refine ⟨k + 1, by omega, by go_num, ?_, fr5⟩
          rw [HS.out]; exact h5
        case measure => simp [intOf]; omega
    · obtain rfl : k = Q.held.length := by omega
      obtain ⟨S, hS⟩ : ∃ S, crN Q.safe Q.held L Q.held.length = S := ⟨_, rfl⟩
      have HS : Hid (crN Q.safe Q.held L Q.held.length = S) := hS
      rw [hS] at hd
      clear hS
      have c2 := hd.cell.2.2.1
      have f2 := hd.free 2
      have r1 := hd.newHeld (.slice none 0 0) [] (World.ownsRow_nil _ _ _ _)
      have fr1 := hf.set (p := ⟨g, 2, none⟩) (Or.inl (Or.inl rfl)) (.slice none 0 0)
      have hge : ge < wr.heap.size := hd.lt _ (Or.inr (Or.inl rfl))
      have hga : ga < wr.heap.size := hd.lt _ (Or.inr (Or.inr (Or.inl rfl)))
      have hsz1 : (wr.setCell ⟨g, 2, none⟩ (.slice none 0 0)).heap.size = wr.heap.size := by simp
      have r2 := r1.below (below_alloc1 _ (.cells #[] 9))
      have c21 := r2.cell.2.1
      have hB1 : B ≤ (wr.setCell ⟨g, 2, none⟩ (.slice none 0 0)).heap.size := Nat.le_trans hB fr1.size
      have hmade : ((wr.setCell ⟨g, 2, none⟩ (.slice none 0 0)).alloc (.cells #[] 9)).ownsRow (wr.setCell ⟨g, 2, none⟩ (.slice none 0 0)).heap.size 9 1 (.slice (some ⟨(wr.setCell ⟨g, 2, none⟩ (.slice none 0 0)).heap.size, 0, none⟩) 0 0) 0 [] := World.ownsRow_made _ #[] 0 (Nat.le_refl _) (Nat.zero_le _) rfl
      have hsrc := strC_src r1.safe (.cells #[] 9)
      simp only at c2 c21 hsrc
      have fin : ∀ v8 w8, w8.ownsRow (wr.setCell ⟨g, 2, none⟩ (.slice none 0 0)).heap.size 9 1 v8 (0 + Q.n) ([] ++ strC S Q.n) → ((wr.setCell ⟨g, 2, none⟩ (.slice none 0 0)).alloc (.cells #[] 9)).grownBy w8 (Value.slice (some ⟨(wr.setCell ⟨g, 2, none⟩ (.slice none 0 0)).heap.size, 0, none⟩) 0 0).ownBlock →
          (v8 = .slice none 0 0 ↔ Value.slice (some ⟨(wr.setCell ⟨g, 2, none⟩ (.slice none 0 0)).heap.size, 0, none⟩) 0 0 = .slice none 0 0 ∧ Q.n = 0) →
          ∃ b' c', v8 = .slice (some ⟨b', 0, none⟩) Q.n c' ∧ (∃ y, w8.cell? ⟨g, 0, none⟩ = some y) ∧ w8.frozen? ⟨g, 0, none⟩ = false ∧ (w8.setCell ⟨g, 0, none⟩ (.slice (some ⟨b', 0, none⟩) Q.n c')).cell? ⟨g, 5, none⟩ = some (.bool Q.armed) ∧ (w8.setCell ⟨g, 0, none⟩ (.slice (some ⟨b', 0, none⟩) Q.n c')).frozen? ⟨g, 5, none⟩ = false ∧
            (w8.setCell ⟨g, 0, none⟩ (.slice (some ⟨b', 0, none⟩) Q.n c')).cell? ⟨g, 4, none⟩ = some (.int .i64 Q.refuse) ∧ (w8.setCell ⟨g, 0, none⟩ (.slice (some ⟨b', 0, none⟩) Q.n c')).frozen? ⟨g, 4, none⟩ = false ∧
            Hid (RDev B (((w8.setCell ⟨g, 0, none⟩ (.slice (some ⟨b', 0, none⟩) Q.n c')).setCell ⟨g, 5, none⟩ (.bool false)).setCell ⟨g, 4, none⟩ (.int .i64 0)) g ⟨b', c', ga, ca, .slice none 0 0⟩ { Q with safe := S, seen := S, held := [], armed := false, refuse := 0 } ∧
              Fr (rfoot g ⟨ge, ce, ga, ca, .slice a Q.held.length c⟩) w (((w8.setCell ⟨g, 0, none⟩ (.slice (some ⟨b', 0, none⟩) Q.n c')).setCell ⟨g, 5, none⟩ (.bool false)).setCell ⟨g, 4, none⟩ (.int .i64 0)) ∧ ∀ k, rfoot g ⟨b', c', ga, ca, .slice none 0 0⟩ k → rfoot g ⟨ge, ce, ga, ca, .slice a Q.held.length c⟩ k ∨ w.heap.size ≤ k) := by
        intro v8 w8 ho8 hg8 hn8
        obtain ⟨b', c', e, hb, ho⟩ := copied (B := B) ho8 hn8 hB1
        have bl : Below (wr.setCell ⟨g, 2, none⟩ (.slice none 0 0)).heap.size (wr.setCell ⟨g, 2, none⟩ (.slice none 0 0)) w8 := (below_alloc1 _ _).trans ((Below.refl _ _).grown hg8 (by simp) (fun k hk => by cases hk; exact Nat.le_refl _))
        have r8 := r1.below bl
        have r9 := r8.newSeen b' c' S ho (by show b' ≠ ga; omega)
        have r10 := (r9.setArmed false).setRefuse 0
        refine ⟨b', c', e, ⟨_, r8.cell.1⟩, r8.free 0, r9.cell.2.2.2.2.2.1, r9.free 5, r9.cell.2.2.2.2.1, r9.free 4, ⟨r10, ?_, ?_⟩⟩
        · have f8 := fr1.trans (G := rfoot g ⟨ge, ce, ga, ca, .slice a Q.held.length c⟩) (.of_below bl) (fun _ _ x => x)
          exact ((f8.set (Or.inl (Or.inl rfl)) _).set (Or.inl (Or.inl rfl)) _).set (Or.inl (Or.inl rfl)) _
        · have hsw := hf.size
          rintro k (q | q | q | q)
          · exact Or.inl (Or.inl q)
          · simp only at q; exact Or.inr (by omega)
          · exact Or.inl (Or.inr (Or.inr (Or.inl q)))
          · simp [Value.ownBlock] at q
      rw [hsz1] at hmade fin
      go_wp2_with (at_builtin; refine wpList_append_own _ rfl (.tmp 76) (.tmp 80) 70 rfl wr.heap.size 9 i0 _ 1 16 Tryz.underlying70 hi0 hz0 hz1 hz2 rfl (by decide) _ 0 [] rfl hmade ⟨ga, 0, none⟩ Q.n ca (strC S Q.n) rfl (by rw [strC_length, Nat.mul_one]) hsrc (strC_one _ _) (by unfold maxLen; omega) (by omega) (by simp) ?_; intro v8 w8 ho8 hg8 hn8; obtain ⟨b', c', rfl, ⟨y, c8⟩, f8, c9, f9, c10, f10, hfin⟩ := fin v8 w8 ho8 hg8 hn8)
      obtain ⟨r9, fr9, gr9⟩ := hfin.out
      go_end0
      refine ⟨rfl, _, ?_, fr9, gr9⟩
      have e := HS.out
      subst e
      exact r9

end Go.Proofs.YtghocbaafdnddaaGreat
