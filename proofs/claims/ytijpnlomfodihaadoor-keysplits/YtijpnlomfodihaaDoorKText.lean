/- What the library's texts and builders do for keys: every 0 kept, texts put together; the contract of put. -/
import Derived.Test.YtijpnlomfodihaaDoorKPut
import Derived.Test.YtijpnlomfodihaaDoorShelf
namespace Go.Proofs.YtijpnlomfodihaaDoor
open Go.RowKit

theorem index_ne (c : UInt8) (l : List UInt8) (h : c ≠ 0) : Lib.index (c :: l) [0] = if Lib.index l [0] == -1 then -1 else Lib.index l [0] + 1 := by
  rw [Lib.index]
  have : List.isPrefixOf [0] (c :: l) = false := by
    simp [List.isPrefixOf]
    exact fun e => h e.symm
  rw [this]
  rfl

theorem index_eq (l : List UInt8) : Lib.index (0 :: l) [0] = 0 := by
  rw [Lib.index]
  simp [List.isPrefixOf]

theorem replaceK_cons (c : UInt8) (l new : List UInt8) (k : Nat) (h : c ≠ 0) : Lib.replaceK [0] new k (c :: l) = c :: Lib.replaceK [0] new k l := by
  cases k with
  | zero => rfl
  | succ k =>
    have hge := Lib.index_ge l [0]
    rw [Lib.replaceK, Lib.replaceK, index_ne c l h]
    by_cases e : Lib.index l [0] = -1
    · simp [e]
    · have h1 : (Lib.index l [0] == -1) = false := by simpa using e
      have h2 : ¬ (Lib.index l [0] + 1 == -1) = true := by
        simp; omega
      have h3 : (Lib.index l [0] + 1).toNat = (Lib.index l [0]).toNat + 1 := by omega
      simp only [h1, h2, h3, if_false, Bool.false_eq_true]
      simp

theorem replaceAll_esc (l : List UInt8) : Lib.replaceAll l [0] [0, 255] = esc l := by
  have hr : ∀ l : List UInt8, Lib.replaceK [0] [0, 255] (Lib.count l [0]) l = esc l := by
    intro l
    induction l with
    | nil => rfl
    | cons c l ih =>
      by_cases h : c = 0
      · subst h
        rw [Lib.count_cons_eq, Nat.add_comm, Lib.replaceK, index_eq]
        simp [ih, esc]
      · rw [Lib.count_cons_ne _ _ _ h, replaceK_cons _ _ _ _ h, ih]
        simp [esc, h]
  unfold Lib.replaceAll Lib.replace Lib.replaceNum
  have h1 : (([0] : List UInt8) == [0, 255]) = false := by decide
  rw [h1, if_pos (Or.inl (by decide))]
  simp [hr]

/-- A variable of the library's own holds some number. -/
def ML (w : World) : Prop := ∃ m, w.cell? ⟨0, 0, none⟩ = some (.int .i64 m)

theorem ML.lt {w : World} (h : ML w) : 0 < w.heap.size := by
  obtain ⟨m, hm⟩ := h
  exact World.block_lt_of_cell? _ _ hm

theorem ML.kept {w w' : World} (h : ML w) (hb : Below w.heap.size w w') : ML w' := by
  obtain ⟨m, hm⟩ := h
  exact ⟨m, by rw [hb.cell (p := ⟨0, 0, none⟩) (ML.lt ⟨m, hm⟩)]; exact hm⟩

theorem escAll_any (s : ByteArray) (w : World) (hs : s.size ≤ 1000000) (hm : ML w) :
    Calls Tryd.prog 42 #[.string s, .string ⟨#[0]⟩, .string ⟨#[0, 255]⟩] w fun e w' => e = .returned (.string (ba (esc s.data.toList))) ∧ Below w.heap.size w w' := by
  obtain ⟨m, hm⟩ := hm
  have hc := Lib.countB_le ⟨#[0]⟩ (by decide) s.size s (Nat.le_refl _)
  have c := Tryd.strings_ReplaceAll s ⟨#[0]⟩ ⟨#[0, 255]⟩ m w (by omega) hm (by decide) (by
    have : (⟨#[0, 255]⟩ : ByteArray).size = 2 := rfl
    rw [this]; omega)
  have e : Lib.replaceAll s.data.toList (⟨#[0]⟩ : ByteArray).data.toList (⟨#[0, 255]⟩ : ByteArray).data.toList = esc s.data.toList := replaceAll_esc _
  rw [e] at c
  exact c

/-- A builder of the call's own that holds bytes. -/
def Bd (B b : Nat) (l : List UInt8) (w : World) : Prop := Lib.IsBuilder 56 5 B b (Lib.byteCells l) w

theorem bdWrite_any (B b : Nat) (l : List UInt8) (s : ByteArray) (w : World) (h : Bd B b l w) (hlen : l.length + s.size ≤ 140737488355328) (hBw : B ≤ w.heap.size) :
    Calls Tryd.prog 35 #[.pointer (some ⟨b, 0, none⟩), .string s] w fun e w' => e = .returned (.tuple #[.int .i64 s.size, .nilIface]) ∧ Bd B b (l ++ s.data.toList) w' ∧ Below B w w' := by
  have c := Any.Builder_WriteString { Tryd.lays154 with } Tryd.Builder_Extra_154 B b (Lib.byteCells l) s w h (by rw [Lib.byteCells_length]; exact hlen) hBw
  refine c.mono ?_
  rintro e w' ⟨rfl, h1, h2⟩
  refine ⟨rfl, Or.inr ?_, h2⟩
  rw [Lib.byteCells_append, ← Lib.strCells_eq]
  exact h1

theorem bdLen_any (B b : Nat) (l : List UInt8) (w : World) (h : Bd B b l w) :
    Calls Tryd.prog 34 #[.pointer (some ⟨b, 0, none⟩)] w fun e w' => e = .returned (.int .i64 (l.length : Int)) ∧ w' = w := by
  have c := Tryd.Builder_Len B b (Lib.byteCells l) w h
  rw [Lib.byteCells_length] at c
  exact c

theorem bdString_any (B b : Nat) (l : List UInt8) (w : World) (h : Bd B b l w) (hBw : B ≤ w.heap.size) :
    Calls Tryd.prog 36 #[.pointer (some ⟨b, 0, none⟩)] w fun e w' => e = .returned (.string (ba l)) ∧ Below B w w' :=
  Tryd.Builder_String_any B b l w h hBw

theorem bd_new (w : World) : Bd w.heap.size w.heap.size [] (w.alloc (.cells #[.pointer none, .slice none 0 0] 56)) := by
  refine Or.inl ⟨Nat.le_refl _, .slice none 0 0, ?_, ?_, ?_⟩
  · exact heap_alloc_new w _
  · exact ⟨rfl, Or.inl ⟨rfl, rfl⟩⟩
  · simp [Value.ownBlock]

set_option maxHeartbeats 800000 in
set_option maxRecDepth 100000 in
theorem kput_any (v : V) (w : World) (hf : kfit v = true) (ho : v.ok) (hm : ML w) :
    Calls Tryd.prog 33 #[v.val] w fun e w' => e = .returned (.string (ba (kv v))) ∧ Below w.heap.size w w' := by
  have h1 := ho.n0; have h2 := ho.n1
  have hm1 : ML (w.alloc (.cells #[.int .i64 v.k, .int .i64 v.n, .string v.s] 43)) := hm.kept (below_alloc1 _ _)
  rcases fit_cases hf with rfl | ⟨n, rfl, hn⟩ | ⟨n, rfl⟩ | ⟨s, rfl, hs⟩
  · have c := fun w => kOneByte_any 0 (by decide) w
    simp only [V.val]
    go_enter Tryd.func33, Tryd.ntmps33
    go_wp2_with fail
    refine (c _).mono ?_
    rintro e w1 ⟨rfl, hb1⟩
    have hc0 := hb1.cell (p := ⟨w.heap.size, 0, none⟩) (by simp)
    simp at hc0
    go_wp2_with fail
    go_ret
    exact ⟨rfl, below2 (below_alloc1 _ _) hb1⟩
  · have c1 := fun w => kOneByte_any 1 (by decide) w
    obtain ⟨m, rfl, hm'⟩ : ∃ m : Nat, n = (m : Int) ∧ m < 256 := ⟨n.toNat, by omega, by omega⟩
    have c2 := fun w => kOneByte_any m hm' w
    have ew : IntKind.u8.wrap (m : Int) = (m : Int) := by simp [IntKind.wrap, IntKind.signed, IntKind.bits]; omega
    have ew2 : (m : Int) % 256 = (m : Int) := by omega
    simp only [V.val]
    go_enter Tryd.func33, Tryd.ntmps33
    go_wp2_with fail
    refine (c1 _).mono ?_
    rintro e w1 ⟨rfl, hb1⟩
    have hc := hb1.cell (p := ⟨w.heap.size, 1, none⟩) (by simp)
    have hc0 := hb1.cell (p := ⟨w.heap.size, 0, none⟩) (by simp)
    simp at hc hc0
    go_wp2_with fail
    refine (c2 _).mono ?_
    rintro e w2 ⟨rfl, hb2⟩
    go_wp2_with fail
    go_ret
    refine ⟨?_, below3 (below_alloc1 _ _) hb1 hb2⟩
    simp only [ba_cat]
    rfl
  · have c1 := fun w => kOneByte_any 2 (by decide) w
    have c2 := fun w => kputInt_any n w h1 h2
    simp only [V.val]
    go_enter Tryd.func33, Tryd.ntmps33
    go_wp2_with fail
    refine (c1 _).mono ?_
    rintro e w1 ⟨rfl, hb1⟩
    have hc := hb1.cell (p := ⟨w.heap.size, 1, none⟩) (by simp)
    have hc0 := hb1.cell (p := ⟨w.heap.size, 0, none⟩) (by simp)
    simp at hc hc0
    go_wp2_with fail
    refine (c2 _).mono ?_
    rintro e w2 ⟨rfl, hb2⟩
    go_wp2_with fail
    go_ret
    refine ⟨?_, below3 (below_alloc1 _ _) hb1 hb2⟩
    simp only [ba_cat]
    rfl
  · have c1 := fun w => kOneByte_any 3 (by decide) w
    have c2 := fun w hm => escAll_any s w (by omega) hm
    have hl : (esc s.data.toList).length ≤ 4096 := by
      have := (esc_length s.data.toList).2
      have : s.data.toList.length = s.size := by simp
      omega
    obtain ⟨E, hE⟩ : ∃ E, E = ba (esc s.data.toList) := ⟨_, rfl⟩
    have hEs : E.size ≤ 4096 := by rw [hE, ba_size]; exact hl
    have h3 : (ba [3]).size = 1 := rfl
    have HE : Hid (E = ba (esc s.data.toList)) := hE
    simp only [← hE] at c2
    clear hE hl
    simp only [V.val]
    go_enter Tryd.func33, Tryd.ntmps33
    go_wp2_with fail
    refine (c1 _).mono ?_
    rintro e w1 ⟨rfl, hb1⟩
    have hc := hb1.cell (p := ⟨w.heap.size, 2, none⟩) (by simp)
    have hc0 := hb1.cell (p := ⟨w.heap.size, 0, none⟩) (by simp)
    simp at hc hc0
    go_wp2_with fail
    refine (c2 _ (hm1.kept hb1)).mono ?_
    rintro e w2 ⟨rfl, hb2⟩
    go_wp2_with fail
    go_ret
    refine ⟨?_, below3 (below_alloc1 _ _) hb1 hb2⟩
    rw [HE.out, show (⟨#[0, 1]⟩ : ByteArray) = ba [0, 1] from rfl]
    simp only [ba_cat]
    rfl

end Go.Proofs.YtijpnlomfodihaaDoor
