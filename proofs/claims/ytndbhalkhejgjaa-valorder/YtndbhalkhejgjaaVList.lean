/- Lists of properties: plain mathematics and how they lie in memory. -/
import Derived.Test.YtndbhalkhejgjaaVRef
import Derived.Test.YtndbhalkhejgjaaVDecBase
namespace Go.Proofs.Ytndbhalkhejgjaa
open Go.RowKit

/-- Properties that lie one behind the other. -/
def Rd (w : World) (b off : Nat) (L : List Pr) : Prop := ∀ i p, L[i]? = some p →
  w.cell? ⟨b, off + i * 4, none⟩ = some (.string p.name) ∧ w.cell? ⟨b, off + i * 4 + 1, none⟩ = some (.int .i64 p.v.k) ∧
  w.cell? ⟨b, off + i * 4 + 2, none⟩ = some (.int .i64 p.v.n) ∧ w.cell? ⟨b, off + i * 4 + 3, none⟩ = some (.string p.v.s)

theorem Rd.kept {w w' : World} {B b off : Nat} {L : List Pr} (h : Rd w b off L) (hb : Below B w w') (hB : b < B) : Rd w' b off L := by
  intro i p hp
  obtain ⟨h0, h1, h2, h3⟩ := h i p hp
  exact ⟨(hb.cell (p := ⟨b, _, none⟩) hB).trans h0, (hb.cell (p := ⟨b, _, none⟩) hB).trans h1, (hb.cell (p := ⟨b, _, none⟩) hB).trans h2, (hb.cell (p := ⟨b, _, none⟩) hB).trans h3⟩

/-- The value of the first one of a name. -/
def getL : List Pr → ByteArray → V × Bool
  | [], _ => (noV, false)
  | p :: l, name => if p.name = name then (p.v, true) else getL l name

/-- A list with one property set. -/
def setGo (set : Pr) : List Pr → Bool → List Pr
  | [], placed => if placed then [] else [set]
  | p :: l, placed => if p.name = set.name then setGo set l placed else if !placed && ltS set.name p.name then set :: p :: setGo set l true else p :: setGo set l placed

def setL (l : List Pr) (name : ByteArray) (v : V) : List Pr := setGo ⟨name, v⟩ l (decide (v.k = 0))

/-- Four cells of one block, none of them frozen. -/
structure B4 (w : World) (b : Nat) (x0 x1 x2 x3 : Value) : Prop where
  c0 : w.cell? ⟨b, 0, none⟩ = some x0
  c1 : w.cell? ⟨b, 1, none⟩ = some x1
  c2 : w.cell? ⟨b, 2, none⟩ = some x2
  c3 : w.cell? ⟨b, 3, none⟩ = some x3
  f0 : w.frozen? ⟨b, 0, none⟩ = false
  f1 : w.frozen? ⟨b, 1, none⟩ = false
  f2 : w.frozen? ⟨b, 2, none⟩ = false
  f3 : w.frozen? ⟨b, 3, none⟩ = false

theorem B4.new (w : World) (x0 x1 x2 x3 : Value) (t : TypeId) {H : Nat} (hH : w.heap.size = H) : B4 (w.alloc (.cells #[x0, x1, x2, x3] t)) H x0 x1 x2 x3 := by
  subst hH
  refine ⟨?_, ?_, ?_, ?_, ?_, ?_, ?_, ?_⟩ <;> simp

theorem B4.kept {w w' : World} {B b : Nat} {x0 x1 x2 x3 : Value} (h : B4 w b x0 x1 x2 x3) (hb : Below B w w') (hB : b < B) : B4 w' b x0 x1 x2 x3 :=
  ⟨(hb.cell (p := ⟨b, 0, none⟩) hB).trans h.c0, (hb.cell (p := ⟨b, 1, none⟩) hB).trans h.c1, (hb.cell (p := ⟨b, 2, none⟩) hB).trans h.c2, (hb.cell (p := ⟨b, 3, none⟩) hB).trans h.c3,
    (hb.frozen (p := ⟨b, 0, none⟩) hB).trans h.f0, (hb.frozen (p := ⟨b, 1, none⟩) hB).trans h.f1, (hb.frozen (p := ⟨b, 2, none⟩) hB).trans h.f2, (hb.frozen (p := ⟨b, 3, none⟩) hB).trans h.f3⟩

theorem B4.far {w : World} {b g i : Nat} {u x0 x1 x2 x3 : Value} (h : B4 w b x0 x1 x2 x3) (hn : g ≠ b) : B4 (w.setCell ⟨g, i, none⟩ u) b x0 x1 x2 x3 := by
  have hc : ∀ j, (w.setCell ⟨g, i, none⟩ u).cell? ⟨b, j, none⟩ = w.cell? ⟨b, j, none⟩ := fun j => World.cell?_setCell_far w ⟨g, i, none⟩ ⟨b, j, none⟩ u hn
  have hf : ∀ j, (w.setCell ⟨g, i, none⟩ u).frozen? ⟨b, j, none⟩ = w.frozen? ⟨b, j, none⟩ := fun j => by simp
  exact ⟨(hc 0).trans h.c0, (hc 1).trans h.c1, (hc 2).trans h.c2, (hc 3).trans h.c3, (hf 0).trans h.f0, (hf 1).trans h.f1, (hf 2).trans h.f2, (hf 3).trans h.f3⟩

theorem B4.set0 {w : World} {b : Nat} {u x0 x1 x2 x3 : Value} (h : B4 w b x0 x1 x2 x3) : B4 (w.setCell ⟨b, 0, none⟩ u) b u x1 x2 x3 := by
  have hf : ∀ j, (w.setCell ⟨b, 0, none⟩ u).frozen? ⟨b, j, none⟩ = w.frozen? ⟨b, j, none⟩ := fun j => by simp
  exact ⟨World.cell?_setCell_same _ _ _ h.c0, (set_off w b 0 1 u (by decide)).trans h.c1, (set_off w b 0 2 u (by decide)).trans h.c2, (set_off w b 0 3 u (by decide)).trans h.c3, (hf 0).trans h.f0, (hf 1).trans h.f1, (hf 2).trans h.f2, (hf 3).trans h.f3⟩

theorem below_copy {w w1 w2 : World} {o1 o2 : Obj} {x y a b c d : Value} {b0 b1 : Addr} (h0 : b0.block = w.heap.size) (h1 : b1.block = w.heap.size)
    (hb1 : Below ((w.alloc o1).alloc o2).heap.size ((w.alloc o1).alloc o2) w1) (hb2 : Below (w1.setCell b0 x).heap.size (w1.setCell b0 x) w2) :
    Below w.heap.size w (((((w2.setCell b1 y).setCell ⟨w.heap.size + 1, 0, none⟩ a).setCell ⟨w.heap.size + 1, 1, none⟩ b).setCell ⟨w.heap.size + 1, 2, none⟩ c).setCell ⟨w.heap.size + 1, 3, none⟩ d) := by
  have k1 : Below w.heap.size w w1 := below2 (below_two w o1 o2) hb1
  have k2 : Below w.heap.size w (w1.setCell b0 x) := k1.setCell (by omega) x
  have k3 : Below w.heap.size w w2 := k2.trans (hb2.mono k2.size)
  exact ((((k3.setCell (by omega) y).setCell (by simp) a).setCell (by simp) b).setCell (by simp) c).setCell (by simp) d

set_option maxHeartbeats 400000 in
set_option maxRecDepth 100000 in
theorem copied_any (p : Pr) (w : World) (h1 : p.name.size ≤ 281474976710656) (h2 : p.v.s.size ≤ 281474976710656) :
    Calls Try.prog 54 #[p.val] w fun e w' => e = .returned p.val ∧ Below w.heap.size w w' := by
  obtain ⟨m, k, n, s⟩ := p
  simp only [Pr.val] at *
  have c1 := fun w => clone_any m w h1
  have c2 := fun w => clone_any s w h2
  clear h1 h2
  go_enter Try.func54, Try.ntmps54
  go_wp2_with fail
  refine (c1 _).mono ?_
  rintro e w1 ⟨rfl, hb1⟩
  have hz1 : w.heap.size + 1 < w1.heap.size := by have := hb1.size; simp at this; omega
  have hA : B4 w1 w.heap.size (.string m) (.int .i64 k) (.int .i64 n) (.string s) := ((B4.new w _ _ _ _ _ rfl).kept (below_alloc1 _ _) (by simp)).kept hb1 (by simp; omega)
  have hD : B4 w1 (w.heap.size + 1) (.string ⟨#[]⟩) (.int .i64 0) (.int .i64 0) (.string ⟨#[]⟩) := (B4.new (w.alloc _) _ _ _ _ _ (by simp)).kept hb1 (by simp)
  have hA2 : B4 (w1.setCell ⟨w.heap.size, 0, none⟩ (.string m)) w.heap.size (.string m) (.int .i64 k) (.int .i64 n) (.string s) := hA.set0
  have hD2 : B4 (w1.setCell ⟨w.heap.size, 0, none⟩ (.string m)) (w.heap.size + 1) (.string ⟨#[]⟩) (.int .i64 0) (.int .i64 0) (.string ⟨#[]⟩) := hD.far (by simp)
  obtain ⟨a0, a1, a2, a3, g0, g1, g2, g3⟩ := hA
  clear hD
  go_wp2_with fail
  refine (c2 _).mono ?_
  rintro e w2 ⟨rfl, hb2⟩
  have hA3 := hA2.kept hb2 (by simp [World.setCell]; omega)
  have hD3 := hD2.kept hb2 (by simp [World.setCell]; omega)
  clear a0 a1 a2 a3 g0 g1 g2 g3 hA2 hD2
  obtain ⟨a0, a1, a2, a3, g0, g1, g2, g3⟩ := hA3
  obtain ⟨d0, d1, d2, d3, j0, j1, j2, j3⟩ := hD3
  go_wp2_with fail
  exact bodyPost_ret (v := .agg #[.string m, .int .i64 k, .int .i64 n, .string s]) (by simp [results, Try.results54, go_sem, d0, d1, d2, d3]) rfl ⟨rfl, below_copy rfl rfl hb1 hb2⟩

theorem drop_cons_l (L : List Pr) (k : Nat) (h : k < L.length) : L.drop k = L[k] :: L.drop (k + 1) := List.drop_eq_getElem_cons h

theorem below_get {w wr w1 : World} {z o : Obj} (h : Below (w.heap.size + 1) (w.alloc z) wr) (h1 : Below (wr.alloc o).heap.size (wr.alloc o) w1) (a b c : Value) :
    Below w.heap.size w (((w1.setCell ⟨w.heap.size, 0, none⟩ a).setCell ⟨w.heap.size, 1, none⟩ b).setCell ⟨w.heap.size, 2, none⟩ c) := by
  have k1 : Below w.heap.size w wr := (below_alloc1 w z).trans (h.mono (by omega))
  have k2 : Below w.heap.size w w1 := below3 k1 (below_alloc1 wr o) h1
  exact ((k2.setCell (p := ⟨w.heap.size, 0, none⟩) (Nat.le_refl _) a).setCell (p := ⟨w.heap.size, 1, none⟩) (Nat.le_refl _) b).setCell (p := ⟨w.heap.size, 2, none⟩) (Nat.le_refl _) c

theorem run_field (m : ByteArray) (k n : Int) (s : ByteArray) (W : World) : (Instr.field 62 (.agg #[.string m, .int .i64 k, .int .i64 n, .string s]) 1).run Try.prog W = .ok (.agg #[.int .i64 k, .int .i64 n, .string s]) W := by
  kernel_rfl

/-- Texts that a copy can hold. -/
def smallP (p : Pr) : Prop := p.name.size ≤ 281474976710656 ∧ p.v.s.size ≤ 281474976710656

set_option maxHeartbeats 800000 in
set_option maxRecDepth 100000 in
theorem get_some (L : List Pr) (name : ByteArray) (b off cap : Nat) (w : World) (hS : ∀ p ∈ L, smallP p) (hb : b < w.heap.size) (hr : Rd w b off L) (hlen : L.length ≤ 281474976710656) :
    Calls Try.prog 31 #[.slice (some ⟨b, off, none⟩) L.length cap, .string name] w fun e w' => e = .returned (.tuple #[(getL L name).1.val, .bool (getL L name).2]) ∧ Below w.heap.size w w' := by
  have HS : Hid (∀ p ∈ L, smallP p) := hS
  clear hS
  go_enter Try.func31, Try.ntmps31
  go_wp2_with fail
  go_loopw [10] (fun si wr => ∃ k : Nat, k ≤ L.length ∧ si = .int .i64 (k : Int) ∧ Hid (getL (L.drop k) name = getL L name) ∧ Below (w.heap.size + 1) (w.alloc (.cells #[.int .i64 0, .int .i64 0, .string ⟨#[]⟩] 23)) wr) (fun si _ => L.length - (intOf si).toNat)
  case atStart => exact ⟨0, Nat.zero_le _, rfl, rfl, Below.refl _ _⟩
  case round =>
    obtain ⟨k, hk, rfl, HL, hbl⟩ := hrel
    have hz : w.heap.size < wr.heap.size := by have := hbl.size; simp at this; omega
    have k0 := hbl.cell (p := ⟨w.heap.size, 0, none⟩) (by simp)
    have k1 := hbl.cell (p := ⟨w.heap.size, 1, none⟩) (by simp)
    have k2 := hbl.cell (p := ⟨w.heap.size, 2, none⟩) (by simp)
    have z0 := hbl.frozen (p := ⟨w.heap.size, 0, none⟩) (by simp)
    have z1 := hbl.frozen (p := ⟨w.heap.size, 1, none⟩) (by simp)
    have z2 := hbl.frozen (p := ⟨w.heap.size, 2, none⟩) (by simp)
    simp at k0 k1 k2 z0 z1 z2
    by_cases hlt : k < L.length
    · have hb1 : Below w.heap.size w wr := (below_alloc1 w _).trans (hbl.mono (by omega))
      obtain ⟨e0, e1, e2, e3⟩ := (hr.kept hb1 hb) k L[k] (by simp [hlt])
      have hsm := HS.out L[k] (List.getElem_mem hlt)
      have hd := drop_cons_l L k hlt
      have HL2 : Hid ((if L[k].name = name then (L[k].v, true) else getL (L.drop (k + 1)) name) = getL L name) := by rw [← HL.out, hd]; rfl
      clear hd
      generalize L[k] = q at *
      have hcp := fun w => copied_any q w hsm.1 hsm.2
      obtain ⟨m, kk, n, s⟩ := q
      simp only [Pr.val] at *
      have hfld := fun W => run_field m kk n s W
      clear hsm HL
      by_cases hm : m = name
      · subst hm
        have HL3 : Hid (getL L m = (⟨kk, n, s⟩, true)) := by rw [← HL2.out, if_pos rfl]; rfl
        clear HL2
        go_wp2_with fail
        refine (hcp _).mono ?_
        rintro e w1 ⟨rfl, hb2⟩
        obtain ⟨kc, kf⟩ := bcell hb2
        have hz2 : w.heap.size < (wr.alloc (.cells #[.string m, .int .i64 kk, .int .i64 n, .string s] 62)).heap.size := by simp; omega
        have k0' := kc _ 0 hz2
        have k1' := kc _ 1 hz2
        have k2' := kc _ 2 hz2
        have z0' := kf _ 0 hz2
        have z1' := kf _ 1 hz2
        have z2' := kf _ 2 hz2
        rw [alloc_cell hz] at k0' k1' k2'
        rw [(below_alloc1 wr _).frozen (p := ⟨w.heap.size, _, none⟩) hz] at z0' z1' z2'
        rw [k0] at k0'
        rw [k1] at k1'
        rw [k2] at k2'
        rw [z0] at z0'
        rw [z1] at z1'
        rw [z2] at z2'
        clear kc kf k0 k1 k2 z0 z1 z2 e0 e1 e2 e3 hcp
        go_wp2_with fail
        exact bodyPost_ret (v := .tuple #[.agg #[.int .i64 kk, .int .i64 n, .string s], .bool true]) (by simp [results, Try.results31, go_sem, k0', k1', k2']) rfl ⟨by rw [HL3.out]; rfl, below_get hbl hb2 _ _ _⟩
      · have hm' := list_ne hm
        have HL3 : Hid (getL (L.drop (k + 1)) name = getL L name) := by rw [← HL2.out, if_neg hm]; rfl
        clear HL2 hm
        go_wp2_with fail
        go_roundw
        case rel => exact ⟨k + 1, by omega, by go_num, HL3, hbl.alloc (by omega) _⟩
        case measure => simp [intOf]; omega
    · have HL3 : Hid (getL L name = (noV, false)) := by rw [← HL.out, List.drop_of_length_le (by omega)]; rfl
      clear HL
      go_wp2_with fail
      refine bodyPost_ret (v := .tuple #[.agg #[.int .i64 0, .int .i64 0, .string ⟨#[]⟩], .bool false]) (by simp [results, Try.results31, go_sem, k0, k1, k2]) rfl ⟨by rw [HL3.out]; rfl, ?_⟩
      have k3 : Below w.heap.size w wr := (below_alloc1 w _).trans (hbl.mono (by omega))
      exact ((k3.setCell (p := ⟨w.heap.size, 0, none⟩) (Nat.le_refl _) _).setCell (p := ⟨w.heap.size, 1, none⟩) (Nat.le_refl _) _).setCell (p := ⟨w.heap.size, 2, none⟩) (Nat.le_refl _) _

end Go.Proofs.Ytndbhalkhejgjaa
