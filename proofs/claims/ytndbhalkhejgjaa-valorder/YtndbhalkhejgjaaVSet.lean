/- The contract of val.Set. -/
import Derived.Test.YtndbhalkhejgjaaVList
import Derived.OwnWalk
import Derived.Laws.Cover1
namespace Go.Proofs.Ytndbhalkhejgjaa
open Go.RowKit

theorem Try.info62 : (Try.prog.info? 62).map (fun i => (i.zero, i.size, i.bytes)) = some (some (.agg #[.string ⟨#[]⟩, .int .i64 0, .int .i64 0, .string ⟨#[]⟩]), 4, 48) := by kernel_rfl

/-- The cells of properties, one behind the other. -/
def cellsL : List Pr → List Value
  | [] => []
  | p :: l => p.cells ++ cellsL l

theorem cellsL_append (a b : List Pr) : cellsL (a ++ b) = cellsL a ++ cellsL b := by
  induction a with
  | nil => rfl
  | cons p a ih => simp [cellsL, ih]

theorem cellsL_length (a : List Pr) : (cellsL a).length = a.length * 4 := by
  induction a with
  | nil => rfl
  | cons p a ih => simp [cellsL, ih, Pr.cells]; omega

theorem cellsL_one (p : Pr) : cellsL [p] = p.cells := by simp [cellsL]

theorem cells_one (p : Pr) : ∀ u ∈ p.cells, u.oneCell' = true := by
  intro u hu
  simp [Pr.cells] at hu
  rcases hu with rfl | rfl | rfl | rfl <;> rfl

theorem cellsL_get (L : List Pr) (i j : Nat) (p : Pr) (h : L[i]? = some p) (hj : j < 4) : (cellsL L)[i * 4 + j]? = p.cells[j]? := by
  induction L generalizing i with
  | nil => simp at h
  | cons q L ih =>
    cases i with
    | zero =>
      simp at h
      subst h
      simp only [cellsL, Nat.zero_mul, Nat.zero_add]
      rw [List.getElem?_append_left (by simp [Pr.cells]; omega)]
    | succ i =>
      simp at h
      simp only [cellsL]
      rw [List.getElem?_append_right (by simp [Pr.cells]; omega), ← ih i h]
      congr 1
      simp [Pr.cells]
      omega

theorem owns_below {w w' : World} {base e size : Nat} {v : Value} {n : Nat} {xs : List Value} (h : w.ownsRow base e size v n xs) (hb : Below w.heap.size w w') : w'.ownsRow base e size v n xs := by
  obtain ⟨h1, h2⟩ := h
  refine ⟨h1, ?_⟩
  rcases h2 with h2 | ⟨g, cap, cur, hv, hg, hh, r⟩
  · exact Or.inl h2
  · refine Or.inr ⟨g, cap, cur, hv, hg, ?_, r⟩
    have hlt : g < w.heap.size := (Array.getElem?_eq_some_iff.1 hh).1
    rw [hb.block g hlt]
    exact hh

/-- Properties that the call owns can be read. -/
theorem owns_rd {w : World} {base g cap : Nat} {L : List Pr} (h : w.ownsRow base 62 4 (.slice (some ⟨g, 0, none⟩) L.length cap) L.length (cellsL L)) : Rd w g 0 L := by
  intro i p hp
  have hc := h.cells (g := g) rfl
  have hat : ∀ j, j < 4 → ∀ u, p.cells[j]? = some u → w.cell? ⟨g, 0 + i * 4 + j, none⟩ = some u := by
    intro j hj u hu
    have := hc (i * 4 + j) u (by rw [cellsL_get L i j p hp hj]; exact hu)
    rw [Addr.add_lit] at this
    rw [Nat.add_assoc]
    exact this
  exact ⟨hat 0 (by omega) _ rfl, hat 1 (by omega) _ rfl, hat 2 (by omega) _ rfl, hat 3 (by omega) _ rfl⟩

theorem new4 (w : World) (p : Pr) (t : TypeId) (j : Nat) (u : Value) (h : p.cells[j]? = some u) : (w.alloc (.cells #[.string p.name, .int .i64 p.v.k, .int .i64 p.v.n, .string p.v.s] t)).cell? ((⟨w.heap.size, 0, none⟩ : Addr).add j) = some u := by
  match j, h with
  | 0, h => simp [Pr.cells] at h; subst h; simp [Addr.add]
  | 1, h => simp [Pr.cells] at h; subst h; simp [Addr.add]
  | 2, h => simp [Pr.cells] at h; subst h; simp [Addr.add]
  | 3, h => simp [Pr.cells] at h; subst h; simp [Addr.add]
  | j + 4, h => simp [Pr.cells] at h

theorem B4.block {w w' : World} {b : Nat} {x0 x1 x2 x3 : Value} (h : B4 w b x0 x1 x2 x3) (e : w'.heap[b]? = w.heap[b]?) : B4 w' b x0 x1 x2 x3 := by
  have hc : ∀ j, w'.cell? ⟨b, j, none⟩ = w.cell? ⟨b, j, none⟩ := fun j => World.cell?_of_block (w := w) e
  have hf : ∀ j, w'.frozen? ⟨b, j, none⟩ = w.frozen? ⟨b, j, none⟩ := fun j => World.frozen?_of_block (w := w) e
  exact ⟨(hc 0).trans h.c0, (hc 1).trans h.c1, (hc 2).trans h.c2, (hc 3).trans h.c3, (hf 0).trans h.f0, (hf 1).trans h.f1, (hf 2).trans h.f2, (hf 3).trans h.f3⟩

theorem B4.grown {w w' : World} {b g : Nat} {x0 x1 x2 x3 : Value} (h : B4 w b x0 x1 x2 x3) (hg : w.grownBy w' (some g)) (hlt : b < w.heap.size) (hne : b ≠ g) : B4 w' b x0 x1 x2 x3 :=
  h.block (hg.block b hlt (by simpa using hne))

theorem own_push4 {w1 : World} {base g cap : Nat} {A : List Pr} {p : Pr}
    (h : w1.ownsRow base 62 4 (.slice (some ⟨g, 0, none⟩) (A.length + 1) cap) (A.length + 1) (cellsL A ++ p.cells)) :
    w1.ownsRow base 62 4 (.slice (some ⟨g, 0, none⟩) (A ++ [p]).length cap) (A ++ [p]).length (cellsL (A ++ [p])) := by
  rw [cellsL_append, cellsL_one]
  simpa using h

/-- What stands while Set goes over a list: the row that it owns, the property to be set (at block sb). -/
structure SetAt (w wr : World) (box : Obj) (sb : Nat) (set : Pr) (n : Nat) (A : List Pr) : Prop where
  own : wr.ownsRow (w.heap.size + 1) 62 4 (.slice (some ⟨w.heap.size + 1, 0, none⟩) A.length (n + 1)) A.length (cellsL A)
  bel : Below (w.heap.size + 1) (w.alloc box) wr
  at4 : B4 wr sb (.string set.name) (.int .i64 set.v.k) (.int .i64 set.v.n) (.string set.v.s)
  lt : sb < wr.heap.size
  ne : w.heap.size + 1 < sb

theorem SetAt.alloc {w wr : World} {box : Obj} {sb : Nat} {set : Pr} {n : Nat} {A : List Pr} (h : SetAt w wr box sb set n A) (o : Obj) : SetAt w (wr.alloc o) box sb set n A :=
  ⟨h.own.alloc o, h.bel.alloc (by have := h.lt; have := h.ne; omega) o, h.at4.kept (below_alloc1 wr o) h.lt, by simp; have := h.lt; omega, h.ne⟩

theorem SetAt.below {w wr w2 : World} {box : Obj} {sb : Nat} {set : Pr} {n : Nat} {A : List Pr} (h : SetAt w wr box sb set n A) (hb : Below wr.heap.size wr w2) : SetAt w w2 box sb set n A :=
  ⟨owns_below h.own hb, h.bel.trans (hb.mono (by have := h.lt; have := h.ne; omega)), h.at4.kept hb h.lt, by have := h.lt; have := hb.size; omega, h.ne⟩

theorem SetAt.push {w wr w1 : World} {box o : Obj} {sb : Nat} {set p : Pr} {n : Nat} {A : List Pr} (h : SetAt w wr box sb set n A) (hg : (wr.alloc o).grownBy w1 (some (w.heap.size + 1)))
    (ho : w1.ownsRow (w.heap.size + 1) 62 4 (.slice (some ⟨w.heap.size + 1, 0, none⟩) (A.length + 1) (n + 1)) (A.length + 1) (cellsL A ++ p.cells)) : SetAt w w1 box sb set n (A ++ [p]) :=
  ⟨own_push4 ho, (h.alloc o).bel.grown hg (by have := (h.alloc o).lt; have := h.ne; omega) (fun k hk => by cases hk; exact Nat.le_refl _), (h.alloc o).at4.grown hg (h.alloc o).lt (by have := h.ne; omega), by have := (h.alloc o).lt; have := hg.size; omega, h.ne⟩

theorem SetAt.root {w wr : World} {box : Obj} {sb : Nat} {set : Pr} {n : Nat} {A : List Pr} (h : SetAt w wr box sb set n A) : Below w.heap.size w wr := (below_alloc1 w box).trans (h.bel.mono (by omega))

theorem owns_base {w : World} {base base' e size : Nat} {v : Value} {n : Nat} {xs : List Value} (h : w.ownsRow base e size v n xs) (hb : base' ≤ base) : w.ownsRow base' e size v n xs := by
  obtain ⟨h1, h2⟩ := h
  refine ⟨h1, ?_⟩
  rcases h2 with h2 | ⟨g, cap, cur, hv, hg, r⟩
  · exact Or.inl h2
  · exact Or.inr ⟨g, cap, cur, hv, by omega, r⟩

theorem snoc_app (A : List Pr) (p : Pr) (l R : List Pr) (h : A ++ p :: l = R) : (A ++ [p]) ++ l = R := by
  rw [← h]
  simp

theorem own_len {w : World} {o : Obj} {base g cap : Nat} {A : List Pr} {p : Pr} (h : w.ownsRow base 62 4 (.slice (some ⟨g, 0, none⟩) (A ++ [p]).length cap) (A ++ [p]).length (cellsL (A ++ [p]))) :
    (w.alloc o).ownsRow base 62 4 (.slice (some ⟨g, 0, none⟩) (A.length + 1) cap) (A.length + 1) (cellsL (A ++ [p])) := by
  have h2 := h.alloc o
  simpa using h2

theorem own_len2 {w : World} {base g cap : Nat} {A : List Pr} {p q : Pr} (h : w.ownsRow base 62 4 (.slice (some ⟨g, 0, none⟩) (A.length + 1 + 1) cap) (A.length + 1 + 1) (cellsL (A ++ [p]) ++ q.cells)) :
    w.ownsRow base 62 4 (.slice (some ⟨g, 0, none⟩) ((A ++ [p]).length + 1) cap) ((A ++ [p]).length + 1) (cellsL (A ++ [p]) ++ q.cells) := by
  simpa using h

theorem setGo_eq (set p : Pr) (l : List Pr) (pl : Bool) (h : p.name = set.name) : setGo set (p :: l) pl = setGo set l pl := by
  rw [setGo, if_pos h]

theorem setGo_at (set p : Pr) (l : List Pr) (h : p.name ≠ set.name) (hl : ltS set.name p.name = true) : setGo set (p :: l) false = set :: p :: setGo set l true := by
  rw [setGo, if_neg h, hl]
  rfl

theorem setGo_no (set p : Pr) (l : List Pr) (h : p.name ≠ set.name) (hl : ltS set.name p.name = false) : setGo set (p :: l) false = p :: setGo set l false := by
  rw [setGo, if_neg h, hl]
  rfl

theorem setGo_on (set p : Pr) (l : List Pr) (h : p.name ≠ set.name) : setGo set (p :: l) true = p :: setGo set l true := by
  rw [setGo, if_neg h]
  rfl

set_option maxHeartbeats 1600000 in
set_option maxRecDepth 100000 in
theorem set_some (L : List Pr) (name : ByteArray) (v : V) (b off cap : Nat) (w : World) (hS : ∀ p ∈ L, smallP p) (hv : v.s.size ≤ 281474976710656) (hnm : name.size ≤ 281474976710656) (hb : b < w.heap.size) (hr : Rd w b off L) (hlen : L.length ≤ 1000000) :
    Calls Try.prog 33 #[.slice (some ⟨b, off, none⟩) L.length cap, .string name, v.val] w fun e w' => ∃ g, e = .returned (.slice (some ⟨g, 0, none⟩) (setL L name v).length (L.length + 1)) ∧
      w'.ownsRow w.heap.size 62 4 (.slice (some ⟨g, 0, none⟩) (setL L name v).length (L.length + 1)) (setL L name v).length (cellsL (setL L name v)) ∧ Below w.heap.size w w' := by
  obtain ⟨i0, hi, hz0, hz1, hz2⟩ := info_parts Try.info62
  have HS : Hid (∀ p ∈ L, smallP p) := hS
  have hcs := fun w => copied_any ⟨name, v⟩ w hnm hv
  have HX : Hid (setGo ⟨name, v⟩ L (v.k == 0) = setL L name v) := rfl
  clear hS hnm hv
  generalize setL L name v = R at *
  obtain ⟨vk, vn, vs⟩ := v
  simp only [V.val, Pr.val] at *
  go_enter Try.func33, Try.ntmps33
  go_wp2_with (at_make; refine wpList_make_own _ rfl _ _ 37 rfl (w.heap.size + 1) 62 i0 (.agg #[.string ⟨#[]⟩, .int .i64 0, .int .i64 0, .string ⟨#[]⟩]) 4 Try.underlying37 hi hz0 hz1 _ _ _ (L.length + 1) rfl rfl (by omega) ?b2 ?b3 ?b4 ?_)
  case b2 => rw [hz2]; omega
  case b3 => unfold maxLen; omega
  case b4 => simp
  intro w0 hown0 hgrow0
  have hb0 : Below (w.heap.size + 1) (w.alloc (.cells #[.int .i64 vk, .int .i64 vn, .string vs] 23)) w0 := (Below.refl _ _).grown hgrow0 (by simp) (fun k hk => by cases hk)
  have b0 := hb0.cell (p := ⟨w.heap.size, 0, none⟩) (by simp)
  have b1 := hb0.cell (p := ⟨w.heap.size, 1, none⟩) (by simp)
  have b2 := hb0.cell (p := ⟨w.heap.size, 2, none⟩) (by simp)
  simp at b0 b1 b2
  have hz : w.heap.size + 1 < w0.heap.size := (hown0.lt (w.heap.size + 1) rfl).2
  have hz' : w.heap.size < w0.heap.size := by omega
  go_wp2_with fail
  go_loopw [7, 9, 24] (fun so sp si wr => ∃ (k : Nat) (A : List Pr) (pl : Bool), k ≤ L.length ∧ si = .int .i64 (k : Int) ∧ sp = .bool pl ∧ so = .slice (some ⟨w.heap.size + 1, 0, none⟩) A.length (L.length + 1) ∧
      SetAt w wr (.cells #[.int .i64 vk, .int .i64 vn, .string vs] 23) w0.heap.size ⟨name, ⟨vk, vn, vs⟩⟩ L.length A ∧ A.length ≤ k + 1 ∧ Hid (pl = false → A.length ≤ k) ∧ Hid (A ++ setGo ⟨name, ⟨vk, vn, vs⟩⟩ (L.drop k) pl = R))
    (fun _ _ si _ => L.length - (intOf si).toNat)
  case atStart =>
    refine ⟨0, [], (vk == 0), Nat.zero_le _, rfl, rfl, rfl, ⟨hown0.alloc _, hb0.alloc (by omega) _, B4.new w0 _ _ _ _ _ rfl, by simp, by omega⟩, by simp, ?_, ?_⟩
    · exact fun _ => Nat.zero_le _
    · exact HX.out
  case round =>
    obtain ⟨k, A, pl, hk, rfl, rfl, rfl, hat, hA1, HA2, HR⟩ := hrel
    clear b0 b1 b2 hb0 hgrow0 hown0 hz hz'
    by_cases hlt : k < L.length
    · obtain ⟨e0, e1, e2, e3⟩ := (hr.kept hat.root hb) k L[k] (by simp [hlt])
      have hsm := HS.out L[k] (List.getElem_mem hlt)
      have HR2 : Hid (A ++ setGo ⟨name, ⟨vk, vn, vs⟩⟩ (L[k] :: L.drop (k + 1)) pl = R) := by rw [← drop_cons_l L k hlt]; exact HR
      clear HR
      generalize L[k] = q at *
      have hcp := fun w => copied_any q w hsm.1 hsm.2
      obtain ⟨m, kk, n, s⟩ := q
      simp only [Pr.val] at *
      clear hsm
      by_cases hm : m = name
      · subst hm
        have HR3 : Hid (A ++ setGo ⟨m, ⟨vk, vn, vs⟩⟩ (L.drop (k + 1)) pl = R) := by rw [← HR2.out, setGo_eq ⟨m, ⟨vk, vn, vs⟩⟩ ⟨m, ⟨kk, n, s⟩⟩ _ _ rfl]; rfl
        clear HR2
        go_wp2_with fail
        go_roundw
        case rel => exact ⟨k + 1, A, pl, by omega, by go_num, rfl, rfl, hat.alloc _, by omega, (fun h => by have := HA2.out h; omega), HR3⟩
        case measure => simp [intOf]; omega
      · have hm' := list_ne hm
        have hat1 := hat.alloc (.cells #[.string m, .int .i64 kk, .int .i64 n, .string s] 62)
        cases pl with
        | true =>
          have HR3 : Hid (A ++ ⟨m, ⟨kk, n, s⟩⟩ :: setGo ⟨name, ⟨vk, vn, vs⟩⟩ (L.drop (k + 1)) true = R) := by rw [← HR2.out, setGo_on _ _ _ hm]; rfl
          clear HR2 hm
          go_wp2_with fail
          refine (hcp _).mono ?_
          rintro e w2 ⟨rfl, hb2⟩
          have hat2 := hat1.below hb2
          go_wp2_with (at_builtin; refine wpList_append_fits _ rfl (.tmp 45) (.tmp 48) 37 rfl (w.heap.size + 1) 62 i0 4 Try.underlying37 hi hz1 (w.heap.size + 1) A.length (L.length + 1) _ rfl (hat2.own.alloc _) ⟨w2.heap.size, 0, none⟩ 1 1 (Pr.cells ⟨m, ⟨kk, n, s⟩⟩) rfl rfl (fun j u h => new4 w2 ⟨m, ⟨kk, n, s⟩⟩ 62 j u h) (cells_one _) (by omega) ?_; intro w3 hown3 hgrow3)
          go_roundw
          case rel => exact ⟨k + 1, A ++ [⟨m, ⟨kk, n, s⟩⟩], true, by omega, by go_num, rfl, by simp, hat2.push hgrow3 hown3, by simp; omega, (fun h => by cases h), snoc_app _ _ _ _ HR3.out⟩
          case measure => simp [intOf]; omega
        | false =>
          have hA3 := HA2.out rfl
          cases hg : ltS name m with
          | true =>
            have HR3 : Hid (A ++ ⟨name, ⟨vk, vn, vs⟩⟩ :: ⟨m, ⟨kk, n, s⟩⟩ :: setGo ⟨name, ⟨vk, vn, vs⟩⟩ (L.drop (k + 1)) true = R) := by rw [← HR2.out, setGo_at _ _ _ hm hg]; rfl
            have hgt : Op.bytesLess m.toList name.toList = false := ltS_asymm hg
            clear HR2 hm hg
            have hq1 : B4 (wr.alloc (.cells #[.string m, .int .i64 kk, .int .i64 n, .string s] 62)) wr.heap.size (.string m) (.int .i64 kk) (.int .i64 n) (.string s) := B4.new wr _ _ _ _ _ rfl
            have ha4 := hat1.at4
            obtain ⟨a0, a1, a2, a3, _, _, _, _⟩ := ha4
            go_wp2_with fail
            refine (hcs _).mono ?_
            rintro e w2 ⟨rfl, hb2⟩
            have hat2 := hat1.below hb2
            have hq2 := hq1.kept hb2 (by simp)
            have hlt2 : wr.heap.size < w2.heap.size := by have := hb2.size; simp at this; omega
            have hne2 : wr.heap.size ≠ w.heap.size + 1 := by have := hat.lt; have := hat.ne; omega
            clear a0 a1 a2 a3
            go_wp2_with (at_builtin; refine wpList_append_fits _ rfl (.tmp 40) (.tmp 43) 37 rfl (w.heap.size + 1) 62 i0 4 Try.underlying37 hi hz1 (w.heap.size + 1) A.length (L.length + 1) _ rfl (hat2.own.alloc _) ⟨w2.heap.size, 0, none⟩ 1 1 (Pr.cells ⟨name, ⟨vk, vn, vs⟩⟩) rfl rfl (fun j u h => new4 w2 ⟨name, ⟨vk, vn, vs⟩⟩ 62 j u h) (cells_one _) (by first | omega | (simp; omega)) ?_; intro w3 hown3 hgrow3; have hat3 := hat2.push (p := ⟨name, ⟨vk, vn, vs⟩⟩) hgrow3 hown3; have hq3 := (hq2.kept (below_alloc1 w2 (.cells #[.string name, .int .i64 vk, .int .i64 vn, .string vs] 62)) hlt2).grown hgrow3 (by simp; omega) hne2; obtain ⟨a0, a1, a2, a3, _, _, _, _⟩ := hq3)
            refine (hcp _).mono ?_
            rintro e w4 ⟨rfl, hb4⟩
            have hat4 := hat3.below hb4
            clear a0 a1 a2 a3
            go_wp2_with (at_builtin; refine wpList_append_fits _ rfl (.tmp 45) (.tmp 48) 37 rfl (w.heap.size + 1) 62 i0 4 Try.underlying37 hi hz1 (w.heap.size + 1) (A.length + 1) (L.length + 1) _ rfl (own_len hat4.own) ⟨w4.heap.size, 0, none⟩ 1 1 (Pr.cells ⟨m, ⟨kk, n, s⟩⟩) rfl rfl (fun j u h => new4 w4 ⟨m, ⟨kk, n, s⟩⟩ 62 j u h) (cells_one _) (by first | omega | (simp; omega)) ?_; intro w5 hown5 hgrow5)
            go_roundw
            case rel => exact ⟨k + 1, (A ++ [⟨name, ⟨vk, vn, vs⟩⟩]) ++ [⟨m, ⟨kk, n, s⟩⟩], true, by omega, by go_num, rfl, by simp, hat4.push hgrow5 (own_len2 hown5), by simp; omega, (fun h => by cases h), snoc_app _ _ _ _ (snoc_app _ _ _ _ HR3.out)⟩
            case measure => simp [intOf]; omega
          | false =>
            have HR3 : Hid (A ++ ⟨m, ⟨kk, n, s⟩⟩ :: setGo ⟨name, ⟨vk, vn, vs⟩⟩ (L.drop (k + 1)) false = R) := by rw [← HR2.out, setGo_no _ _ _ hm hg]; rfl
            have hgt : Op.bytesLess m.toList name.toList = true := by
              cases h : Op.bytesLess m.toList name.toList with
              | true => rfl
              | false => exact absurd (ltS_total (a := m) (b := name) h hg) hm
            clear HR2 hm hg
            go_wp2_with fail
            refine (hcp _).mono ?_
            rintro e w2 ⟨rfl, hb2⟩
            have hat2 := hat1.below hb2
            go_wp2_with (at_builtin; refine wpList_append_fits _ rfl (.tmp 45) (.tmp 48) 37 rfl (w.heap.size + 1) 62 i0 4 Try.underlying37 hi hz1 (w.heap.size + 1) A.length (L.length + 1) _ rfl (hat2.own.alloc _) ⟨w2.heap.size, 0, none⟩ 1 1 (Pr.cells ⟨m, ⟨kk, n, s⟩⟩) rfl rfl (fun j u h => new4 w2 ⟨m, ⟨kk, n, s⟩⟩ 62 j u h) (cells_one _) (by first | omega | (simp; omega)) ?_; intro w3 hown3 hgrow3)
            go_roundw
            case rel => exact ⟨k + 1, A ++ [⟨m, ⟨kk, n, s⟩⟩], false, by omega, by go_num, rfl, by simp, hat2.push hgrow3 hown3, by simp; omega, (fun _ => by simp; omega), snoc_app _ _ _ _ HR3.out⟩
            case measure => simp [intOf]; omega
    · have HR3 : Hid (A ++ (if pl then [] else [⟨name, ⟨vk, vn, vs⟩⟩]) = R) := by rw [← HR.out, List.drop_of_length_le (by omega)]; rfl
      clear HR
      cases pl with
      | true =>
        have HR4 : Hid (A = R) := by rw [← HR3.out]; simp [Hid]
        clear HR3
        go_wp2_with fail
        go_ret
        have e := HR4.out
        subst e
        exact ⟨_, rfl, owns_base hat.own (by omega), hat.root⟩
      | false =>
        have hA3 := HA2.out rfl
        have HR4 : Hid (A ++ [⟨name, ⟨vk, vn, vs⟩⟩] = R) := by rw [← HR3.out]; rfl
        clear HR3
        obtain ⟨a0, a1, a2, a3, _, _, _, _⟩ := hat.at4
        go_wp2_with fail
        refine (hcs _).mono ?_
        rintro e w2 ⟨rfl, hb2⟩
        have hat2 := hat.below hb2
        clear a0 a1 a2 a3
        go_wp2_with (at_builtin; refine wpList_append_fits _ rfl (.tmp 53) (.tmp 56) 37 rfl (w.heap.size + 1) 62 i0 4 Try.underlying37 hi hz1 (w.heap.size + 1) A.length (L.length + 1) _ rfl (hat2.own.alloc _) ⟨w2.heap.size, 0, none⟩ 1 1 (Pr.cells ⟨name, ⟨vk, vn, vs⟩⟩) rfl rfl (fun j u h => new4 w2 ⟨name, ⟨vk, vn, vs⟩⟩ 62 j u h) (cells_one _) (by first | omega | (simp; omega)) ?_; intro w3 hown3 hgrow3)
        go_ret
        have hat3 := hat2.push (p := ⟨name, ⟨vk, vn, vs⟩⟩) hgrow3 hown3
        have e := HR4.out
        subst e
        exact ⟨_, by simp, owns_base hat3.own (by omega), hat3.root⟩

end Go.Proofs.Ytndbhalkhejgjaa
