/- The laws' arguments: steps; fair; Put, Delete, Get at any id. -/
import Derived.Test.YtkjioabhdglkpaaGreatWAll
namespace Go.Proofs.YtkjioabhdglkpaaGreat
open Go.RowKit Go.ChangeShapes Go.WideShapes Go.ChangeAt Go.Deep
open Go.ChangeMaps (open_string shut_string)

theorem cellsStep9 : Tryz.prog.cellsOf 36 = 3 := by kernel_rfl

/-- A step. -/
structure Wp1 where
  kind : Int
  id : Int
  text : ByteArray
structure Wp1.ok (s : Wp1) : Prop where
  kB : i64B s.kind
  iB : i64B s.id
  tB : s.text.size ≤ maxLen
def Wp1.cells (s : Wp1) : List Value := [.int .i64 s.kind, .int .i64 s.id, .string s.text]

section
variable {H : Type} {enc : TypeId × Value → H} {W : World} {base : Nat}
set_option maxRecDepth 100000 in
theorem trod_step9 {fuel : Nat} {cs : List Value} {x : DataW H × List MemPlace} (h : DataW.trod enc Tryz.prog W 0 (fun _ => true) true fuel 36 cs = some x) : ∃ s : Wp1, cs = s.cells ∧ s.ok := by
  obtain ⟨y0, y1, y2, n, _, hl, h0, h1, h2⟩ := trod_struct3 Tryz.underlying36 h
  rw [cellsStep9] at hl
  match cs, hl with
  | [a, b, c], _ =>
    obtain ⟨k, e0, _, w0⟩ := DataW.trod_int (t := 3) Tryz.underlying3 h0
    have hc64 : Tryz.prog.cellsOf 2 = 1 := by kernel_rfl
    obtain ⟨k1, e1, _, w1⟩ := DataW.trod_int (t := 2) Tryz.underlying2 h1
    obtain ⟨k2, e2, w2⟩ := trod_str h2
    simp [Tryz.cellsInt, Tryz.cellsStr, hc64] at e0 e1 e2
    subst e0 e1 e2
    exact ⟨⟨k, k1, k2⟩, rfl, bounds_i64 w0, bounds_i64 w1, w2⟩

set_option maxRecDepth 100000 in
theorem open_steps9 {v : Value} {d : DataW H} {ps : List MemPlace} (hv : Value.okWide Tryz.prog W .any base 22 v) (h : DataW.Trod enc Tryz.prog W 0 (fun _ => true) true 22 v d ps) :
    ∃ (a : Option Addr) (L : List Wp1) (cap : Nat), v = .slice a L.length cap ∧ SlG W a 3 Wp1.cells L ∧ L.length ≤ cap ∧ cap ≤ maxLen ∧ ∀ s ∈ L, s.ok := by
  obtain ⟨a0, len, cap, rfl⟩ := okWide_slice Tryz.underlying22 hv
  obtain ⟨fuel, hf⟩ := h
  obtain ⟨a, L, c, hcs, r1, _, r3, r4, r5⟩ := trod_list (α := Wp1) ⟨0, 0, ⟨#[]⟩⟩ 22 36 3 Tryz.underlying22 cellsStep9 (by decide) Wp1.cells Wp1.ok (fun _ => rfl) (fun fuel cs x h => trod_step9 h) hf
  simp [Value.cells] at hcs
  obtain ⟨rfl, rfl, rfl⟩ := hcs
  exact ⟨_, _, _, rfl, r1, r3, r4, r5⟩
end

/-- The end of a region whose last call answers with a number. -/
def EndX (A : Int → Act) (R : Int → World → Prop) : Exit → Act → World → Prop
  | .normal, a, V => ∃ X, a = A X ∧ R X V
  | _, _, _ => False
theorem wp_endX {P : Program} {c : Code} {Q : Exit → Act → World → Prop} {act : Act} {w : World} (A : Int → Act) (R : Int → World → Prop) (h : c.wp P (EndX A R) act w) (hk : ∀ X V, R X V → Q .normal (A X) V) : c.wp P Q act w := by
  refine Code.wp_mono (fun e a V h => ?_) h
  cases e with
  | normal => obtain ⟨X, rfl, r⟩ := h; exact hk X V r
  | _ => exact (h : False).elim
theorem EndX.mk {A : Int → Act} {R : Int → World → Prop} {V : World} {X : Int} (h : R X V) : EndX A R .normal (A X) V := ⟨X, rfl, h⟩

def fair9 (L : List Wp1) : Bool := decide (L.length ≤ 60) && L.all (fun s => decide (s.text.size ≤ 6000))

set_option maxHeartbeats 800000 in
set_option maxRecDepth 100000 in
theorem fair9_any (a0 : Option Addr) (L : List Wp1) (c : Nat) (w : World) (hL : SlG w a0 3 Wp1.cells L) (hlen : L.length ≤ maxLen) :
    Calls Tryz.prog 10 #[.slice a0 L.length c] w fun e w' => e = .returned (.bool (fair9 L)) ∧ w' = w := by
  have hlen2 : L.length ≤ 9223372036854775807 := by unfold maxLen at hlen; omega
  go_enter Tryz.func10, Tryz.ntmps10
  go_wp2_with fail
  go_loopw [3] (fun si wr => ∃ i : Nat, i ≤ L.length ∧ si = .int .i64 (i : Int) ∧ Hid (wr = w) ∧ Hid (∀ s ∈ L.take i, s.text.size ≤ 6000)) (fun si _ => L.length - (Go.RowKit.intOf si).toNat)
  case atStart => exact ⟨0, Nat.zero_le _, rfl, rfl, fun s hs => by simp at hs⟩
  case round =>
    obtain ⟨i, hi, rfl, hwr, hall⟩ := hrel
    rw [hwr.out]
    clear hwr
    by_cases hlt : i < L.length
    · have hlt2 : (i : Int) < (L.length : Int) := by omega
      have hx : L[i]? = some L[i] := by simp [hlt]
      generalize L[i] = s at hx
      rcases hL with hL | ⟨b, off, rfl, hlb, hcell⟩
      · rw [hL] at hlt; simp at hlt
      have r2 : w.cell? ⟨b, off + i * 3 + 2, none⟩ = some (.string s.text) := hcell i s hx 2 _ rfl
      clear hcell
      by_cases hr : s.text.size ≤ 6000
      · have hr2 : decide ((6000 : Int) < (s.text.size : Int)) = false := by simp; omega
        have HA : Hid (∀ s ∈ L.take (i + 1), s.text.size ≤ 6000) := fun t ht => by
          rw [List.take_add_one, hx] at ht
          rcases List.mem_append.1 ht with q | q
          · exact hall.out t q
          · simp at q; rw [q]; exact hr
        clear hr hx
        go_wp2_with fail
        go_roundw
        case rel => exact ⟨i + 1, by omega, by go_num, True.intro, HA⟩
        case measure => simp [Go.RowKit.intOf]; omega
      · have hr2 : decide ((6000 : Int) < (s.text.size : Int)) = true := by simp; omega
        have hf : fair9 L = false := by
          unfold fair9
          rw [Bool.and_eq_false_iff]
          refine Or.inr ?_
          rw [List.all_eq_false]
          exact ⟨s, List.mem_of_getElem? hx, by simpa using hr⟩
        have HB := (show Hid _ from hf)
        clear hr hx hf
        go_wp2_with fail
        go_ret
        exact ⟨by rw [HB.out]; rfl, rfl⟩
    · obtain rfl : i = L.length := by omega
      rw [List.take_length] at hall
      have hf : fair9 L = decide ((L.length : Int) ≤ 60) := by
        unfold fair9
        have : L.all (fun s => decide (s.text.size ≤ 6000)) = true := by
          rw [List.all_eq_true]
          exact fun s hs => by simpa using hall.out s hs
        rw [this, Bool.and_true]
        simp
        omega
      have HB := (show Hid _ from hf)
      clear hf
      go_wp2_with fail
      go_ret
      exact ⟨by rw [HB.out]; rfl, rfl⟩
theorem fair9_of {L : List Wp1} (h : fair9 L = true) : L.length ≤ 60 ∧ ∀ s ∈ L, s.text.size ≤ 6000 := by
  unfold fair9 at h
  rw [Bool.and_eq_true, List.all_eq_true] at h
  exact ⟨by simpa using h.1, fun s hs => by simpa using h.2 s hs⟩

section
variable {W w w' : World} {rb hb p g bd n m : Nat} {rs : List Ro} {G : Nat → Prop}
theorem Rz.mono {c : Nat} (h : Rz W w rb hb p g bd n m rs G) (hc : bd ≤ c) : Rz W w rb hb p g c n m rs G := by
  obtain ⟨mb, wa, wc, vf, H, r, q⟩ := h.ex
  exact ⟨mb, wa, wc, vf, H, r.mono hc, q⟩
theorem Rz'.mono {c : Nat} (h : Rz' W w w' rb hb p g bd n m rs G) (hc : bd ≤ c) : Rz' W w w' rb hb p g c n m rs G := ⟨h.rz.mono hc, h.keep⟩
theorem Rz.refl (h : Rz W w rb hb p g bd n m rs G) : Rz' W w w rb hb p g bd n m rs G := ⟨h, Keep.refl _ _⟩

theorem putRo_len (x : Ro) : ∀ rs : List Ro, (putRo rs x).length ≤ rs.length + 1
  | [] => by simp [putRo]
  | y :: rs => by
    have := putRo_len x rs
    unfold putRo
    split
    · simp
    · split
      · simp
      · simp; omega

/-- What Put has done at any id. -/
structure PutR (n : Nat) (rs : List Ro) (i : Int) (text : ByteArray) (X : Int) (rs' : List Ro) : Prop where
  out : (X = 1 ∧ (i < 1 ∨ 4611686018427387903 < i) ∧ rs' = rs) ∨ (X = 2 ∧ 1 ≤ i ∧ i ≤ 4611686018427387903 ∧ 4000 < text.size ∧ rs' = rs) ∨ (1 ≤ i ∧ i ≤ 4611686018427387903 ∧ text.size ≤ 4000 ∧ ((X = 50 ∧ n ≤ pieN rs + cntN text.size ∧ rs' = rs) ∨ (X = 0 ∧ ∃ ks, Rok ⟨i.toNat, text, ks⟩ ∧ rs' = putRo rs ⟨i.toNat, text, ks⟩)))
theorem PutR.len {i X : Int} {text : ByteArray} {rs' : List Ro} (h : PutR n rs i text X rs') : rs'.length ≤ rs.length + 1 := by
  rcases h.out with ⟨_, _, rfl⟩ | ⟨_, _, _, _, rfl⟩ | ⟨_, _, _, ⟨_, _, rfl⟩ | ⟨_, ks, _, rfl⟩⟩
  · omega
  · omega
  · omega
  · exact putRo_len _ _
theorem PutR.kept {i X : Int} {text : ByteArray} {rs' : List Ro} (h : PutR n rs i text X rs') (hr : Rise rs) {x : Ro} (hx : x ∈ rs) (hne : (x.id : Int) ≠ i) : x ∈ rs' := by
  rcases h.out with ⟨_, _, rfl⟩ | ⟨_, _, _, _, rfl⟩ | ⟨h1, _, _, ⟨_, _, rfl⟩ | ⟨_, ks, _, rfl⟩⟩
  · exact hx
  · exact hx
  · exact hx
  · exact (mem_putRo hr _ x).2 (Or.inr (mem_delRo.2 ⟨hx, by simp only; omega⟩))
theorem Rz.rise (h : Rz W w rb hb p g bd n m rs G) : Rise rs := by
  obtain ⟨mb, wa, wc, vf, H, r, q⟩ := h.ex
  exact r.rise
theorem Rz.rok (h : Rz W w rb hb p g bd n m rs G) : ∀ x ∈ rs, Rok x := by
  obtain ⟨mb, wa, wc, vf, H, r, q⟩ := h.ex
  exact r.ok

theorem roput_at (h : Rz W w rb hb p g bd n m rs G) (hbd : bd + 12 * (6 * n + 10) ≤ 5000000) (hm : 2 ≤ m) (hn : 1 ≤ n) (hlen : rs.length ≤ 4000) {i : Int} {text : ByteArray} :
    Calls Tryz.prog 12 #[.pointer (some ⟨rb, 0, none⟩), .int .i64 i, .string text] w fun e w' => ∃ X rs', e = .returned (.int .i64 X) ∧ Rz' W w w' rb hb p g (bd + 12 * (6 * n + 10) + 216) n m rs' G ∧ PutR n rs i text X rs' := by
  by_cases h1 : i < 1 ∨ 4611686018427387903 < i
  · refine (roput_arg rb i text w h1).mono ?_
    rintro e w' ⟨rfl, rfl⟩
    exact ⟨_, rs, rfl, h.refl.mono (by omega), ⟨Or.inl ⟨rfl, h1, rfl⟩⟩⟩
  have h2 : 1 ≤ i ∧ i ≤ 4611686018427387903 := by omega
  clear h1
  by_cases h3 : 4000 < text.size
  · refine (roput_long rb i text w h2.1 h2.2 h3).mono ?_
    rintro e w' ⟨rfl, rfl⟩
    exact ⟨_, rs, rfl, h.refl.mono (by omega), ⟨Or.inr (Or.inl ⟨rfl, h2.1, h2.2, h3, rfl⟩)⟩⟩
  have h4 : text.size ≤ 4000 := by omega
  obtain ⟨id, rfl⟩ : ∃ id : Nat, i = (id : Int) := ⟨i.toNat, by omega⟩
  have key : ∀ X w', Pput W w w' rb hb p g (bd + 12 * (6 * n + 10) + 216) n m rs G id text X → ∃ rs', Rz' W w w' rb hb p g (bd + 12 * (6 * n + 10) + 216) n m rs' G ∧ PutR n rs (id : Int) text X rs' := fun X w' q => by
    rcases q.out with ⟨a, ks, b, c⟩ | ⟨a, b, c⟩
    · exact ⟨_, c, ⟨Or.inr (Or.inr ⟨h2.1, h2.2, h4, Or.inr ⟨a, ks, b, rfl⟩⟩)⟩⟩
    · exact ⟨_, c, ⟨Or.inr (Or.inr ⟨h2.1, h2.2, h4, Or.inl ⟨a, b, rfl⟩⟩)⟩⟩
  by_cases hx : (id : Int) ∈ idsR rs
  · obtain ⟨y, hy, e⟩ := ids_mem.1 hx
    obtain rfl : y.id = id := by omega
    refine (roput_old h hbd hm hn hlen hy h4).mono ?_
    rintro e w' ⟨X, rfl, q⟩
    obtain ⟨rs', a, b⟩ := key X w' q
    exact ⟨X, rs', rfl, a, b⟩
  · refine (roput_new h hbd hm hn hlen (by omega) h4 hx).mono ?_
    rintro e w' ⟨X, rfl, q⟩
    obtain ⟨rs', a, b⟩ := key X w' q
    exact ⟨X, rs', rfl, a, b⟩

/-- What Delete has done at any id. -/
structure DelR (rs : List Ro) (i : Int) (X : Int) (rs' : List Ro) : Prop where
  out : (X = 60 ∧ i ∉ idsR rs ∧ rs' = rs) ∨ (X = 0 ∧ i ∈ idsR rs ∧ rs' = delRo rs i.toNat)
theorem DelR.len {i X : Int} {rs' : List Ro} (h : DelR rs i X rs') : rs'.length ≤ rs.length := by
  rcases h.out with ⟨_, _, rfl⟩ | ⟨_, _, rfl⟩
  · omega
  · exact List.length_filter_le _ _
theorem DelR.kept {i X : Int} {rs' : List Ro} (h : DelR rs i X rs') {x : Ro} (hx : x ∈ rs) (hne : (x.id : Int) ≠ i) : x ∈ rs' := by
  rcases h.out with ⟨_, _, rfl⟩ | ⟨_, h1, rfl⟩
  · exact hx
  · obtain ⟨y, hy, e⟩ := ids_mem.1 h1
    exact mem_delRo.2 ⟨hx, by omega⟩
theorem rodel_at (h : Rz W w rb hb p g bd n m rs G) (hbd : bd ≤ 5000000) (hm : 2 ≤ m) {i : Int} (hi : i64B i) :
    Calls Tryz.prog 15 #[.pointer (some ⟨rb, 0, none⟩), .int .i64 i] w fun e w' => ∃ X rs', e = .returned (.int .i64 X) ∧ Rz' W w w' rb hb p g (bd + 108) n m rs' G ∧ DelR rs i X rs' := by
  by_cases hx : i ∈ idsR rs
  · obtain ⟨y, hy, rfl⟩ := ids_mem.1 hx
    refine (rodel_yes h hbd hm hy).mono ?_
    rintro e w' ⟨rfl, q⟩
    exact ⟨_, _, rfl, q, ⟨Or.inr ⟨rfl, hx, by simp⟩⟩⟩
  · refine (rodel_no h hbd hm hi hx).mono ?_
    rintro e w' ⟨rfl, q⟩
    exact ⟨_, _, rfl, q.mono (by omega), ⟨Or.inl ⟨rfl, hx, rfl⟩⟩⟩
theorem Rz.get (h : Rz W w rb hb p g bd n m rs G) (hbd : bd ≤ 5000000) (hm : 1 ≤ m) {x : Ro} (hx : x ∈ rs) :
    Calls Tryz.prog 28 #[.pointer (some ⟨rb, 0, none⟩), .int .i64 (x.id : Int)] w fun e w' => e = .returned (.tuple #[.string x.text, .int .i64 0]) ∧ Rz' W w w' rb hb p g (bd + 36) n m rs G := by
  obtain ⟨mb, wa, wc, vf, H, r, q⟩ := h.ex
  refine (roget_yes r hbd hm q hx).mono ?_
  rintro e w' ⟨rfl, z⟩
  exact ⟨rfl, ⟨mb, wa, wc, vf, H, z.rm, q⟩, z.keep⟩
theorem Rz.drew (h : Rz W w rb hb p g bd n m rs G) : Rz W w.drew rb hb p g bd n m rs G := h.below (below_drew w)
end
end Go.Proofs.YtkjioabhdglkpaaGreat
