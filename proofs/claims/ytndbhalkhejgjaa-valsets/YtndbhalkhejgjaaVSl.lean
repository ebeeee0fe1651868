/- Get and Set of any list, also an empty one: the program's and the document's. -/
import Derived.Test.YtndbhalkhejgjaaVRefSet2
namespace Go.Proofs.Ytndbhalkhejgjaa
open Go.RowKit

theorem new4' {w : World} {p : Pr} {t : TypeId} {H : Nat} (hH : w.heap.size = H) : ∀ j u, p.cells[j]? = some u → (w.alloc (.cells #[.string p.name, .int .i64 p.v.k, .int .i64 p.v.n, .string p.v.s] t)).cell? ((⟨H, 0, none⟩ : Addr).add j) = some u := by
  subst hH
  exact new4 w p t

set_option maxHeartbeats 400000 in
set_option maxRecDepth 100000 in
theorem get_none (a : Option Addr) (cap : Nat) (name : ByteArray) (w : World) :
    Calls Try.prog 31 #[.slice a 0 cap, .string name] w fun e w' => e = .returned (.tuple #[.agg #[.int .i64 0, .int .i64 0, .string ⟨#[]⟩], .bool false]) ∧ Below w.heap.size w w' := by
  go_enter Try.func31, Try.ntmps31
  go_wp2_with fail
  refine wp_loop_rounds 1 ?_
  rw [rounds_succ]
  go_wp2_with fail
  exact bodyPost_ret (v := .tuple #[.agg #[.int .i64 0, .int .i64 0, .string ⟨#[]⟩], .bool false]) (by simp [results, Try.results31, go_sem]) rfl ⟨rfl, below_alloc1 _ _⟩

theorem vget_any (L : List Pr) (a : Option Addr) (cap : Nat) (name : ByteArray) (w : World) (h : Sl w a L) (hS : ∀ p ∈ L, smallP p) (hlen : L.length ≤ 281474976710656) :
    Calls Try.prog 31 #[.slice a L.length cap, .string name] w fun e w' => e = .returned (.tuple #[(getL L name).1.val, .bool (getL L name).2]) ∧ Below w.heap.size w w' := by
  rcases h with rfl | ⟨b, off, rfl, hb, hr⟩
  · exact get_none a cap name w
  · exact get_some L name b off cap w hS hb hr hlen

set_option maxHeartbeats 400000 in
set_option maxRecDepth 100000 in
theorem refGet_none (a : Option Addr) (cap : Nat) (name : ByteArray) (w : World) :
    Calls Try.prog 32 #[.slice a 0 cap, .string name] w fun e w' => e = .returned (.agg #[.int .i64 0, .int .i64 0, .string ⟨#[]⟩, .bool false]) ∧ Below w.heap.size w w' := by
  go_enter Try.func32, Try.ntmps32
  go_wp2_with fail
  refine wp_loop_rounds 1 ?_
  rw [rounds_succ]
  go_wp2_with fail
  exact bodyPost_ret (v := .agg #[.int .i64 0, .int .i64 0, .string ⟨#[]⟩, .bool false]) (by simp [results, Try.results32, go_sem]) rfl ⟨rfl, below_alloc1 _ _⟩

theorem vrefGet_any (L : List Pr) (a : Option Addr) (cap : Nat) (name : ByteArray) (w : World) (h : Sl w a L) (hlen : L.length ≤ 281474976710656) :
    Calls Try.prog 32 #[.slice a L.length cap, .string name] w fun e w' => e = .returned (.agg #[.int .i64 (getL L name).1.k, .int .i64 (getL L name).1.n, .string (getL L name).1.s, .bool (getL L name).2]) ∧ Below w.heap.size w w' := by
  rcases h with rfl | ⟨b, off, rfl, hb, hr⟩
  · exact refGet_none a cap name w
  · exact refGet_some L name b off cap w hb hr hlen

set_option maxHeartbeats 800000 in
set_option maxRecDepth 100000 in
theorem set_none (a : Option Addr) (cap : Nat) (name : ByteArray) (v : V) (w : World) (hv : v.s.size ≤ 281474976710656) (hnm : name.size ≤ 281474976710656) :
    Calls Try.prog 33 #[.slice a 0 cap, .string name, v.val] w fun e w' => ∃ x, e = .returned x ∧ w'.ownsRow w.heap.size 62 4 x (setL [] name v).length (cellsL (setL [] name v)) ∧ Below w.heap.size w w' := by
  obtain ⟨i0, hi, hz0, hz1, hz2⟩ := info_parts Try.info62
  have hcs := fun w => copied_any ⟨name, v⟩ w hnm hv
  clear hnm hv
  obtain ⟨vk, vn, vs⟩ := v
  simp only [V.val, Pr.val] at *
  by_cases hk : vk = 0
  · subst hk
    rw [show setL [] name ⟨0, vn, vs⟩ = [] from rfl]
    go_enter Try.func33, Try.ntmps33
    go_wp2_with (at_make; refine wpList_make_own _ rfl _ _ 37 rfl (w.heap.size + 1) 62 i0 (.agg #[.string ⟨#[]⟩, .int .i64 0, .int .i64 0, .string ⟨#[]⟩]) 4 Try.underlying37 hi hz0 hz1 _ _ _ 1 rfl rfl (by omega) ?b2 ?b3 ?b4 ?_)
    case b2 => rw [hz2]; omega
    case b3 => unfold maxLen; omega
    case b4 => simp
    intro w0 hown0 hgrow0
    have hb0 : Below (w.heap.size + 1) (w.alloc (.cells #[.int .i64 0, .int .i64 vn, .string vs] 23)) w0 := (Below.refl _ _).grown hgrow0 (by simp) (fun k hk => by cases hk)
    have b0 := hb0.cell (p := ⟨w.heap.size, 0, none⟩) (by simp)
    have b1 := hb0.cell (p := ⟨w.heap.size, 1, none⟩) (by simp)
    have b2 := hb0.cell (p := ⟨w.heap.size, 2, none⟩) (by simp)
    simp at b0 b1 b2
    have hz : w.heap.size + 1 < w0.heap.size := (hown0.lt (w.heap.size + 1) rfl).2
    have hz' : w.heap.size < w0.heap.size := by omega
    go_wp2_with fail
    refine wp_loop_rounds 1 ?_
    rw [rounds_succ]
    go_wp2_with fail
    go_ret
    exact ⟨_, rfl, owns_base (hown0.alloc _) (by omega), below2 ((below_alloc1 w _).trans (hb0.mono (by omega))) (below_alloc1 _ _)⟩
  · rw [show setL [] name ⟨vk, vn, vs⟩ = [⟨name, ⟨vk, vn, vs⟩⟩] by simp [setL, setGo, hk]]
    have hk' := ne_beq hk
    clear hk
    go_enter Try.func33, Try.ntmps33
    go_wp2_with (at_make; refine wpList_make_own _ rfl _ _ 37 rfl (w.heap.size + 1) 62 i0 (.agg #[.string ⟨#[]⟩, .int .i64 0, .int .i64 0, .string ⟨#[]⟩]) 4 Try.underlying37 hi hz0 hz1 _ _ _ 1 rfl rfl (by omega) ?b2 ?b3 ?b4 ?_)
    case b2 => rw [hz2]; omega
    case b3 => unfold maxLen; omega
    case b4 => simp
    intro w0 hown0 hgrow0
    have hb0 : Below (w.heap.size + 1) (w.alloc (.cells #[.int .i64 vk, .int .i64 vn, .string vs] 23)) w0 := (Below.refl _ _).grown hgrow0 (by simp) (fun k hk => by cases hk)
    have b0 := hb0.cell (p := ⟨w.heap.size, 0, none⟩) (by simp)
    have b1 := hb0.cell (p := ⟨w.heap.size, 1, none⟩) (by simp)
    have b2 := hb0.cell (p := ⟨w.heap.size, 2, none⟩) (by simp)
    simp at b0 b1 b2
    have hz : w.heap.size + 1 < w0.heap.size := (hown0.lt (w.heap.size + 1) rfl).2
    have hz' : w.heap.size < w0.heap.size := by omega
    have hat : SetAt w (w0.alloc (.cells #[.string name, .int .i64 vk, .int .i64 vn, .string vs] 62)) (.cells #[.int .i64 vk, .int .i64 vn, .string vs] 23) w0.heap.size ⟨name, ⟨vk, vn, vs⟩⟩ 0 [] := ⟨hown0.alloc _, hb0.alloc (by omega) _, B4.new w0 _ _ _ _ _ rfl, by simp, by omega⟩
    go_wp2_with fail
    refine wp_loop_rounds 1 ?_
    rw [rounds_succ]
    obtain ⟨a0, a1, a2, a3, _, _, _, _⟩ := hat.at4
    go_wp2_with fail
    refine (hcs _).mono ?_
    rintro e w2 ⟨rfl, hb2⟩
    have hat2 := hat.below hb2
    clear a0 a1 a2 a3
    go_wp2_with (at_builtin; refine wpList_append_fits _ rfl (.tmp 53) (.tmp 56) 37 rfl (w.heap.size + 1) 62 i0 4 Try.underlying37 hi hz1 (w.heap.size + 1) 0 1 _ rfl (hat2.own.alloc _) ⟨w2.heap.size, 0, none⟩ 1 1 (Pr.cells ⟨name, ⟨vk, vn, vs⟩⟩) rfl rfl (fun j u h => new4 w2 ⟨name, ⟨vk, vn, vs⟩⟩ 62 j u h) (cells_one _) (by omega) ?_; intro w3 hown3 hgrow3)
    go_ret
    have hat3 := hat2.push (p := ⟨name, ⟨vk, vn, vs⟩⟩) hgrow3 hown3
    exact ⟨_, rfl, owns_base hat3.own (by omega), hat3.root⟩

theorem vset_any (L : List Pr) (a : Option Addr) (cap : Nat) (name : ByteArray) (v : V) (w : World) (h : Sl w a L) (hS : ∀ p ∈ L, smallP p) (hv : v.s.size ≤ 281474976710656) (hnm : name.size ≤ 281474976710656) (hlen : L.length ≤ 1000000) :
    Calls Try.prog 33 #[.slice a L.length cap, .string name, v.val] w fun e w' => ∃ a' cap', e = .returned (.slice a' (setL L name v).length cap') ∧ Sl w' a' (setL L name v) ∧ Below w.heap.size w w' := by
  rcases h with rfl | ⟨b, off, rfl, hb, hr⟩
  · refine (set_none a cap name v w hv hnm).mono ?_
    rintro e w' ⟨x, rfl, ho, hb⟩
    obtain ⟨a', c', rfl, hs⟩ := owns_sl ho
    exact ⟨a', c', rfl, hs, hb⟩
  · refine (set_some L name v b off cap w hS hv hnm hb hr hlen).mono ?_
    rintro e w' ⟨g, rfl, ho, hb⟩
    obtain ⟨a', c', he, hs⟩ := owns_sl ho
    exact ⟨a', c', by rw [he], hs, hb⟩

set_option maxHeartbeats 800000 in
set_option maxRecDepth 100000 in
theorem refSet_none (a : Option Addr) (cap : Nat) (name : ByteArray) (v : V) (w : World) :
    Calls Try.prog 34 #[.slice a 0 cap, .string name, v.val] w fun e w' => ∃ x, e = .returned x ∧ w'.ownsRow w.heap.size 62 4 x (setL [] name v).length (cellsL (setL [] name v)) ∧ Below w.heap.size w w' := by
  obtain ⟨i0, hi, hz0, hz1, hz2⟩ := info_parts Try.info62
  obtain ⟨vk, vn, vs⟩ := v
  simp only [V.val] at *
  have hat : RefAt w (w.alloc (.cells #[.int .i64 vk, .int .i64 vn, .string vs] 23)) (.cells #[.int .i64 vk, .int .i64 vn, .string vs] 23) (.slice none 0 0) [] := ⟨World.ownsRow_nil _ _ _ _, Below.refl _ _, by simp⟩
  by_cases hk : vk = 0
  · subst hk
    rw [show setL [] name ⟨0, vn, vs⟩ = [] from rfl]
    go_enter Try.func34, Try.ntmps34
    go_wp2_with fail
    refine wp_loop_rounds 1 ?_
    rw [rounds_succ]
    go_wp2_with fail
    go_ret
    exact ⟨_, rfl, owns_base hat.own (by omega), hat.root⟩
  · rw [show setL [] name ⟨vk, vn, vs⟩ = [⟨name, ⟨vk, vn, vs⟩⟩] by simp [setL, setGo, hk]]
    have hk' := ne_beq hk
    clear hk
    go_enter Try.func34, Try.ntmps34
    go_wp2_with fail
    refine wp_loop_rounds 1 ?_
    rw [rounds_succ]
    go_wp2_with (at_builtin; refine wpList_append_own _ rfl (.tmp 52) (.tmp 56) 37 rfl (w.heap.size + 1) 62 i0 (.agg #[.string ⟨#[]⟩, .int .i64 0, .int .i64 0, .string ⟨#[]⟩]) 4 48 Try.underlying37 hi hz0 hz1 hz2 rfl (by decide) _ 0 [] rfl (hat.own.alloc _) ⟨w.heap.size + 1, 0, none⟩ 1 1 (Pr.cells ⟨name, ⟨vk, vn, vs⟩⟩) rfl rfl (new4' (by simp)) (cells_one _) (by unfold maxLen; omega) (by omega) (by simp) ?_; intro v3 w3 hown3 hgrow3 hnil3)
    go_ret
    have hat3 := hat.push (p := ⟨name, ⟨vk, vn, vs⟩⟩) hgrow3 hown3
    exact ⟨_, rfl, owns_base hat3.own (by omega), hat3.root⟩

theorem vrefSet_any (L : List Pr) (a : Option Addr) (cap : Nat) (name : ByteArray) (v : V) (w : World) (h : Sl w a L) (hlen : L.length ≤ 1000000) :
    Calls Try.prog 34 #[.slice a L.length cap, .string name, v.val] w fun e w' => ∃ a' cap', e = .returned (.slice a' (setL L name v).length cap') ∧ Sl w' a' (setL L name v) ∧ Below w.heap.size w w' := by
  have fin : ∀ (W : World) (x : Value), W.ownsRow w.heap.size 62 4 x (setL L name v).length (cellsL (setL L name v)) → Below w.heap.size w W → ∃ a' cap', Ending.returned x = .returned (.slice a' (setL L name v).length cap') ∧ Sl W a' (setL L name v) ∧ Below w.heap.size w W := by
    intro W x ho hb
    obtain ⟨a', c', rfl, hs⟩ := owns_sl ho
    exact ⟨a', c', rfl, hs, hb⟩
  rcases h with rfl | ⟨b, off, rfl, hb, hr⟩
  · refine (refSet_none a cap name v w).mono ?_
    rintro e w' ⟨x, rfl, ho, hb⟩
    exact fin w' x ho hb
  · refine (refSet_some L name v b off cap w hb hr hlen).mono ?_
    rintro e w' ⟨x, rfl, ho, hb⟩
    exact fin w' x ho hb

end Go.Proofs.Ytndbhalkhejgjaa
