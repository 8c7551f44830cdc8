/-
  The device's Read and Write: what each answers, and what it leaves.
-/
import Derived.Test.YtopaeomjndblkaaGreatDvArr
namespace Go.Proofs.YtopaeomjndblkaaGreat.Dv
open Go.RowKit Go.Maps

set_option maxHeartbeats 400000 in
theorem read_none (w : World) (v : Value) (k : Int) (h : NoDev w v) : Calls Tryz.prog 83 #[v, .int .i64 k] w fun e w' => e = .returned (.tuple #[.slice none 0 0, .int .i64 1]) ∧ w' = w := by
  go_enter Tryz.func83, Tryz.ntmps83
  go_wp2_with (go_at_call 182; refine (reach_none _ _ _ h).mono ?_; rintro e w ⟨rfl, rfl⟩)
  go_ret2
  exact ⟨rfl, rfl⟩

set_option maxHeartbeats 400000 in
theorem read_err {w : World} {p bs bo : Nat} {n a : Int} {dn : Bool} {S O : Tab} (h : Dev w p bs bo n a dn S O) (k : Int) (hr : reached n k dn ≠ 0) :
    Calls Tryz.prog 83 #[.pointer (some ⟨p, 0, none⟩), .int .i64 k] w fun e w' => e = .returned (.tuple #[.slice none 0 0, .int .i64 (reached n k dn)]) ∧ w' = w := by
  have hb : (reached n k dn == 0) = false := by simpa using hr
  go_enter Tryz.func83, Tryz.ntmps83
  go_wp2_with (go_at_call 182; refine (reach_dev h k).mono ?_; rintro e w ⟨rfl, rfl⟩)
  go_ret2
  exact ⟨rfl, rfl⟩

/-- The latest bytes of a block. -/
def latest (S O : Tab) (k : Int) : List UInt8 := (O k).getD (S.get k)

theorem Dev.fresh {w w1 w2 : World} {p bs bo : Nat} {n a : Int} {dn : Bool} {S O : Tab} {g : Nat} (h : Dev w p bs bo n a dn S O) (d1 : Dev w1 p bs bo n a dn S O) (hg : w.heap.size ≤ g) (f : Fr [g] w1 w2) : Dev w2 p bs bo n a dn S O := by
  have := h.lt
  exact d1.kept f (by simp; omega) (by simp; omega) (by simp; omega)

theorem tabAt.get_length {w : World} {b : Nat} {S : Tab} (h : tabAt w b S) (k : Int) : (S.get k).length = 512 := by
  obtain ⟨D, _, hs⟩ := h; exact hs.get_length k

set_option maxHeartbeats 1000000 in
set_option maxRecDepth 100000 in
theorem read_open {w : World} {p bs bo : Nat} {n a : Int} {S O : Tab} (h : Dev w p bs bo n a false S O) (k : Int) (h0 : 0 ≤ k) (h1 : k < n) (hO : (O k).isSome = true) :
    Calls Tryz.prog 83 #[.pointer (some ⟨p, 0, none⟩), .int .i64 k] w fun e w' => ∃ g, e = .returned (.tuple #[.slice (some ⟨g, 0, none⟩) 512 512, .int .i64 0]) ∧ Blk w' g 5 (O.get k) ∧ w.heap.size ≤ g ∧ Fr [] w w' := by
  have hr : reached n k false = 0 := by simp [reached]; omega
  have hn2 := h.n2
  have hk : (Lit.int .i64 k).wf = true := WalkArith.wf_i64 (by omega)
  have c4 := h.cell4
  go_enter Tryz.func83, Tryz.ntmps83
  go_wp2_with (first
    | (go_at_call 182; refine (reach_dev h k).mono ?_; rw [hr]; rintro e w ⟨rfl, rfl⟩)
    | (refine wp_look_ok rfl _ _ rfl bo O k hk rfl rfl h.opn ?_)
    | (refine wp_alloc72 rfl rfl ?_; intro w1 b1 f1 s1)
    | (refine wp_store72 rfl _ _ rfl _ zeros (O.get k) rfl rfl b1 zeros_length (h.opn.get_length k) ?_; intro w2 b2 f2)
    | (refine wp_make512 rfl rfl ?_; intro w3 b3 f3 s3)
    | (refine wp_copy512 rfl _ _ rfl _ _ 0 _ _ 5 zeros (O.get k) rfl rfl b3 zeros_length (h.opn.get_length k) (b2.kept f3 (by simp)).src ?_; intro w4 b4 f4)
    | go_in)
  go_ret2
  exact ⟨_, rfl, b4, by have := f2.size; omega, ((f1.then f2 (fun i hi hm => by simp at hm; omega)).trans f3).then f4 (fun i hi hm => by have := f2.size; simp at hm; omega)⟩

set_option maxHeartbeats 1000000 in
set_option maxRecDepth 100000 in
theorem read_safe {w : World} {p bs bo : Nat} {n a : Int} {S O : Tab} (h : Dev w p bs bo n a false S O) (k : Int) (h0 : 0 ≤ k) (h1 : k < n) (hO : (O k).isSome = false) :
    Calls Tryz.prog 83 #[.pointer (some ⟨p, 0, none⟩), .int .i64 k] w fun e w' => ∃ g, e = .returned (.tuple #[.slice (some ⟨g, 0, none⟩) 512 512, .int .i64 0]) ∧ Blk w' g 5 (S.get k) ∧ w.heap.size ≤ g ∧ Fr [] w w' := by
  have hr : reached n k false = 0 := by simp [reached]; omega
  have hn2 := h.n2
  have hk : (Lit.int .i64 k).wf = true := WalkArith.wf_i64 (by omega)
  have c4 := h.cell4
  go_enter Tryz.func83, Tryz.ntmps83
  go_wp2_with (first
    | (go_at_call 182; refine (reach_dev h k).mono ?_; rw [hr]; rintro e w ⟨rfl, rfl⟩)
    | (refine wp_look_ok rfl _ _ rfl bo O k hk rfl rfl h.opn ?_)
    | (refine wp_alloc72 rfl rfl ?_; intro w1 b1 f1 s1; have d1 := h.kept f1 (by simp) (by simp) (by simp))
    | (refine wp_store72 rfl _ _ rfl _ zeros (O.get k) rfl rfl b1 zeros_length (h.opn.get_length k) ?_; intro w2 b2 f2; have d2 := h.fresh d1 (Nat.le_refl _) f2; have c3 := d2.cell3)
    | (refine wp_look rfl _ _ rfl bs S k hk rfl rfl d2.safe ?_)
    | (refine wp_store72 rfl _ _ rfl _ (O.get k) (S.get k) rfl rfl b2 (h.opn.get_length k) (h.safe.get_length k) ?_; intro w2' b2' f2')
    | (refine wp_make512 rfl rfl ?_; intro w3 b3 f3 s3)
    | (refine wp_copy512 rfl _ _ rfl _ _ 0 _ _ 5 zeros (S.get k) rfl rfl b3 zeros_length (h.safe.get_length k) (b2'.kept f3 (by simp)).src ?_; intro w4 b4 f4)
    | go_in)
  go_ret2
  exact ⟨_, rfl, b4, by have := f2.size; have := f2'.size; omega, (((f1.then f2 (fun i hi hm => by simp at hm; omega)).then f2' (fun i hi hm => by simp at hm; omega)).trans f3).then f4 (fun i hi hm => by have := f2.size; have := f2'.size; simp at hm; omega)⟩

theorem read_dev {w : World} {p bs bo : Nat} {n a : Int} {S O : Tab} (h : Dev w p bs bo n a false S O) (k : Int) (h0 : 0 ≤ k) (h1 : k < n) :
    Calls Tryz.prog 83 #[.pointer (some ⟨p, 0, none⟩), .int .i64 k] w fun e w' => ∃ g, e = .returned (.tuple #[.slice (some ⟨g, 0, none⟩) 512 512, .int .i64 0]) ∧ Blk w' g 5 (latest S O k) ∧ w.heap.size ≤ g ∧ Fr [] w w' := by
  cases hO : O k with
  | none =>
    have e : latest S O k = S.get k := by simp [latest, hO]
    rw [e]
    exact read_safe h k h0 h1 (by rw [hO]; rfl)
  | some l =>
    have e : latest S O k = O.get k := by simp [latest, hO, Tab.get]
    rw [e]
    exact read_open h k h0 h1 (by rw [hO]; rfl)

end Go.Proofs.YtopaeomjndblkaaGreat.Dv
