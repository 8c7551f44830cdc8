/-
  Bytes that are lent: where they lie, and that they lie apart.
-/
import Derived.Test.YtlfpoeimgoikkaaGTell
import Derived.Test.YtlfpoeimgoikkaaAbApartB
namespace Go.Proofs.Ytlfpoeimgoikkaa
open Go.RowKit Go.Maps

set_option maxHeartbeats 1000000 in
set_option maxRecDepth 100000 in
theorem lentO_any (w : World) (a0 : Addr) (n c : Nat) (l : List UInt8) (hl : l.length = n) (hn : n ≤ 5000) (hsrc : BytesAt w (some a0) l) :
    Calls Try.prog 10 #[.slice (some a0) n c] w fun e w' => ∃ g cap, e = .returned (.slice (some ⟨g, 0, none⟩) n cap) ∧ LentAt w' g cap l ∧ w.heap.size ≤ g ∧ Fr [] w w' ∧ cap ≤ maxLen := by
  have HL : Hid (l.length = n) := hl
  have hn' : (n : Int) ≤ 5000 := by omega
  have hn0 : (0 : Int) ≤ (n : Int) := by omega
  clear hl
  go_enter Try.func10, Try.ntmps10
  go_wp2_with (first
    | (refine wp_make0 rfl _ _ rfl (n + 12) rfl (by rfl) (by omega) w (Fr.refl _ _) ?_; intro w1 o1)
    | (refine wp_app rfl _ _ rfl w _ 0 [] rfl o1 _ n _ l rfl HL.out (hsrc.kept o1.2 (by simp)) (by omega) (fun _ => ⟨_, rfl⟩) ?_; intro v2 w2 o2)
    | go_in)
  go_loopw [3, 4] (fun v i wr => ∃ j : Nat, j ≤ 12 ∧ i = .int .i64 j ∧ Own w wr v (n + j) (arr (l ++ mkL 1 j)).toList) (fun _ i _ => 12 - (intOf i).toNat)
  case atStart => exact ⟨0, by omega, rfl, by simpa [mkL] using o2⟩
  case round =>
    obtain ⟨j, hj, rfl, ow⟩ := hrel
    by_cases hlt : j < 12
    · have hlt' : (j : Int) < 12 := by omega
      have hj0 : (0 : Int) ≤ (j : Int) := by omega
      obtain ⟨m0, m1⟩ := mB_range 1 j
      go_wp2_with (first
        | (go_at_call 34; refine (markByte_any _ 1 j (by omega) (by omega) hj0 (by omega)).mono ?_; rintro e w5 ⟨rfl, rfl⟩)
        | (refine wp_app rfl _ _ rfl w _ (n + j) _ rfl (ow.kept ((Fr.refl [] wr).alloc _)) _ 1 _ [UInt8.ofNat (mB 1 j).toNat] rfl rfl (oneByte (mB 1 j) m0 m1 wr) (by omega) (fun h => absurd h (by omega)) ?_; intro v5 w5 o5)
        | go_in)
      refine ⟨⟨j + 1, by omega, by go_num, ?_⟩, by simp [intOf]; omega⟩
      rw [mkL_succ, ← List.append_assoc, ← arr_append]
      exact o5
    · obtain rfl : j = 12 := by omega
      have hpos : 0 < n + 12 := by omega
      obtain ⟨hle, hcase⟩ := ow.1
      rcases hcase with ⟨_, h0⟩ | ⟨g, cap, cur, hv, hb, hg, hcap, hmx, hsz, htk⟩
      · omega
      · subst hv
        have hcap' : (n : Int) ≤ (cap : Int) := by omega
        have hcz : ¬ cap = 0 := by omega
        go_wp2_with fail
        go_ret
        exact ⟨g, cap, rfl, ⟨⟨cur, hg, by rw [HL.out]; simpa using htk, by omega⟩, by rw [HL.out]; omega⟩, hb, ow.2, hmx⟩

set_option maxHeartbeats 1000000 in
set_option maxRecDepth 100000 in
theorem lentO_nil (w : World) (n : Nat) (l : List UInt8) (hl : l.length = n) (hn : n ≤ 5000) (hn2 : n = 0) :
    Calls Try.prog 10 #[.slice none 0 0] w fun e w' => ∃ g cap, e = .returned (.slice (some ⟨g, 0, none⟩) 0 cap) ∧ LentAt w' g cap [] ∧ w.heap.size ≤ g ∧ Fr [] w w' ∧ cap ≤ maxLen := by
  subst hn2
  obtain rfl : l = [] := List.eq_nil_of_length_eq_zero hl
  obtain ⟨i, hi, hz, hs, hb⟩ := info5'
  have HL : Hid (([] : List UInt8).length = 0) := rfl
  have n0 : (0 : Nat) = 0 := rfl
  clear hl hn
  go_enter Try.func10, Try.ntmps10
  go_wp2_with (first
    | (refine wp_make0 rfl _ _ rfl 12 rfl (by rfl) (by omega) w (Fr.refl _ _) ?_; intro w1 o1)
    | (refine wpList_append_own_none rfl _ _ 22 rfl w.heap.size 5 i 1 Try.underlying22 hi _ 0 [] rfl o1.1 rfl ?_; have o2 := o1)
    | go_in)
  go_loopw [3, 4] (fun v i wr => ∃ j : Nat, j ≤ 12 ∧ i = .int .i64 j ∧ Own w wr v j (arr ([] ++ mkL 1 j)).toList) (fun _ i _ => 12 - (intOf i).toNat)
  case atStart => exact ⟨0, by omega, rfl, by simpa [mkL, arr] using o2⟩
  case round =>
    obtain ⟨j, hj, rfl, ow⟩ := hrel
    by_cases hlt : j < 12
    · have hlt' : (j : Int) < 12 := by omega
      have hj0 : (0 : Int) ≤ (j : Int) := by omega
      obtain ⟨m0, m1⟩ := mB_range 1 j
      go_wp2_with (first
        | (go_at_call 34; refine (markByte_any _ 1 j (by omega) (by omega) hj0 (by omega)).mono ?_; rintro e w5 ⟨rfl, rfl⟩)
        | (refine wp_app rfl _ _ rfl w _ j _ rfl (ow.kept ((Fr.refl [] wr).alloc _)) _ 1 _ [UInt8.ofNat (mB 1 j).toNat] rfl rfl (oneByte (mB 1 j) m0 m1 wr) (by omega) (fun h => absurd h (by omega)) ?_; intro v5 w5 o5)
        | go_in)
      refine ⟨⟨j + 1, by omega, by go_num, ?_⟩, by simp [intOf]; omega⟩
      rw [mkL_succ, ← List.append_assoc, ← arr_append]
      exact o5
    · obtain rfl : j = 12 := by omega
      have hpos : 0 < 12 := by omega
      obtain ⟨hle, hcase⟩ := ow.1
      rcases hcase with ⟨_, h0⟩ | ⟨g, cap, cur, hv, hb, hg, hcap, hmx, hsz, htk⟩
      · omega
      · subst hv
        have hcap' : (0 : Int) ≤ (cap : Int) := by omega
        have hcz : ¬ cap = 0 := by omega
        go_wp2_with fail
        go_ret
        exact ⟨g, cap, rfl, ⟨⟨cur, hg, by rw [HL.out]; simpa using htk, by omega⟩, by rw [HL.out]; omega⟩, hb, ow.2, hmx⟩


theorem lent_sl (w : World) (ad : Option Addr) (n c : Nat) (l : List UInt8) (h : SlAt w ad n c l) (hn : n ≤ 5000) (hz : ad = none → c = 0) :
    Calls Try.prog 10 #[.slice ad n c] w fun e w' => ∃ g cap, e = .returned (.slice (some ⟨g, 0, none⟩) n cap) ∧ LentAt w' g cap l ∧ w.heap.size ≤ g ∧ Fr [] w w' ∧ cap ≤ maxLen := by
  cases ad with
  | none =>
    obtain rfl : c = 0 := hz rfl
    obtain rfl : n = 0 := by have := h.cap; omega
    have e0 : l = [] := List.eq_nil_of_length_eq_zero h.len
    subst e0
    exact lentO_nil w 0 [] rfl (by omega) rfl
  | some a0 => exact lentO_any w a0 n c l h.len hn h.bytes
theorem LentAt.sl {w : World} {g cap n : Nat} {l : List UInt8} (h : LentAt w g cap l) (hn : l.length = n) : SlAt w (some ⟨g, 0, none⟩) n cap l := ⟨hn, h.bytes, by have := h.cap; omega⟩
theorem LentAt.own {w : World} {g cap n : Nat} {l : List UInt8} (h : LentAt w g cap l) (hn : l.length = n) (hm : cap ≤ maxLen) : w.ownsRow 0 5 1 (.slice (some ⟨g, 0, none⟩) n cap) n (arr l).toList := by
  obtain ⟨cur, hg, ht, hs⟩ := h.ex
  have hc := h.cap
  refine ⟨by simp [arr, hn], Or.inr ⟨g, cap, cur, rfl, Nat.zero_le _, hg, by omega, hm, by omega, ?_⟩⟩
  rw [Nat.mul_one, ← hn]
  have h2 : cur.toList.take l.length = (cur.toList.take (l.length + 12)).take l.length := by rw [List.take_take, Nat.min_eq_left (by omega)]
  rw [h2, ht, ← arr_append]
  exact List.take_left' (by simp [arr])
theorem Blk.own {w : World} {g : Nat} {l : List UInt8} (h : Blk w g l) (hm : l.length ≤ 1000000) : w.ownsRow 0 5 1 (.slice (some ⟨g, 0, none⟩) l.length l.length) l.length (arr l).toList :=
  ⟨by simp [arr], Or.inr ⟨g, l.length, arr l, rfl, Nat.zero_le _, h, Nat.le_refl _, by unfold maxLen; omega, by simp [arr_size], List.take_of_length_le (by simp [arr])⟩⟩
theorem own0_kept {w w' : World} {v : Value} {n : Nat} {xs : List Value} (h : w.ownsRow 0 5 1 v n xs) (k : Fr [] w w') : w'.ownsRow 0 5 1 v n xs := by
  obtain ⟨h1, h2⟩ := h
  refine ⟨h1, ?_⟩
  rcases h2 with hn | ⟨g, cap, cur, rfl, hb, hg, r⟩
  · exact Or.inl hn
  · exact Or.inr ⟨g, cap, cur, rfl, hb, k.same (by simp) hg, r⟩
theorem fr_ab {L : List Nat} {a b : World} (h : Ab.Fr L a b) : Fr L a b := ⟨h.os, h.tape, h.output, h.size, h.block⟩

/-- A list of bytes: where it lies, its length, its room. -/
abbrev Spot := Option Addr × Nat × Nat
def Spot.val (s : Spot) : Value := .slice s.1 s.2.1 s.2.2
def blocksOf (vs : List Spot) : List Nat := vs.flatMap fun s => s.val.ownBlock.toList
theorem blocks_mem {vs : List Spot} {g : Nat} : g ∈ blocksOf vs ↔ ∃ s ∈ vs, s.val.ownBlock = some g := by
  simp [blocksOf]

/-- Lists of bytes that lie apart, in a new table. -/
theorem lists_of {w : World} (vs : List Spot) (tab : Array Value) (htab : tab = (vs.map Spot.val).toArray) (hK : vs.length ≤ 250) (hn : ∀ s ∈ vs, s.2.1 ≤ 100000) (hown : ∀ s ∈ vs, ∃ xs : List Value, xs.length = s.2.1 ∧ w.ownsRow 0 5 1 s.val s.2.1 xs)
    (hap : vs.Pairwise fun s t => ∀ g, s.val.ownBlock = some g → t.val.ownBlock ≠ some g) :
    Ab.Lists (w.alloc (.cells tab 22)) (blocksOf vs) vs.length w.heap.size (fun j => (vs.getD j (none, 0, 0)).1) (fun j => (vs.getD j (none, 0, 0)).2.1) (fun j => (vs.getD j (none, 0, 0)).2.2) := by
  subst htab
  have hget : ∀ j, (hj : j < vs.length) → vs.getD j (none, 0, 0) = vs[j] := fun j hj => by simp [hj]
  have hlt : ∀ g ∈ blocksOf vs, g < w.heap.size := by
    intro g hg
    obtain ⟨s, hs, hb⟩ := blocks_mem.1 hg
    obtain ⟨xs, _, ho⟩ := hown s hs
    rcases ho.2 with ⟨e, _⟩ | ⟨g', _, cur, e, _, hh, _⟩
    · rw [e] at hb; cases hb
    · rw [e] at hb
      have : g' = g := by simpa [Value.ownBlock] using hb
      subst this
      exact (Array.getElem?_eq_some_iff.1 hh).1
  refine ⟨hK, ?_, ?_, ?_, ?_, ?_, ?_⟩
  · intro j hj
    simp only [hget j hj]
    exact hn _ (List.getElem_mem hj)
  · intro j hj
    simp only [hget j hj]
    rw [cell_of_row _ _ _ _ _ _ (heap_alloc_new w _)]
    simp [hj, Spot.val]
  · intro j hj
    simp only [hget j hj]
    obtain ⟨xs, h1, h2⟩ := hown _ (List.getElem_mem hj)
    exact ⟨xs, h1, own0_kept h2 ((Fr.refl [] w).alloc _)⟩
  · intro i j hi hj hij g
    simp only [hget i hi, hget j hj]
    rcases Nat.lt_or_gt_of_ne hij with k | k
    · exact (List.pairwise_iff_getElem.1 hap i j hi hj k) g
    · exact fun e1 e2 => (List.pairwise_iff_getElem.1 hap j i hj hi k) g e2 e1
  · intro j hj g
    simp only [hget j hj]
    exact fun e => blocks_mem.2 ⟨_, List.getElem_mem hj, e⟩
  · intro h
    have := hlt _ h
    omega
end Go.Proofs.Ytlfpoeimgoikkaa
