/-
  The document's Pack: rows are packed.
-/
import Derived.Test.YtddcilmeignlmaaGreatDoorOf
import Derived.Test.YtddcilmeignlmaaGreatDoorLLent
namespace Go.Proofs.YtddcilmeignlmaaGreatDoor
open Go.RowKit

theorem OfTo.cast {l room : List UInt8} {K K' pos : Nat} (h : OfTo l room K pos) (e : K = K') : OfTo l room K' pos := e ▸ h
theorem OfTo.zero0 (l : List UInt8) : OfTo l [] 0 0 := ⟨rfl, fun i hi => by omega⟩
theorem OfTo.room {l room : List UInt8} {K pos : Nat} (h : OfTo l room K pos) (hp : pos ≤ 8 * K) : OfTo l (room ++ [0]) (K + 1) pos := by
  refine ⟨by rw [List.length_append, h.len]; rfl, fun i hi => ?_⟩
  rw [bitAt_append, h.len]
  split
  · rename_i hlt
    exact h.bit i hlt
  · rename_i hge
    have e : bitAt [0] (i - 8 * K) = false := bitAt_zeros 1 (i - 8 * K)
    rw [e]
    simp [show ¬ i < pos by omega]

theorem join_mask {l room : List UInt8} {K pos : Nat} (h : OfTo l room K pos) (hp : pos / 8 < K) : (byteAt room (pos / 8)).toNat + (maskB pos).toNat = (byteAt room (pos / 8) ||| maskB pos).toNat := by
  rw [UInt8.toNat_or, mask_eq]
  symm
  refine nat_join (8 - pos % 8) _ _ ?_ ?_
  · apply Nat.eq_of_testBit_eq
    intro j
    rw [Nat.testBit_mod_two_pow, Nat.zero_testBit]
    by_cases hj : j < 8 - pos % 8
    · have := h.bit (8 * (pos / 8) + (7 - j)) (by omega)
      rw [bitAt_at _ _ _ (by omega), show 7 - (7 - j) = j by omega] at this
      rw [this]
      simp [show ¬ (8 * (pos / 8) + (7 - j) < pos) by omega]
    · simp [hj]
  · exact Nat.pow_lt_pow_right (by omega) (by omega)

theorem add_mask {l room : List UInt8} {K pos : Nat} (h : OfTo l room K pos) (hp : pos / 8 < K) : ((byteAt room (pos / 8) ||| maskB pos).toNat : Int) = (((byteAt room (pos / 8)).toNat : Int) + 128 / 2 ^ (pos % 8)) % 256 := by
  rw [← mask_int, ← join_mask h hp]
  have h1 := join_mask h hp
  have h2 : (byteAt room (pos / 8) ||| maskB pos).toNat < 256 := UInt8.toNat_lt _
  omega
theorem OfTo.other {l room : List UInt8} {K pos : Nat} (h : OfTo l room K pos) (hb : ¬ byteAt l pos = 49) : OfTo l room K (pos + 1) := by
  refine ⟨h.len, fun i hi => ?_⟩
  rw [h.bit i hi]
  by_cases e : i = pos
  · subst e; simp [hb]
  · have : (i < pos) ↔ (i < pos + 1) := by omega
    simp [this]
theorem ownAt {w0 w : World} {v : Value} {n : Nat} {l : List UInt8} (h : Own w0 w v n (arr l).toList) (hn : 0 < n) :
    ∃ g cap cur, v = .slice (some ⟨g, 0, none⟩) n cap ∧ w0.heap.size ≤ g ∧ w.heap[g]? = some (.cells cur 5) ∧ n ≤ cap ∧ cap ≤ maxLen ∧ cur.size = cap ∧ cur.toList.take n = (arr l).toList := by
  obtain ⟨h1, h2⟩ := h.1
  rcases h2 with ⟨_, h0⟩ | ⟨g, cap, cur, rfl, hb, hg, hcap, hmx, hsz, htk⟩
  · omega
  · exact ⟨g, cap, cur, rfl, hb, hg, hcap, hmx, by simpa using hsz, by simpa using htk⟩

/-- A byte of one's own row is set. -/
theorem Own.set {w0 w : World} {n g cap : Nat} {l : List UInt8} (h : Own w0 w (.slice (some ⟨g, 0, none⟩) n cap) n (arr l).toList) (hl : l.length = n) (k : Nat) (b : UInt8) :
    Own w0 (w.setCell ⟨g, k, none⟩ (.int .u8 b.toNat)) (.slice (some ⟨g, 0, none⟩) n cap) n (arr (l.set k b)).toList := by
  obtain ⟨h1, h2⟩ := h.1
  rcases h2 with ⟨hx, _⟩ | ⟨g', cap', cur, hv, hb, hg, hcap, hmx, hsz, htk⟩
  · cases hx
  · cases hv
    refine ⟨⟨by simp [arr, hl], Or.inr ⟨g, cap, cur.setIfInBounds k (.int .u8 b.toNat), rfl, hb, heap_setCell_same w g k _ _ _ hg, hcap, hmx, by simpa using hsz, ?_⟩⟩, h.2.setCell _ _ (fun hh => absurd hh (by simp; omega))⟩
    have htk' : cur.toList.take n = (arr l).toList := by simpa using htk
    have : (cur.setIfInBounds k (.int .u8 b.toNat)).toList.take (n * 1) = ((cur.toList.take n).set k (.int .u8 b.toNat)) := by
      rw [Nat.mul_one, Array.toList_setIfInBounds, List.take_set]
    rw [this, htk']
    simp [arr, List.map_set]
theorem Own.cellAt {w0 w : World} {n g cap : Nat} {l : List UInt8} (h : Own w0 w (.slice (some ⟨g, 0, none⟩) n cap) n (arr l).toList) (hl : l.length = n) (k : Nat) (hk : k < n) :
    w.cell? ⟨g, k, none⟩ = some (.int .u8 (byteAt l k).toNat) ∧ w.frozen? ⟨g, k, none⟩ = false := by
  obtain ⟨h1, h2⟩ := h.1
  rcases h2 with ⟨hx, _⟩ | ⟨g', cap', cur, hv, hb, hg, hcap, hmx, hsz, htk⟩
  · cases hx
  · cases hv
    refine ⟨?_, frozen_of_row w g k _ _ hg⟩
    rw [cell_of_row w g k _ _ _ hg]
    have htk' : cur.toList.take n = (arr l).toList := by simpa using htk
    have e : cur[k]? = (cur.toList.take n)[k]? := by rw [List.getElem?_take, if_pos hk]; simp
    rw [e, htk', byteAt_lt (by omega)]
    simp [arr, hl, hk]

set_option maxHeartbeats 2000000 in
set_option maxRecDepth 100000 in
theorem rpack_any (w : World) (s : ByteArray) (hm : s.size ≤ 5000) :
    Calls Tryz.prog 38 #[.string s] w fun e w' => ∃ v l, e = .returned v ∧ Own w w' v ((s.size + 7) / 8) (arr l).toList ∧ OfTo (bl s) l ((s.size + 7) / 8) s.size := by
  obtain ⟨n, hn⟩ : ∃ n, s.size = n := ⟨_, rfl⟩
  have HN : Hid (s.size = n) := hn
  have i1 : (s.size : Int) = (n : Int) := by omega
  have hm2 : (n : Int) ≤ 5000 := by omega
  rw [hn] at hm ⊢
  clear hn
  go_enter Tryz.func38, Tryz.ntmps38
  go_wp2_with go_in
  go_loopw [3, 4] (fun v i wr => ∃ (j : Nat) (l : List UInt8), j ≤ n ∧ i = .int .i64 j ∧ Own w wr v ((j + 7) / 8) (arr l).toList ∧ OfTo (bl s) l ((j + 7) / 8) j) (fun _ i _ => n - (intOf i).toNat)
  case atStart => exact ⟨0, [], by omega, rfl, ⟨World.ownsRow_nil w _ 5 1, Fr.refl _ _⟩, OfTo.zero0 _⟩
  case round =>
    obtain ⟨j, l, hj, rfl, ow, kl⟩ := hrel
    have hj0 : (0 : Int) ≤ (j : Int) := by omega
    by_cases hlt : j < n
    · have hlt' : (j : Int) < (n : Int) := by omega
      have q1 := run_idx s (j : Int) j rfl (by rw [HN.out]; exact hlt)
      obtain ⟨f, e1⟩ : ∃ f : Nat, (j : Int) / 8 = (f : Int) := ⟨j / 8, by omega⟩
      obtain ⟨low, e2⟩ : ∃ low : Nat, (j : Int) % 8 = (low : Int) := ⟨j % 8, by omega⟩
      have hlow : low < 8 := by omega
      have hlow0 : (0 : Int) ≤ (low : Int) := by omega
      have hlow1 : (low : Int) < 8 := by omega
      by_cases h8 : low = 0
      · subst h8
        have e2' : (j : Int) % 8 = 0 := e2
        clear e2
        have hK : (j + 7) / 8 = f := by omega
        rw [hK] at ow kl
        have kl2 := kl.room (by omega)
        by_cases h49 : byteAt (bl s) j = 49
        · rw [h49, show (((49 : UInt8).toNat : Nat) : Int) = 49 from rfl] at q1
          have H49 : Hid (byteAt (bl s) j = 49) := h49
          clear h49
          go_wp2_with (refine wp_appN rfl _ _ rfl w _ f _ rfl (ow.kept ((Fr.refl [] wr).alloc _)) _ 1 _ [0] rfl rfl (oneByte 0 (by omega) (by omega) wr) (by omega) (fun h => absurd h (by omega)) ?_; intro v5 w5 o5; rw [arr_append] at o5; obtain ⟨g, cap, cur, rfl, z1, z2, z3, z4, z5, z6⟩ := ownAt o5 (by omega); obtain ⟨q5, z7⟩ := o5.cellAt (by rw [List.length_append, kl.len]; rfl) f (by omega); have zf : (f : Int) < (f : Int) + 1 := (by omega); have zg : (0 : Int) ≤ (f : Int) := (by omega))
          have HV := add_mask kl2 (by omega)
          have o6 := o5.set (by rw [List.length_append, kl.len]; rfl) (j / 8) (byteAt (l ++ [0]) (j / 8) ||| maskB j)
          rw [HV, show j % 8 = 0 by omega, show j / 8 = f by omega] at o6
          have kk := kl2.one H49.out (by omega)
          rw [show j / 8 = f by omega] at kk
          exact ⟨⟨j + 1, _, by omega, by go_num, by rw [show (j + 1 + 7) / 8 = f + 1 by omega]; exact o6, kk.cast (by omega)⟩, by simp [intOf]; omega⟩
        · have g1 : ((((byteAt (bl s) j).toNat : Nat) : Int) == 49) = false := by
            rw [beq_eq_false_iff_ne]
            intro e
            exact h49 (UInt8.toNat_inj.1 (by show _ = 49; omega))
          have H49 : Hid (¬ byteAt (bl s) j = 49) := h49
          generalize (((byteAt (bl s) j).toNat : Nat) : Int) = vv at q1 g1
          clear h49
          go_wp2_with (refine wp_appN rfl _ _ rfl w _ f _ rfl (ow.kept ((Fr.refl [] wr).alloc _)) _ 1 _ [0] rfl rfl (oneByte 0 (by omega) (by omega) wr) (by omega) (fun h => absurd h (by omega)) ?_; intro v5 w5 o5; rw [arr_append] at o5)
          exact ⟨⟨j + 1, _, by omega, by go_num, by rw [show (j + 1 + 7) / 8 = f + 1 by omega]; exact o5, (kl2.other H49.out).cast (by omega)⟩, by simp [intOf]; omega⟩
      · have hb : ((low : Int) == 0) = false := by simp; omega
        have hK : (j + 7) / 8 = f + 1 := by omega
        rw [hK] at ow kl
        by_cases h49 : byteAt (bl s) j = 49
        · rw [h49, show (((49 : UInt8).toNat : Nat) : Int) = 49 from rfl] at q1
          have H49 : Hid (byteAt (bl s) j = 49) := h49
          obtain ⟨g, cap, cur, rfl, z1, z2, z3, z4, z5, z6⟩ := ownAt ow (by omega)
          obtain ⟨q5, z7⟩ := ow.cellAt kl.len f (by omega)
          have zf : (f : Int) < (f : Int) + 1 := by omega
          have zg : (0 : Int) ≤ (f : Int) := by omega
          have HV := add_mask kl (by omega)
          have o6 := ow.set kl.len (j / 8) (byteAt l (j / 8) ||| maskB j)
          rw [HV, show j % 8 = low by omega, show j / 8 = f by omega] at o6
          have kk := kl.one H49.out (by omega)
          rw [show j / 8 = f by omega] at kk
          clear h49 h8 HV z2 z5 z6 z1 z4
          go_wp2_with fail
          exact ⟨⟨j + 1, _, by omega, by go_num, by rw [show (j + 1 + 7) / 8 = f + 1 by omega]; exact o6, kk.cast (by omega)⟩, by simp [intOf]; omega⟩
        · have g1 : ((((byteAt (bl s) j).toNat : Nat) : Int) == 49) = false := by
            rw [beq_eq_false_iff_ne]
            intro e
            exact h49 (UInt8.toNat_inj.1 (by show _ = 49; omega))
          have H49 : Hid (¬ byteAt (bl s) j = 49) := h49
          generalize (((byteAt (bl s) j).toNat : Nat) : Int) = vv at q1 g1
          clear h49 h8
          go_wp2_with fail
          exact ⟨⟨j + 1, _, by omega, by go_num, by rw [show (j + 1 + 7) / 8 = f + 1 by omega]; exact ow, (kl.other H49.out).cast (by omega)⟩, by simp [intOf]; omega⟩
    · obtain rfl : j = n := by omega
      go_wp2
      go_ret
      exact ⟨_, l, rfl, ow, kl⟩

end Go.Proofs.YtddcilmeignlmaaGreatDoor
