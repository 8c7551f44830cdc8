/-
  The document's Unpack: bytes are unpacked, or refused.
-/
import Derived.Test.YtddcilmeignlmaaGreatDoorOf
import Derived.Test.YtddcilmeignlmaaGreatDoorLLent
import Derived.Test.YtddcilmeignlmaaGreatDoorUnpack
namespace Go.Proofs.YtddcilmeignlmaaGreatDoor
open Go.RowKit

theorem OfTo.cast {l room : List UInt8} {K K' pos : Nat} (h : OfTo l room K pos) (e : K = K') : OfTo l room K' pos := e ▸ h
theorem OfTo.zero0 (l : List UInt8) : OfTo l [] 0 0 := ⟨rfl, fun i hi => by omega⟩
theorem OfTo.room {l room : List UInt8} {K pos : Nat} (h : OfTo l room K pos) (hp : pos ≤ 8 * K) : OfTo l (room ++ [0]) (K + 1) pos := by
  refine ⟨by rw [List.length_append, h.len]; rfl, fun i hi => ?_⟩
  rw [bitAt_append, h.len]
  split
  · rename_i hlt
    exact h.bit i hlt
  · rename_i hge
    have e : bitAt [0] (i - 8 * K) = false := bitAt_zeros 1 (i - 8 * K)
    rw [e]
    simp [show ¬ i < pos by omega]

theorem join_mask {l room : List UInt8} {K pos : Nat} (h : OfTo l room K pos) (hp : pos / 8 < K) : (byteAt room (pos / 8)).toNat + (maskB pos).toNat = (byteAt room (pos / 8) ||| maskB pos).toNat := by
  rw [UInt8.toNat_or, mask_eq]
  symm
  refine nat_join (8 - pos % 8) _ _ ?_ ?_
  · apply Nat.eq_of_testBit_eq
    intro j
    rw [Nat.testBit_mod_two_pow, Nat.zero_testBit]
    by_cases hj : j < 8 - pos % 8
    · have := h.bit (8 * (pos / 8) + (7 - j)) (by omega)
      rw [bitAt_at _ _ _ (by omega), show 7 - (7 - j) = j by omega] at this
      rw [this]
      simp [show ¬ (8 * (pos / 8) + (7 - j) < pos) by omega]
    · simp [hj]
  · exact Nat.pow_lt_pow_right (by omega) (by omega)

theorem add_mask {l room : List UInt8} {K pos : Nat} (h : OfTo l room K pos) (hp : pos / 8 < K) : ((byteAt room (pos / 8) ||| maskB pos).toNat : Int) = (((byteAt room (pos / 8)).toNat : Int) + 128 / 2 ^ (pos % 8)) % 256 := by
  rw [← mask_int, ← join_mask h hp]
  have h1 := join_mask h hp
  have h2 : (byteAt room (pos / 8) ||| maskB pos).toNat < 256 := UInt8.toNat_lt _
  omega
theorem OfTo.other {l room : List UInt8} {K pos : Nat} (h : OfTo l room K pos) (hb : ¬ byteAt l pos = 49) : OfTo l room K (pos + 1) := by
  refine ⟨h.len, fun i hi => ?_⟩
  rw [h.bit i hi]
  by_cases e : i = pos
  · subst e; simp [hb]
  · have : (i < pos) ↔ (i < pos + 1) := by omega
    simp [this]
theorem ownAt {w0 w : World} {v : Value} {n : Nat} {l : List UInt8} (h : Own w0 w v n (arr l).toList) (hn : 0 < n) :
    ∃ g cap cur, v = .slice (some ⟨g, 0, none⟩) n cap ∧ w0.heap.size ≤ g ∧ w.heap[g]? = some (.cells cur 5) ∧ n ≤ cap ∧ cap ≤ maxLen ∧ cur.size = cap ∧ cur.toList.take n = (arr l).toList := by
  obtain ⟨h1, h2⟩ := h.1
  rcases h2 with ⟨_, h0⟩ | ⟨g, cap, cur, rfl, hb, hg, hcap, hmx, hsz, htk⟩
  · omega
  · exact ⟨g, cap, cur, rfl, hb, hg, hcap, hmx, by simpa using hsz, by simpa using htk⟩

/-- A byte of one's own row is set. -/
theorem Own.set {w0 w : World} {n g cap : Nat} {l : List UInt8} (h : Own w0 w (.slice (some ⟨g, 0, none⟩) n cap) n (arr l).toList) (hl : l.length = n) (k : Nat) (b : UInt8) :
    Own w0 (w.setCell ⟨g, k, none⟩ (.int .u8 b.toNat)) (.slice (some ⟨g, 0, none⟩) n cap) n (arr (l.set k b)).toList := by
  obtain ⟨h1, h2⟩ := h.1
  rcases h2 with ⟨hx, _⟩ | ⟨g', cap', cur, hv, hb, hg, hcap, hmx, hsz, htk⟩
  · cases hx
  · cases hv
    refine ⟨⟨by simp [arr, hl], Or.inr ⟨g, cap, cur.setIfInBounds k (.int .u8 b.toNat), rfl, hb, heap_setCell_same w g k _ _ _ hg, hcap, hmx, by simpa using hsz, ?_⟩⟩, h.2.setCell _ _ (fun hh => absurd hh (by simp; omega))⟩
    have htk' : cur.toList.take n = (arr l).toList := by simpa using htk
    have : (cur.setIfInBounds k (.int .u8 b.toNat)).toList.take (n * 1) = ((cur.toList.take n).set k (.int .u8 b.toNat)) := by
      rw [Nat.mul_one, Array.toList_setIfInBounds, List.take_set]
    rw [this, htk']
    simp [arr, List.map_set]
theorem Own.cellAt {w0 w : World} {n g cap : Nat} {l : List UInt8} (h : Own w0 w (.slice (some ⟨g, 0, none⟩) n cap) n (arr l).toList) (hl : l.length = n) (k : Nat) (hk : k < n) :
    w.cell? ⟨g, k, none⟩ = some (.int .u8 (byteAt l k).toNat) ∧ w.frozen? ⟨g, k, none⟩ = false := by
  obtain ⟨h1, h2⟩ := h.1
  rcases h2 with ⟨hx, _⟩ | ⟨g', cap', cur, hv, hb, hg, hcap, hmx, hsz, htk⟩
  · cases hx
  · cases hv
    refine ⟨?_, frozen_of_row w g k _ _ hg⟩
    rw [cell_of_row w g k _ _ _ hg]
    have htk' : cur.toList.take n = (arr l).toList := by simpa using htk
    have e : cur[k]? = (cur.toList.take n)[k]? := by rw [List.getElem?_take, if_pos hk]; simp
    rw [e, htk', byteAt_lt (by omega)]
    simp [arr, hl, hk]

set_option maxHeartbeats 2000000 in
set_option maxRecDepth 100000 in
theorem rpack_any (w : World) (s : ByteArray) (hm : s.size ≤ 5000) :
    Calls Tryz.prog 38 #[.string s] w fun e w' => ∃ v l, e = .returned v ∧ Own w w' v ((s.size + 7) / 8) (arr l).toList ∧ OfTo (bl s) l ((s.size + 7) / 8) s.size := by
  obtain ⟨n, hn⟩ : ∃ n, s.size = n := ⟨_, rfl⟩
  have HN : Hid (s.size = n) := hn
  have i1 : (s.size : Int) = (n : Int) := by omega
  have hm2 : (n : Int) ≤ 5000 := by omega
  rw [hn] at hm ⊢
  clear hn
  go_enter Tryz.func38, Tryz.ntmps38
  go_wp2_with go_in
  go_loopw [3, 4] (fun v i wr => ∃ (j : Nat) (l : List UInt8), j ≤ n ∧ i = .int .i64 j ∧ Own w wr v ((j + 7) / 8) (arr l).toList ∧ OfTo (bl s) l ((j + 7) / 8) j) (fun _ i _ => n - (intOf i).toNat)
  case atStart => exact ⟨0, [], by omega, rfl, ⟨World.ownsRow_nil w _ 5 1, Fr.refl _ _⟩, OfTo.zero0 _⟩
  case round =>
    obtain ⟨j, l, hj, rfl, ow, kl⟩ := hrel
    have hj0 : (0 : Int) ≤ (j : Int) := by omega
    by_cases hlt : j < n
    · have hlt' : (j : Int) < (n : Int) := by omega
      have q1 := run_idx s (j : Int) j rfl (by rw [HN.out]; exact hlt)
      obtain ⟨f, e1⟩ : ∃ f : Nat, (j : Int) / 8 = (f : Int) := ⟨j / 8, by omega⟩
      obtain ⟨low, e2⟩ : ∃ low : Nat, (j : Int) % 8 = (low : Int) := ⟨j % 8, by omega⟩
      have hlow : low < 8 := by omega
      have hlow0 : (0 : Int) ≤ (low : Int) := by omega
      have hlow1 : (low : Int) < 8 := by omega
      by_cases h8 : low = 0
      · subst h8
        have e2' : (j : Int) % 8 = 0 := e2
        clear e2
        have hK : (j + 7) / 8 = f := by omega
        rw [hK] at ow kl
        have kl2 := kl.room (by omega)
        by_cases h49 : byteAt (bl s) j = 49
        · rw [h49, show (((49 : UInt8).toNat : Nat) : Int) = 49 from rfl] at q1
          have H49 : Hid (byteAt (bl s) j = 49) := h49
          clear h49
          go_wp2_with (refine wp_appN rfl _ _ rfl w _ f _ rfl (ow.kept ((Fr.refl [] wr).alloc _)) _ 1 _ [0] rfl rfl (oneByte 0 (by omega) (by omega) wr) (by omega) (fun h => absurd h (by omega)) ?_; intro v5 w5 o5; rw [arr_append] at o5; obtain ⟨g, cap, cur, rfl, z1, z2, z3, z4, z5, z6⟩ := ownAt o5 (by omega); obtain ⟨q5, z7⟩ := o5.cellAt (by rw [List.length_append, kl.len]; rfl) f (by omega); have zf : (f : Int) < (f : Int) + 1 := (by omega); have zg : (0 : Int) ≤ (f : Int) := (by omega))
          have HV := add_mask kl2 (by omega)
          have o6 := o5.set (by rw [List.length_append, kl.len]; rfl) (j / 8) (byteAt (l ++ [0]) (j / 8) ||| maskB j)
          rw [HV, show j % 8 = 0 by omega, show j / 8 = f by omega] at o6
          have kk := kl2.one H49.out (by omega)
          rw [show j / 8 = f by omega] at kk
          exact ⟨⟨j + 1, _, by omega, by go_num, by rw [show (j + 1 + 7) / 8 = f + 1 by omega]; exact o6, kk.cast (by omega)⟩, by simp [intOf]; omega⟩
        · have g1 : ((((byteAt (bl s) j).toNat : Nat) : Int) == 49) = false := by
            rw [beq_eq_false_iff_ne]
            intro e
            exact h49 (UInt8.toNat_inj.1 (by show _ = 49; omega))
          have H49 : Hid (¬ byteAt (bl s) j = 49) := h49
          generalize (((byteAt (bl s) j).toNat : Nat) : Int) = vv at q1 g1
          clear h49
          go_wp2_with (refine wp_appN rfl _ _ rfl w _ f _ rfl (ow.kept ((Fr.refl [] wr).alloc _)) _ 1 _ [0] rfl rfl (oneByte 0 (by omega) (by omega) wr) (by omega) (fun h => absurd h (by omega)) ?_; intro v5 w5 o5; rw [arr_append] at o5)
          exact ⟨⟨j + 1, _, by omega, by go_num, by rw [show (j + 1 + 7) / 8 = f + 1 by omega]; exact o5, (kl2.other H49.out).cast (by omega)⟩, by simp [intOf]; omega⟩
      · have hb : ((low : Int) == 0) = false := by simp; omega
        have hK : (j + 7) / 8 = f + 1 := by omega
        rw [hK] at ow kl
        by_cases h49 : byteAt (bl s) j = 49
        · rw [h49, show (((49 : UInt8).toNat : Nat) : Int) = 49 from rfl] at q1
          have H49 : Hid (byteAt (bl s) j = 49) := h49
          obtain ⟨g, cap, cur, rfl, z1, z2, z3, z4, z5, z6⟩ := ownAt ow (by omega)
          obtain ⟨q5, z7⟩ := ow.cellAt kl.len f (by omega)
          have zf : (f : Int) < (f : Int) + 1 := by omega
          have zg : (0 : Int) ≤ (f : Int) := by omega
          have HV := add_mask kl (by omega)
          have o6 := ow.set kl.len (j / 8) (byteAt l (j / 8) ||| maskB j)
          rw [HV, show j % 8 = low by omega, show j / 8 = f by omega] at o6
          have kk := kl.one H49.out (by omega)
          rw [show j / 8 = f by omega] at kk
          clear h49 h8 HV z2 z5 z6 z1 z4
          go_wp2_with fail
          exact ⟨⟨j + 1, _, by omega, by go_num, by rw [show (j + 1 + 7) / 8 = f + 1 by omega]; exact o6, kk.cast (by omega)⟩, by simp [intOf]; omega⟩
        · have g1 : ((((byteAt (bl s) j).toNat : Nat) : Int) == 49) = false := by
            rw [beq_eq_false_iff_ne]
            intro e
            exact h49 (UInt8.toNat_inj.1 (by show _ = 49; omega))
          have H49 : Hid (¬ byteAt (bl s) j = 49) := h49
          generalize (((byteAt (bl s) j).toNat : Nat) : Int) = vv at q1 g1
          clear h49 h8
          go_wp2_with fail
          exact ⟨⟨j + 1, _, by omega, by go_num, by rw [show (j + 1 + 7) / 8 = f + 1 by omega]; exact ow, (kl.other H49.out).cast (by omega)⟩, by simp [intOf]; omega⟩
    · obtain rfl : j = n := by omega
      go_wp2
      go_ret
      exact ⟨_, l, rfl, ow, kl⟩

end Go.Proofs.YtddcilmeignlmaaGreatDoor

namespace Go.Proofs.YtddcilmeignlmaaGreatDoor
open Go.RowKit

set_option maxHeartbeats 1000000 in
theorem runpack_neg (w : World) (ad : Option Addr) (m c : Nat) (n : Int) (h : n < 0) :
    Calls Tryz.prog 57 #[.slice ad m c, .int .i64 n] w fun e w' => e = .returned (.tuple #[.string (mkS []), .bool false]) ∧ Fr [] w w' := by
  go_enter Tryz.func57, Tryz.ntmps57
  go_wp2
  go_ret2
  exact ⟨rfl, Fr.refl _ _⟩

set_option maxHeartbeats 1000000 in
theorem runpack_big (w : World) (ad : Option Addr) (m c : Nat) (n : Int) (h0 : 0 ≤ n) (h : 1048576 < n) :
    Calls Tryz.prog 57 #[.slice ad m c, .int .i64 n] w fun e w' => e = .returned (.tuple #[.string (mkS []), .bool false]) ∧ Fr [] w w' := by
  have d1 : decide (n < 0) = false := by simp; omega
  go_enter Tryz.func57, Tryz.ntmps57
  go_wp2
  go_ret2
  exact ⟨rfl, Fr.refl _ _⟩

set_option maxHeartbeats 1000000 in
theorem runpack_len (w : World) (ad : Option Addr) (m c n : Nat) (h : n ≤ 1048576) (hm : m ≠ (n + 7) / 8) :
    Calls Tryz.prog 57 #[.slice ad m c, .int .i64 (n : Int)] w fun e w' => e = .returned (.tuple #[.string (mkS []), .bool false]) ∧ Fr [] w w' := by
  obtain ⟨K, hK⟩ : ∃ K : Nat, ((n : Int) + 7) / 8 = (K : Int) := ⟨(n + 7) / 8, by omega⟩
  have hm' : m ≠ K := by omega
  have d1 : decide ((n : Int) < 0) = false := by simp
  have d2 : decide ((1048576 : Int) < (n : Int)) = false := by simp; omega
  have d2' : decide (1048576 < n) = false := by simp; omega
  have d3 : ((m : Int) == (K : Int)) = false := by simp; omega
  have d3' : ((m : Int) != (K : Int)) = true := by simp; omega
  have hn1 : (n : Int) ≤ 1048576 := by omega
  have hn0 : (0 : Int) ≤ (n : Int) := by omega
  clear hm hm'
  go_enter Tryz.func57, Tryz.ntmps57
  go_wp2
  go_ret2
  exact ⟨rfl, Fr.refl _ _⟩

theorem bit_val (l : List UInt8) (j : Nat) : (((byteAt l (j / 8)).toNat : Nat) : Int) / 2 ^ (7 - j % 8) % 2 = if bitAt l j then 1 else 0 := by
  unfold bitAt
  rw [Nat.testBit_eq_decide_div_mod_eq]
  have e : ((((byteAt l (j / 8)).toNat : Nat) : Int) / 2 ^ (7 - j % 8) % 2) = (((byteAt l (j / 8)).toNat / 2 ^ (7 - j % 8) % 2 : Nat) : Int) := by
    rw [Int.natCast_emod, Int.natCast_ediv]
    congr 1
  rw [e]
  have h2 : (byteAt l (j / 8)).toNat / 2 ^ (7 - j % 8) % 2 < 2 := by omega
  generalize (byteAt l (j / 8)).toNat / 2 ^ (7 - j % 8) % 2 = y at h2
  match y, h2 with
  | 0, _ => simp
  | 1, _ => simp

theorem own_bytes {w0 w : World} {v : Value} {n : Nat} {l : List UInt8} (h : Own w0 w v n (arr l).toList) (hl : l.length = n) :
    ∃ ad cap, v = .slice ad n cap ∧ BytesAt w ad l ∧ (n = 0 → ad = none ∨ ∃ b off, ad = some ⟨b, off, none⟩) := by
  obtain ⟨h1, h2⟩ := h.1
  rcases h2 with ⟨rfl, rfl⟩ | ⟨g, cap, cur, rfl, hb, hg, hcap, hmx, hsz, htk⟩
  · obtain rfl : l = [] := List.eq_nil_of_length_eq_zero hl
    exact ⟨none, 0, rfl, BytesAt.nil _ _, fun _ => Or.inl rfl⟩
  · refine ⟨_, cap, rfl, fun j u hu => ⟨g, 0, rfl, ?_⟩, fun _ => Or.inr ⟨g, 0, rfl⟩⟩
    have hj : j < n := by
      have := (List.getElem?_eq_some_iff.1 hu).1
      simpa [arr, hl] using this
    have htk' : cur.toList.take n = (arr l).toList := by simpa using htk
    rw [Nat.zero_add, cell_of_row w g j _ _ _ hg, ← hu, ← htk', List.getElem?_take, if_pos hj]
    simp

theorem take_bits (l : List UInt8) (n j : Nat) (h : j < n) : txt ((bitsTo l n).take j) ++ [chr (bitAt l j)] = txt ((bitsTo l n).take (j + 1)) := by
  rw [List.take_succ_eq_append_getElem (show j < (bitsTo l n).length by rw [bitsTo_length]; exact h)]
  unfold txt
  rw [List.map_append]
  congr 1
  simp [bitsTo]
theorem unOk_len {l : List UInt8} {n m T : Nat} (hl : l.length = m) (hm : m = (n + 7) / 8) (hT : T = 8 * m) (hn : n ≤ 1048576) (hz : ∀ i, n ≤ i → i < T → bitAt l i = false) : UnOk l n :=
  ⟨by omega, by omega, by rw [hl, hm]; rfl, fun i hi => by
    by_cases h : i < T
    · exact hz i (by simpa using hi) h
    · exact bitAt_ge (by omega)⟩

set_option maxHeartbeats 2000000 in
set_option maxRecDepth 100000 in
theorem runpack_loop (w : World) (ad : Option Addr) (m c n : Nat) (l : List UInt8) (hl : l.length = m) (hb : BytesAt w ad l) (h : n ≤ 1048576) (hm : m = (n + 7) / 8) (h5 : m ≤ 5000) :
    Calls Tryz.prog 57 #[.slice ad m c, .int .i64 (n : Int)] w fun e w' => ((e = .returned (.tuple #[.string (mkS (txt (bitsTo l n))), .bool true]) ∧ UnOk l n) ∨ (e = .returned (.tuple #[.string (mkS []), .bool false]) ∧ ¬ UnOk l n)) ∧ Fr [] w w' := by
  have HL : Hid (l.length = m) := hl
  have HM : Hid (m = (n + 7) / 8) := hm
  have hK : ((n : Int) + 7) / 8 = (m : Int) := by omega
  obtain ⟨T, hT⟩ : ∃ T : Nat, (8 : Int) * (m : Int) = (T : Int) := ⟨8 * m, by omega⟩
  have HT : Hid (T = 8 * m) := by show _ = _; omega
  have hT1 : (T : Int) ≤ 40000 := by omega
  have d1 : decide ((n : Int) < 0) = false := by simp
  have d2 : decide ((1048576 : Int) < (n : Int)) = false := by simp; omega
  have d2' : decide (1048576 < n) = false := by simp; omega
  have hn1 : (n : Int) ≤ 1048576 := by omega
  have hn0 : (0 : Int) ≤ (n : Int) := by omega
  have hnT : n ≤ T := by omega
  clear hl hm
  go_enter Tryz.func57, Tryz.ntmps57
  go_wp2_with go_in
  clear hK
  go_loopw [6, 7] (fun v i wr => ∃ (j : Nat), j ≤ T ∧ i = .int .i64 j ∧ Own w wr v (min j n) (arr (txt ((bitsTo l n).take j))).toList ∧ (∀ i, n ≤ i → i < j → bitAt l i = false)) (fun _ i _ => T - (intOf i).toNat)
  case atStart => exact ⟨0, by omega, rfl, ⟨by simpa [arr, txt] using World.ownsRow_nil w _ 5 1, Fr.refl _ _⟩, fun i h1 h2 => by omega⟩
  case round =>
    obtain ⟨j, hj, rfl, ow, hz⟩ := hrel
    have HZ : Hid (∀ i, n ≤ i → i < j → bitAt l i = false) := hz
    clear hz
    have hj0 : (0 : Int) ≤ (j : Int) := by omega
    by_cases hlt : j < T
    · have hlt' : (j : Int) < (T : Int) := by omega
      obtain ⟨f, e1⟩ : ∃ f : Nat, (j : Int) / 8 = (f : Int) := ⟨j / 8, by omega⟩
      obtain ⟨low, e2⟩ : ∃ low : Nat, (j : Int) % 8 = (low : Int) := ⟨j % 8, by omega⟩
      have hf0 : (0 : Int) ≤ (f : Int) := by omega
      have hfm : (f : Int) < (m : Int) := by have := HT.out; omega
      have hlow0 : (0 : Int) ≤ (low : Int) := by omega
      have hlow1 : (low : Int) < 8 := by omega
      have hlow2 : (0 : Int) ≤ 7 - (low : Int) := by omega
      obtain ⟨b, off, rfl, q1⟩ := (hb.kept ow.2 (by simp)).at f (by rw [HL.out]; omega)
      have hbv := bit_val l j
      rw [show j / 8 = f by omega, show j % 8 = low by omega] at hbv
      have HBV : Hid ((((byteAt l f).toNat : Nat) : Int) / 2 ^ (7 - low) % 2 = if bitAt l j then 1 else 0) := hbv
      clear hbv
      have hnn : (0 : Int) ≤ (((byteAt l f).toNat : Nat) : Int) / 2 ^ (7 - low) := Int.ediv_nonneg (by omega) (Int.le_of_lt (Int.pow_pos (by omega)))
      by_cases hjn : j < n
      · have hjn' : (j : Int) < (n : Int) := by omega
        have d5 : decide ((j : Int) < (n : Int)) = true := by simp; omega
        rw [show min j n = j by omega] at ow
        have hst0 := take_bits l n j hjn
        cases hbit : bitAt l j
        · have hbv : ((((byteAt l f).toNat : Nat) : Int) / 2 ^ (7 - low)).tmod 2 = 0 := by rw [Int.tmod_eq_emod_of_nonneg hnn, HBV.out, hbit]; rfl
          rw [hbit] at hst0
          have hst : Hid (txt ((bitsTo l n).take j) ++ [48] = txt ((bitsTo l n).take (j + 1))) := hst0
          clear hbit hst0 hnn
          go_wp2_with (refine wp_appN rfl _ _ rfl w _ j _ rfl (ow.kept ((Fr.refl [] wr).alloc _)) _ 1 _ [48] rfl rfl (oneByte 48 (by omega) (by omega) wr) (by omega) (fun h => absurd h (by omega)) ?_; intro v5 w5 o5; rw [arr_append, hst.out] at o5)
          exact ⟨⟨j + 1, by omega, by go_num, by rw [show min (j + 1) n = j + 1 by omega]; exact o5, fun i h1 h2 => HZ.out i h1 (by omega)⟩, by simp [intOf]; omega⟩
        · have hbv : ((((byteAt l f).toNat : Nat) : Int) / 2 ^ (7 - low)).tmod 2 = 1 := by rw [Int.tmod_eq_emod_of_nonneg hnn, HBV.out, hbit]; rfl
          rw [hbit] at hst0
          have hst : Hid (txt ((bitsTo l n).take j) ++ [49] = txt ((bitsTo l n).take (j + 1))) := hst0
          clear hbit hst0 hnn
          go_wp2_with (refine wp_appN rfl _ _ rfl w _ j _ rfl (ow.kept ((Fr.refl [] wr).alloc _)) _ 1 _ [49] rfl rfl (oneByte 49 (by omega) (by omega) wr) (by omega) (fun h => absurd h (by omega)) ?_; intro v5 w5 o5; rw [arr_append, hst.out] at o5)
          exact ⟨⟨j + 1, by omega, by go_num, by rw [show min (j + 1) n = j + 1 by omega]; exact o5, fun i h1 h2 => HZ.out i h1 (by omega)⟩, by simp [intOf]; omega⟩
      · have d5 : decide ((j : Int) < (n : Int)) = false := by simp; omega
        have d5' : decide (j < n) = false := by simp; omega
        cases hbit : bitAt l j
        · have hbv : ((((byteAt l f).toNat : Nat) : Int) / 2 ^ (7 - low)).tmod 2 = 0 := by rw [Int.tmod_eq_emod_of_nonneg hnn, HBV.out, hbit]; rfl
          have HB : Hid (bitAt l j = false) := hbit
          have HO : Hid (Own w wr u6 (min (j + 1) n) (arr (txt ((bitsTo l n).take (j + 1)))).toList) := by
            show Own _ _ _ _ _
            rw [show min (j + 1) n = min j n by omega, List.take_of_length_le (by rw [bitsTo_length]; omega)]
            rw [List.take_of_length_le (by rw [bitsTo_length]; omega)] at ow
            exact ow
          clear hbit hnn hjn
          go_wp2_with fail
          refine ⟨⟨j + 1, by omega, by go_num, HO.out, fun i h1 h2 => ?_⟩, by simp [intOf]; omega⟩
          by_cases e : i = j
          · rw [e]; exact HB.out
          · exact HZ.out i h1 (by omega)
        · have hbv : ((((byteAt l f).toNat : Nat) : Int) / 2 ^ (7 - low)).tmod 2 = 1 := by rw [Int.tmod_eq_emod_of_nonneg hnn, HBV.out, hbit]; rfl
          have hno : Hid (¬ UnOk l n) := fun hu => by
            have := hu.2.2.2 j (by simp; omega)
            rw [hbit] at this
            cases this
          clear hbit hnn hjn
          go_wp2_with fail
          go_ret2
          exact ⟨Or.inr ⟨rfl, hno.out⟩, ow.2⟩
    · obtain rfl : j = T := by omega
      rw [show min j n = n by omega, List.take_of_length_le (by rw [bitsTo_length]; omega)] at ow
      have hu : Hid (UnOk l n) := unOk_len HL.out HM.out HT.out h HZ.out
      have hlen : Hid ((txt (bitsTo l n)).length = n) := by show _ = _; rw [txt_length, bitsTo_length]
      obtain ⟨ad2, cap2, rfl, hby2, hpl2⟩ := own_bytes ow hlen.out
      have HP : Hid (n = 0 → ad2 = none ∨ ∃ b off, ad2 = some ⟨b, off, none⟩) := hpl2
      clear hpl2
      go_wp2_with (refine wp_conv rfl _ rfl (txt (bitsTo l n)) _ n _ rfl hlen.out hby2 HP.out ?_)
      go_ret2
      exact ⟨Or.inl ⟨rfl, hu.out⟩, ow.2⟩

theorem runpack_any (w : World) (ad : Option Addr) (m c : Nat) (n : Int) (l : List UInt8) (hl : l.length = m) (hb : BytesAt w ad l) (h5 : m ≤ 5000) :
    Calls Tryz.prog 57 #[.slice ad m c, .int .i64 n] w fun e w' => ((e = .returned (.tuple #[.string (mkS (txt (bitsTo l n.toNat))), .bool true]) ∧ UnOk l n) ∨ (e = .returned (.tuple #[.string (mkS []), .bool false]) ∧ ¬ UnOk l n)) ∧ Fr [] w w' := by
  by_cases h0 : n < 0
  · exact (runpack_neg w ad m c n h0).mono fun _ _ h => ⟨Or.inr ⟨h.1, fun k => by have := k.1; omega⟩, h.2⟩
  by_cases h1 : 1048576 < n
  · exact (runpack_big w ad m c n (by omega) h1).mono fun _ _ h => ⟨Or.inr ⟨h.1, fun k => by have := k.2.1; omega⟩, h.2⟩
  obtain ⟨k, rfl⟩ : ∃ k : Nat, n = k := ⟨n.toNat, by omega⟩
  rw [Int.toNat_natCast]
  by_cases h2 : m = (k + 7) / 8
  · exact runpack_loop w ad m c k l hl hb (by omega) h2 h5
  · exact (runpack_len w ad m c k (by omega) h2).mono fun _ _ h => ⟨Or.inr ⟨h.1, fun q => h2 (by rw [← hl]; have := q.2.2.1; simpa using this)⟩, h.2⟩

end Go.Proofs.YtddcilmeignlmaaGreatDoor

