/-
  Of: the row that a text of 0s and 1s says.
-/
import Derived.Test.YtddcilmeignlmaaGreatDoorCut
namespace Go.Proofs.YtddcilmeignlmaaGreatDoor
open Go.RowKit

/-- A text is 0s and 1s. -/
def AllB (l : List UInt8) (k : Nat) : Prop := ∀ i, i < k → byteAt l i = 48 ∨ byteAt l i = 49
/-- The bits that a text says. -/
def said (l : List UInt8) : List Bool := l.map (· == 49)

/-- What Of has laid behind pos characters. -/
structure OfTo (l room : List UInt8) (K pos : Nat) : Prop where
  len : room.length = K
  bit : ∀ i, i < 8 * K → bitAt room i = (decide (i < pos) && byteAt l i == 49)

theorem OfTo.zero (l : List UInt8) (K : Nat) : OfTo l (List.replicate K 0) K 0 := ⟨by simp, fun i _ => by rw [bitAt_zeros]; simp⟩
theorem OfTo.nought {l room : List UInt8} {K pos : Nat} (h : OfTo l room K pos) (hb : byteAt l pos = 48) : OfTo l room K (pos + 1) := by
  refine ⟨h.len, fun i hi => ?_⟩
  rw [h.bit i hi]
  by_cases e : i = pos
  · subst e; rw [hb]; simp
  · have : (i < pos) ↔ (i < pos + 1) := by omega
    simp [this]
theorem OfTo.one {l room : List UInt8} {K pos : Nat} (h : OfTo l room K pos) (hb : byteAt l pos = 49) (hp : pos / 8 < K) : OfTo l (room.set (pos / 8) (byteAt room (pos / 8) ||| maskB pos)) K (pos + 1) := by
  refine ⟨by rw [List.length_set, h.len], fun i hi => ?_⟩
  rw [bitAt_set _ _ _ _ (by rw [h.len]; exact hp)]
  by_cases e8 : i / 8 = pos / 8
  · rw [if_pos e8, or_bit, byte_bit _ _ i e8, mask_bit _ _ (by omega), h.bit i hi]
    by_cases e : i = pos
    · subst e; rw [hb]; simp
    · have h1 : ¬ i % 8 = pos % 8 := by omega
      have h2 : (i < pos) ↔ (i < pos + 1) := by omega
      simp [h1, h2]
  · rw [if_neg e8, h.bit i hi]
    have h2 : (i < pos) ↔ (i < pos + 1) := by omega
    simp [h2]
theorem OfTo.rep {s : ByteArray} {room : List UInt8} {K : Nat} (h : OfTo (bl s) room K s.size) (hm : s.size ≤ 1048576) (hK : (s.size + 7) / 8 = K) : Rep (mkS room) s.size (said (bl s)) := by
  have hl : (said (bl s)).length = s.size := by simp [said, bl_length]
  have := Rep.of (l := room) (r := said (bl s)) (by rw [hl]; exact hm) (by rw [h.len, hl, hK]) (fun i hi => by
    rw [h.len] at hi
    rw [h.bit i hi]
    unfold said byteAt
    simp only [List.getD_eq_getElem?_getD, List.getElem?_map]
    by_cases h1 : i < s.size
    · rw [List.getElem?_eq_getElem (by rw [bl_length]; exact h1)]
      simp [h1]
    · rw [List.getElem?_eq_none (by rw [bl_length]; omega)]
      simp [h1])
  rw [hl] at this
  exact this

def itPos (w : World) (b : Nat) : Nat := match w.heap[b]? with | some (.stringIter _ p) => p | _ => 0
theorem IterAt.pos {w : World} {b : Nat} {s : ByteArray} {p : Nat} (h : IterAt w b s p) : itPos w b = p := by
  have h' : w.heap[b]? = some (.stringIter s p) := h
  unfold itPos
  rw [h']

set_option maxHeartbeats 2000000 in
set_option maxRecDepth 100000 in
theorem of_in (w : World) (s : ByteArray) (hm : s.size ≤ 1048576) :
    Calls Tryz.prog 35 #[.string s] w fun e w' => (((∃ u, e = .returned (.tuple #[bv u s.size, .bool true]) ∧ Rep u s.size (said (bl s))) ∧ AllB (bl s) s.size) ∨ (e = .returned (.tuple #[bv (mkS []) 0, .bool false]) ∧ ¬ AllB (bl s) s.size)) ∧ Fr [] w w' := by
  have hm1 : (s.size : Int) ≤ 1048576 := by omega
  obtain ⟨K, hK⟩ : ∃ K, (s.size + 7) / 8 = K := ⟨_, rfl⟩
  have HK : Hid ((s.size + 7) / 8 = K) := hK
  have hK1 : K ≤ 16777216 := by omega
  clear hK
  have bC0 := Box.zero w
  have f0 := (Fr.refl [] w).alloc (.cells #[.string { data := #[] }, .int .i64 0] 43)
  have s0 : w.heap.size + 1 ≤ (w.alloc (.cells #[.string { data := #[] }, .int .i64 0] 43)).heap.size := by simp
  go_enter Tryz.func35, Tryz.ntmps35
  go_wp2_with (first
    | (go_at_call 58; refine (bytesFor_k _ s.size K (by omega) HK.out).mono ?_; rintro e w5 ⟨rfl, rfl⟩)
    | (refine wp_make rfl _ _ rfl K rfl rfl hK1 ?_; intro w1 g s1 b1 f1; have bC1 := bC0.kept f1 (by simp); have g1 := f0.trans f1; have s2 : w.heap.size < g := (by omega); clear bC0 f0 f1 s1)
    | (refine wp_range rfl _ rfl s rfl ?_; intro w2 it s3 i2 f2; have bC2 := bC1.kept f2 (by simp); have g2 := g1.trans f2; have b2 := b1.kept f2 (by simp); have s4 : g < it := (by have := b1.lt; omega); clear bC1 g1 b1 f2)
    | go_in)
  go_frame
  go_loopw [17] (fun _ wr => ∃ pos room, pos ≤ s.size ∧ IterAt wr it s pos ∧ AllB (bl s) pos ∧ Blk wr g room ∧ OfTo (bl s) room K pos ∧ Fr [g, it] w2 wr) (fun _ wr => s.size - itPos wr it)
  case atStart => exact ⟨0, _, by omega, i2, (fun i hi => by omega), b2, OfTo.zero _ _, Fr.refl _ _⟩
  case round =>
    obtain ⟨pos, room, hpos, ir, hall, br, kr, fr⟩ := hrel
    have hip := ir.pos
    have bC := bC2.kept fr (by simp; omega)
    have HI : Hid (itPos wr it = pos) := hip
    clear hip
    by_cases hlt : pos < s.size
    · have hlt' : (pos : Int) < (s.size : Int) := by omega
      have hp0 : (0 : Int) ≤ (pos : Int) := by omega
      by_cases h48 : byteAt (bl s) pos = 48
      · have H48 : Hid (byteAt (bl s) pos = 48) := h48
        clear h48
        go_wp2_with (refine wp_next rfl _ rfl it s pos rfl ir hlt ?_)
        intro w3 c pos' i3 hpp hc1 hc2 f3
        rw [H48.out] at hc1
        obtain ⟨hc, rfl⟩ := hc1 (by decide)
        rw [show ((48 : UInt8).toNat : Int) = 48 from rfl] at hc
        subst hc
        clear hc1 hc2 hpp
        go_wp2
        refine ⟨⟨pos + 1, room, by omega, i3, ?_, br.kept f3 (by simp; omega), kr.nought H48.out, fr.then f3 (fun i _ hm => by simp at hm ⊢; omega)⟩, ?_⟩
        · intro i hi
          by_cases e : i = pos
          · rw [e]; exact Or.inl H48.out
          · exact hall i (by omega)
        · rw [i3.pos, HI.out]; omega
      · by_cases h49 : byteAt (bl s) pos = 49
        · have H49 : Hid (byteAt (bl s) pos = 49) := h49
          clear h48 h49
          obtain ⟨f, e1⟩ : ∃ f : Nat, (pos : Int) / 8 = (f : Int) := ⟨pos / 8, by omega⟩
          have hf : pos / 8 = f := by omega
          have hfK : f < K := by have := HK.out; omega
          have hfK' : (f : Int) < (K : Int) := by omega
          have kk := kr.one H49.out (by rw [hf]; exact hfK)
          rw [hf] at kk
          clear hf
          have hlr : f < room.length := by rw [kr.len]; exact hfK
          go_wp2_with (refine wp_next rfl _ rfl it s pos rfl ir hlt ?_)
          intro w3 c pos' i3 hpp hc1 hc2 f3
          rw [H49.out] at hc1
          obtain ⟨hc, rfl⟩ := hc1 (by decide)
          rw [show ((49 : UInt8).toNat : Int) = 49 from rfl] at hc
          subst hc
          clear hc1 hc2 hpp
          have b3 := br.kept f3 (by simp; omega)
          go_wp2
          have q3 := b3.cell f hlr
          have z3 := b3.frozen f
          have b4 := (b3.set f (byteAt room f ||| maskB pos)).drew
          have f4 := ((fr.then f3 (fun i _ hm => by simp at hm ⊢; omega)).setCell ⟨g, f, none⟩ (.int .u8 (byteAt room f ||| maskB pos).toNat) (by simp)).drew
          have i4 : IterAt (w3.setCell ⟨g, f, none⟩ (.int .u8 (byteAt room f ||| maskB pos).toNat)).drew it s (pos + 1) := i3.kept (L := [g]) ((Fr.refl [g] w3).setCell _ _ (by simp)).drew (by simp; omega)
          rw [← or_int] at b4 f4 i4
          have hall2 : AllB (bl s) (pos + 1) := fun i hi => by
            by_cases e : i = pos
            · rw [e]; exact Or.inr H49.out
            · exact hall i (by omega)
          have hwf : IntKind.i64.wrap (f : Int) = (f : Int) := wrapI (by omega) (by omega)
          have hf0 : (0 : Int) ≤ (f : Int) := by omega
          go_region_with (go_at_call 61; refine (maskAt_any _ pos (by omega)).mono ?_; rintro e w5 ⟨rfl, rfl⟩)
          all_goals generalize World.drew (w3.setCell ⟨g, f, none⟩ _) = w4 at b4 f4 i4 ⊢
          all_goals go_wp2
          all_goals exact ⟨⟨pos + 1, _, by omega, i4, hall2, b4, kk, f4⟩, by rw [i4.pos, HI.out]; omega⟩
        · have hno : ¬ AllB (bl s) s.size := fun h => by
            rcases h pos hlt with e | e
            · exact h48 e
            · exact h49 e
          have hx48 : ¬ (byteAt (bl s) pos).toNat = 48 := fun e => h48 (UInt8.toNat_inj.1 e)
          have hx49 : ¬ (byteAt (bl s) pos).toNat = 49 := fun e => h49 (UInt8.toNat_inj.1 e)
          go_wp2_with (refine wp_next rfl _ rfl it s pos rfl ir hlt ?_)
          intro w3 c pos' i3 hpp hc1 hc2 f3
          have c1 : (c == 48) = false := by
            rw [beq_eq_false_iff_ne]
            intro e
            by_cases hh : (byteAt (bl s) pos).toNat < 128
            · have := (hc1 hh).1; omega
            · have := hc2 (by omega); omega
          have c2 : (c == 49) = false := by
            rw [beq_eq_false_iff_ne]
            intro e
            by_cases hh : (byteAt (bl s) pos).toNat < 128
            · have := (hc1 hh).1; omega
            · have := hc2 (by omega); omega
          have bC3 := bC.kept f3 (by simp; omega)
          clear hc1 hc2
          go_wp2_with (first
            | (refine wp_storeB rfl _ _ rfl _ _ (mkS []) _ 0 rfl rfl bC3 ?_; intro w6 b6 f6; have g6 : Fr [] w w6 := ((g2.then fr (fun i hi hm => by simp at hm; omega)).then f3 (fun i hi hm => by simp at hm; omega)).then f6 (fun i hi hm => by simp at hm; omega)))
          refine bodyPost_ret (resB2 Tryz.results35 _ _ _ (mkS []) 0 rfl b6) rfl ?_
          exact ⟨Or.inr ⟨rfl, hno⟩, g6⟩
    · obtain rfl : pos = s.size := by omega
      have hl5 : Hid (room.length = K) := kr.len
      go_wp2_with (first
        | (refine wp_next_end rfl _ rfl it s _ rfl ir hlt ?_)
        | (refine wp_conv rfl _ rfl room _ K K rfl hl5.out br.bytes (fun _ => Or.inr ⟨_, _, rfl⟩) ?_)
        | (refine wp_storeB rfl _ _ rfl _ _ (mkS room) _ s.size rfl rfl bC ?_; intro w6 b6 f6; have g6 : Fr [] w w6 := (g2.then fr (fun i hi hm => by simp at hm; omega)).then f6 (fun i hi hm => by simp at hm; omega)))
      refine bodyPost_ret (resB2 Tryz.results35 _ _ _ (mkS room) s.size rfl b6) rfl ?_
      exact ⟨Or.inl ⟨⟨_, rfl, kr.rep hm HK.out⟩, hall⟩, g6⟩

set_option maxHeartbeats 1000000 in
theorem of_over (w : World) (s : ByteArray) (hm : 1048576 < s.size) (hi : s.size < 9223372036854775808) :
    Calls Tryz.prog 35 #[.string s] w fun e w' => e = .returned (.tuple #[bv (mkS []) 0, .bool false]) ∧ Fr [] w w' := by
  have h1 : (1048576 : Int) < (s.size : Int) := by omega
  have h2 : (s.size : Int) < 9223372036854775808 := by omega
  go_enter Tryz.func35, Tryz.ntmps35
  go_wp2
  exact bodyPost_ret (resB2 Tryz.results35 _ _ w.heap.size (mkS []) 0 rfl (Box.zero w)) rfl ⟨rfl, (Fr.refl _ _).alloc _⟩

end Go.Proofs.YtddcilmeignlmaaGreatDoor
