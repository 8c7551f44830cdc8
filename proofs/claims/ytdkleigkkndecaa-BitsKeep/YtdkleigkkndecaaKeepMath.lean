/-
  What BitsKeep wants of rows: plain mathematics; Unpack at what was packed.
-/
import Derived.Test.YtdkleigkkndecaaSign
import Derived.Test.YtdkleigkkndecaaBOrder
import Derived.Deep.Cut
namespace Go.Proofs.Ytdkleigkkndecaa
open Go.RowKit Go.Lib

theorem Fr.put2 {a w : World} (h : Fr [] a w) {b : Nat} (hb : a.heap.size ≤ b) (u v : Value) : Fr [] a ((w.setCell ⟨b, 0, none⟩ u).setCell ⟨b, 1, none⟩ v) :=
  (h.setCell ⟨b, 0, none⟩ u (fun hh => absurd hh (by simp; omega))).setCell ⟨b, 1, none⟩ v (fun hh => absurd hh (by simp; omega))
theorem Box.put {w : World} {b n : Nat} {s : ByteArray} (h : Box w b s n) (t : ByteArray) (m : Nat) : Box ((w.setCell ⟨b, 0, none⟩ (.string t)).setCell ⟨b, 1, none⟩ (.int .i64 (m : Int))) b t m := by
  have h1 := heap_setCell_same w b 0 _ _ (.string t) h
  have h2 := heap_setCell_same _ b 1 _ _ (.int .i64 (m : Int)) h1
  unfold Box
  rw [h2]
  rfl
theorem Box.fz {w : World} {b n : Nat} {s : ByteArray} (h : Box w b s n) (j : Nat) : w.frozen? ⟨b, j, none⟩ = false := frozen_of_row w b j _ _ h

/-- A row of bits that was laid ahead of a call. -/
theorem allocd {W0 cur w5 : World} (gg : Fr [] W0 cur) (f5 : Fr [] (cur.alloc (.cells #[.string { data := #[] }, .int .i64 0] 24)) w5) : Box w5 cur.heap.size (mkS []) 0 ∧ Fr [] W0 w5 ∧ W0.heap.size ≤ cur.heap.size :=
  ⟨(Box.zero cur).kept f5 (by simp), (gg.alloc _).trans f5, gg.size⟩
theorem allocdD {W0 cur w5 : World} (gg : Fr [] W0 cur.drew) (f5 : Fr [] (cur.alloc (.cells #[.string { data := #[] }, .int .i64 0] 24)).drew w5) : Box w5 cur.heap.size (mkS []) 0 ∧ Fr [] W0 w5 ∧ W0.heap.size ≤ cur.heap.size := allocd (cur := cur.drew) gg f5
theorem BytesAt.allocd {cur w5 : World} {ad : Option Addr} {l : List UInt8} (h : BytesAt cur ad l) (f5 : Fr [] (cur.alloc (.cells #[.string { data := #[] }, .int .i64 0] 24)) w5) : BytesAt w5 ad l :=
  (h.kept ((Fr.refl [] cur).alloc _) (by simp)).kept f5 (by simp)

theorem Rep.unOk {s : ByteArray} {n : Nat} {r : List Bool} (h : Rep s n r) : UnOk (bl s) n :=
  ⟨by omega, by have := h.most; omega, by rw [h.bl_len]; rfl, fun i hi => by
    rw [h.bit]
    simp only [List.getD_eq_getElem?_getD]
    rw [List.getElem?_eq_none (by rw [h.len]; simpa using hi)]
    rfl⟩

theorem unpack_back (w : World) (ad : Option Addr) (K c n : Nat) (s : ByteArray) (r : List Bool) (h : Rep s n r) (hK : (bl s).length = K) (hb : BytesAt w ad (bl s)) (hp : Plain ad) :
    Calls Try.prog 23 #[.slice ad K c, .int .i64 (n : Int)] w fun e w' => e = .returned (.tuple #[bv s n, .bool true]) ∧ Fr [] w w' := by
  refine (unpack_any w ad K c n (bl s) hK hb hp).mono ?_
  rintro e w' ⟨h2, f⟩
  rcases h2 with ⟨he, _⟩ | ⟨_, hno⟩
  · rw [mkS_bl, Int.toNat_natCast] at he
    exact ⟨he, f⟩
  · exact absurd h.unOk hno

theorem getD_ge {r : List Bool} {i : Nat} (h : r.length ≤ i) : r.getD i false = false := by
  simp only [List.getD_eq_getElem?_getD]
  rw [List.getElem?_eq_none h]
  rfl
theorem beg_app (r q : List Bool) (n : Nat) (h : r.length = n) : ((r ++ q).take n == r) = true := by
  subst h
  simp
theorem stand_app0 (r : List Bool) : stand r (r ++ []) = 0 := by rw [List.append_nil, stand_self]
theorem stand_app (r q : List Bool) (h : 0 < q.length) : stand r (r ++ q) = -1 := by
  unfold stand
  refine cb_pre _ _ (by rw [txt_length, txt_length, List.length_append]; omega) (fun j hj => ?_)
  rw [txt_length] at hj
  rw [byteAt_txt r j hj, byteAt_txt (r ++ q) j (by rw [List.length_append]; omega), getD_append, if_pos hj]
theorem stand_one (r q : List Bool) : stand r ((r ++ [true]) ++ q) = -1 := by
  rw [List.append_assoc]
  exact stand_app r _ (by simp)
theorem cb_one {s g : ByteArray} {n N : Nat} {r q : List Bool} (h : Rep s n r) (k : Rep g N ((r ++ [true]) ++ q)) : compareBytes (bl s) (bl g) = -1 := by
  refine cb_bits _ _ n (fun j hj => ?_) ?_ ?_
  · rw [h.bit, k.bit, List.append_assoc, getD_append, if_pos (by rw [h.len]; exact hj)]
  · rw [h.bit, getD_ge (by rw [h.len]; omega)]
  · rw [k.bit, List.append_assoc, getD_append, if_neg (by rw [h.len]; omega), h.len, Nat.sub_self]
    rfl
theorem getD_take (r : List Bool) (k i : Nat) (h : i < k) : (r.take k).getD i false = r.getD i false := by
  simp only [List.getD_eq_getElem?_getD, List.getElem?_take, if_pos h]
theorem keep_last {s t : ByteArray} {n m : Nat} {r q : List Bool} (h : Rep s n r) (k : Rep t m q) (j : Nat) (hj : min n m = j) (hne : ¬ stand (r.take j) (q.take j) = 0) : stand r q = compareBytes (bl s) (bl t) := by
  have hl1 : (r.take j).length = j := by rw [List.length_take, h.len]; omega
  have hl2 : (q.take j).length = j := by rw [List.length_take, k.len]; omega
  have hd : ∃ i, i < j ∧ r.getD i false ≠ q.getD i false := by
    apply Classical.byContradiction
    intro hno
    apply hne
    have : r.take j = q.take j := by
      apply List.ext_getElem (by rw [hl1, hl2])
      intro i h1 h2
      have hi : i < j := by omega
      have e : r.getD i false = q.getD i false := Classical.byContradiction fun hx => hno ⟨i, hi, hx⟩
      simp only [List.getElem_take]
      have g1 : i < r.length := by rw [h.len]; omega
      have g2 : i < q.length := by rw [k.len]; omega
      simpa [g1, g2] using e
    rw [this, stand_self]
  obtain ⟨i, ⟨hi, hx⟩, hmin⟩ := least hd
  have he : ∀ l, l < i → r.getD l false = q.getD l false := fun l hl => Classical.byContradiction fun hx => hmin l hl ⟨by omega, hx⟩
  have he' : ∀ l, l < i → bitAt (bl s) l = bitAt (bl t) l := fun l hl => by rw [h.bit, k.bit]; exact he l hl
  cases hr : r.getD i false
  · cases hq : q.getD i false
    · rw [hr, hq] at hx; exact absurd rfl hx
    · rw [stand_bits r q i he hr hq, cb_bits _ _ i he' (by rw [h.bit]; exact hr) (by rw [k.bit]; exact hq)]
  · cases hq : q.getD i false
    · rw [stand_sym q r, stand_bits q r i (fun l hl => (he l hl).symm) hq hr, cb_bits' _ _ i he' (by rw [h.bit]; exact hr) (by rw [k.bit]; exact hq)]
      rfl
    · rw [hr, hq] at hx; exact absurd rfl hx

end Go.Proofs.Ytdkleigkkndecaa
