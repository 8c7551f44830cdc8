/-
  The document's own Get, where it refuses by lengths alone.
-/
import Derived.Test.YticmjdblcomecaaQRefP2
import Derived.Test.YticmjdblcomecaaQDecG
namespace Go.Proofs.Yticmjdblcomecaa
open Go.RowKit Go.Maps

theorem say_lt {l : List UInt8} (h : 14 ≤ l.length) : sayN l < 65536 := by
  have := val_cut_lt l 12 2 (by omega)
  exact this
theorem wrap_small (n : Nat) (h : n < 65536) : wrap64 (n : Int) = (n : Int) := by unfold wrap64; omega

set_option maxHeartbeats 400000 in
set_option maxRecDepth 100000 in
theorem rGet_short (w : World) (ad : Option Addr) (n c : Nat) (l : List UInt8) (hl : l.length = n) (h8 : n < 35) :
    Calls Try.prog 12 #[.slice ad n c] w fun e w' => GetTo w l e w' := by
  have HL : Hid (l.length = n) := hl
  clear hl
  have h8' : (n : Int) < 35 := by omega
  go_enter Try.func12, Try.ntmps12
  go_wp2_with (refine wp_storeR rfl _ _ rfl w.heap.size (zeroR 0 0) (zeroR 0 0) zeroS zeroS rfl rfl (heap_alloc_new w _) ?_; intro w2 rb2 f2)
  refine bodyPost_ret (resR3 rfl _ _ w.heap.size (zeroR 0 0) zeroS rfl rb2) rfl (Or.inl ⟨?_, rfl, ((Fr.refl [] w).alloc _).then f2 (fun i hi hm => by simp at hm; omega)⟩)
  rw [← getR_eq]
  unfold getR
  rw [if_pos (by rw [HL.out]; exact h8)]

set_option maxHeartbeats 400000 in
set_option maxRecDepth 100000 in
theorem rGet_bad (w : World) (ad : Option Addr) (n c : Nat) (l : List UInt8) (hl : l.length = n) (hn : n ≤ 100000) (hb : BytesAt w ad l) (h8 : 35 ≤ n) (hbad : sayN l < 17 ∨ l.length < 18 + sayN l) :
    Calls Try.prog 12 #[.slice ad n c] w fun e w' => GetTo w l e w' := by
  have HL : Hid (l.length = n) := hl
  have h8' : ¬ (n : Int) < 35 := by omega
  have hN := say_lt (l := l) (by omega)
  have HG : Hid (getR l = none) := by
    have h : getR l = none := by
      unfold getR
      rw [if_neg (by omega), if_pos hbad]
    exact h
  obtain ⟨N, HN⟩ : ∃ N, Hid (sayN l = N) := ⟨_, rfl⟩
  have ew : wrap64 (valL ((l.drop 12).take 2) : Nat) = (N : Int) := by rw [← HN.out]; exact wrap_small _ hN
  rw [HN.out] at hN hbad
  rw [hl] at hbad
  clear hl
  have hw : IntKind.i64.wrap (18 + (N : Int)) = 18 + (N : Int) := by simp [IntKind.wrap, IntKind.signed, IntKind.bits]; omega
  by_cases hq : N < 17
  · have hq' : (N : Int) < 17 := by omega
    go_enter Try.func12, Try.ntmps12
    go_wp2_with fail
    refine (rget_any _ ad n c 12 2 l HL.out (hb.kept ((Fr.refl [] w).alloc _) (by simp)) (by omega) (by omega) (by omega)).mono ?_
    rintro e w1 ⟨rfl, rfl⟩
    rw [ew]
    go_wp2_with (refine wp_storeR rfl _ _ rfl w.heap.size (zeroR 0 0) (zeroR 0 0) zeroS zeroS rfl rfl (heap_alloc_new w _) ?_; intro w2 rb2 f2)
    refine bodyPost_ret (resR3 rfl _ _ w.heap.size (zeroR 0 0) zeroS rfl rb2) rfl (Or.inl ⟨?_, rfl, ((Fr.refl [] w).alloc _).then f2 (fun i hi hm => by simp at hm; omega)⟩)
    rw [← getR_eq]
    exact HG.out
  · have hq' : ¬ (N : Int) < 17 := by omega
    have hq2 : (n : Int) < 18 + (N : Int) := by omega
    go_enter Try.func12, Try.ntmps12
    go_wp2_with fail
    refine (rget_any _ ad n c 12 2 l HL.out (hb.kept ((Fr.refl [] w).alloc _) (by simp)) (by omega) (by omega) (by omega)).mono ?_
    rintro e w1 ⟨rfl, rfl⟩
    rw [ew]
    go_wp2_with (refine wp_storeR rfl _ _ rfl w.heap.size (zeroR 0 0) (zeroR 0 0) zeroS zeroS rfl rfl (heap_alloc_new w _) ?_; intro w2 rb2 f2)
    refine bodyPost_ret (resR3 rfl _ _ w.heap.size (zeroR 0 0) zeroS rfl rb2) rfl (Or.inl ⟨?_, rfl, ((Fr.refl [] w).alloc _).then f2 (fun i hi hm => by simp at hm; omega)⟩)
    rw [← getR_eq]
    exact HG.out

end Go.Proofs.Yticmjdblcomecaa
