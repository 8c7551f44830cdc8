/-
  Pieces are put; bytes are written as a text's and as a value's.
-/
import Derived.Test.YtjdcfaaoicnajaaDoorPBld
namespace Go.Proofs.YtjdcfaaoicnajaaDoor
open Go.RowKit Go.Maps Go.Lib

/-- Pieces, one behind the other. -/
def cat (ps : List ByteArray) : List UInt8 := (ps.map bl).flatten
theorem cat_nil : cat [] = [] := rfl
theorem cat_cons (p : ByteArray) (ps : List ByteArray) : cat (p :: ps) = bl p ++ cat ps := by simp [cat]
theorem cat_take {ps : List ByteArray} {i : Nat} {x : ByteArray} (h : ps[i]? = some x) : cat (ps.take (i + 1)) = cat (ps.take i) ++ bl x := by
  have hi : i < ps.length := (List.getElem?_eq_some_iff.1 h).1
  have e : ps[i] = x := (List.getElem?_eq_some_iff.1 h).2
  rw [List.take_succ_eq_append_getElem hi, e]
  simp [cat]
theorem cat_len_take (ps : List ByteArray) (i : Nat) : (cat (ps.take i)).length ≤ (cat ps).length := by
  have : cat ps = cat (ps.take i) ++ cat (ps.drop i) := by unfold cat; rw [← List.flatten_append, ← List.map_append, List.take_append_drop]
  rw [this, List.length_append]
  omega
/-- Strings in a block of their own. -/
def Pcs (w : World) (q : Nat) (ps : List ByteArray) : Prop := w.heap[q]? = some (.cells (ps.map Value.string).toArray 9)
theorem Pcs.cell {w : World} {q : Nat} {ps : List ByteArray} (h : Pcs w q ps) {i : Nat} {x : ByteArray} (hx : ps[i]? = some x) : w.cell? ⟨q, i, none⟩ = some (.string x) := by
  rw [cell_of_row w q i _ _ _ h]
  simp [hx]
set_option maxHeartbeats 4000000 in
set_option maxRecDepth 100000 in
theorem put_any (w0 w : World) (b q c : Nat) (S : List Nat) (l : List UInt8) (h : WAt w0 w b (q :: S) l) (ps : List ByteArray) (hq : Pcs w q ps) (n : Nat) (hn : ps.length = n) (hn2 : n ≤ 1000) (hm : l.length + (cat ps).length ≤ 140737488355328) :
    Calls Tryd.prog 38 #[.pointer (some ⟨b, 0, none⟩), .slice (some ⟨q, 0, none⟩) n c] w fun e w' => e = .returned (.tuple #[]) ∧ WAt w0 w' b S (l ++ cat ps) ∧ Keep S w w' := by
  have HW := Hid.mk h
  have HQ := Hid.mk hq
  have HN := Hid.mk hn
  have HM := Hid.mk hm
  have hn' : (n : Int) ≤ 1000 := by omega
  clear h hq hn hm
  go_enter Tryd.func38, Tryd.ntmps38
  go_wp2_with go_in
  go_loopw [8] (fun s8 wr => ∃ i : Nat, i ≤ n ∧ s8 = .int .i64 (i : Int) ∧ Hid (WAt w0 wr b (q :: S) (l ++ cat (ps.take i))) ∧ Hid (Keep (q :: S) w wr)) (fun s8 _ => n - (RowKit.intOf s8).toNat)
  case atStart => exact ⟨0, by omega, rfl, by show WAt _ _ _ _ (l ++ cat (ps.take 0)); rw [List.take_zero, cat_nil, List.append_nil]; exact HW.out, Keep.refl _ _⟩
  case round =>
    obtain ⟨i, hi, rfl, hA, hK⟩ := hrel
    have hi0 : (0 : Int) ≤ (i : Int) := by omega
    by_cases hlt : i < n
    · have hlt' : (i : Int) < (n : Int) := by omega
      have hil : i < ps.length := by rw [HN.out]; exact hlt
      obtain ⟨x, hx⟩ : ∃ x, ps[i]? = some x := ⟨ps[i], List.getElem?_eq_getElem hil⟩
      have hQr : Pcs wr q ps := (hK.out q (by simp)).trans HQ.out
      have hc := hQr.cell hx
      have hct := Hid.mk (cat_take hx)
      have hcl := Hid.mk (show (l ++ cat (ps.take i)).length + x.size ≤ 140737488355328 from by
        have h1 := cat_len_take ps (i + 1)
        rw [hct.out, List.length_append, bl_length] at h1
        rw [List.length_append]
        have := HM.out
        omega)
      have hbl : b < wr.heap.size := by obtain ⟨p, ad, m, cap, h5⟩ := hA.out; exact h5.lt
      have cW := Hid.mk (writeString_any w0 wr b (q :: S) _ hA.out x hcl.out)
      clear hQr hx hil
      go_wp2_with (go_at_call 47; refine cW.out.mono ?_; rintro e w5 ⟨⟨v5, rfl⟩, a5, k5⟩)
      exact ⟨⟨i + 1, by omega, by go_num, by show WAt _ _ _ _ (l ++ cat (ps.take (i + 1))); rw [hct.out, ← List.append_assoc]; exact a5, hK.out.trans k5⟩, by simp [RowKit.intOf]; omega⟩
    · obtain rfl : i = n := by omega
      have hlt' : ¬ (i : Int) < (i : Int) := by omega
      go_wp2_with fail
      go_end0
      refine ⟨rfl, ?_, hK.out.sub (fun k hk => List.mem_cons_of_mem _ hk)⟩
      have h5 := hA.out
      rw [← HN.out, List.take_length] at h5
      exact h5.less (fun k hk => List.mem_cons_of_mem _ hk)
theorem pcs_new (w : World) (ps : List ByteArray) (cs : Array Value) (h : cs = (ps.map Value.string).toArray) : Pcs (w.alloc (.cells cs 9)) w.heap.size ps := by subst h; exact heap_alloc_new w _
/-- put of pieces that were just laid. -/
theorem put_new (w0 w : World) (b c n : Nat) (S : List Nat) (l : List UInt8) (h : WAt w0 w b S l) (ps : List ByteArray) (cs : Array Value) (hcs : cs = (ps.map Value.string).toArray) (hn : ps.length = n) (hn2 : n ≤ 1000) (hm : l.length + (cat ps).length ≤ 140737488355328) :
    Calls Tryd.prog 38 #[.pointer (some ⟨b, 0, none⟩), .slice (some ⟨w.heap.size, 0, none⟩) n c] (w.alloc (.cells cs 9)) fun e w' => e = .returned (.tuple #[]) ∧ WAt w0 w' b S (l ++ cat ps) ∧ Keep S w w' := by
  have f : Fr [] w (w.alloc (.cells cs 9)) := (Fr.refl _ _).alloc _
  refine (put_any w0 (w.alloc (.cells cs 9)) b w.heap.size c S l (h.more f (Nat.le_refl _) (by simp)) ps (pcs_new w ps cs hcs) n hn hn2 hm).mono ?_
  rintro e w' ⟨rfl, h1, h2⟩
  exact ⟨rfl, h1, (Keep.of_fr f h.lt').trans h2⟩

/-! ### bytes that a reference stands for -/
def inT (c : UInt8) : List UInt8 := if c = 38 then [38, 97, 109, 112, 59] else if c = 60 then [38, 108, 116, 59] else if c = 62 then [38, 103, 116, 59] else if c = 13 then [38, 35, 49, 51, 59] else []
def inV (c : UInt8) : List UInt8 := if c = 38 then [38, 97, 109, 112, 59] else if c = 60 then [38, 108, 116, 59] else if c = 34 then [38, 113, 117, 111, 116, 59] else if c = 9 then [38, 35, 57, 59] else if c = 10 then [38, 35, 49, 48, 59] else if c = 13 then [38, 35, 49, 51, 59] else []
theorem u8_ne {c d : UInt8} (h : ¬ c = d) : (((c.toNat : Nat) : Int) == ((d.toNat : Nat) : Int)) = false := by
  rw [beq_eq_false_iff_ne]
  intro e
  exact h (UInt8.toNat_inj.1 (Int.ofNat_inj.1 e))
set_option maxHeartbeats 2000000 in
theorem inText_any (w : World) (c : UInt8) : Calls Tryd.prog 37 #[.int .u8 (c.toNat : Int)] w fun e w' => e = .returned (.string (mkS (inT c))) ∧ w = w' := by
  unfold inT
  by_cases h1 : c = 38
  · subst h1; go_enter Tryd.func37, Tryd.ntmps37; go_wp2; go_ret; exact ⟨rfl, rfl⟩
  rw [if_neg h1]
  have g1 : (((c.toNat : Nat) : Int) == 38) = false := u8_ne (d := 38) h1
  by_cases h2 : c = 60
  · subst h2; go_enter Tryd.func37, Tryd.ntmps37; go_wp2; go_ret; exact ⟨rfl, rfl⟩
  rw [if_neg h2]
  have g2 : (((c.toNat : Nat) : Int) == 60) = false := u8_ne (d := 60) h2
  by_cases h3 : c = 62
  · subst h3; go_enter Tryd.func37, Tryd.ntmps37; go_wp2; go_ret; exact ⟨rfl, rfl⟩
  rw [if_neg h3]
  have g3 : (((c.toNat : Nat) : Int) == 62) = false := u8_ne (d := 62) h3
  by_cases h4 : c = 13
  · subst h4; go_enter Tryd.func37, Tryd.ntmps37; go_wp2; go_ret; exact ⟨rfl, rfl⟩
  rw [if_neg h4]
  have g4 : (((c.toNat : Nat) : Int) == 13) = false := u8_ne (d := 13) h4
  clear h1 h2 h3 h4
  generalize ((c.toNat : Nat) : Int) = x at g1 g2 g3 g4
  go_enter Tryd.func37, Tryd.ntmps37
  go_wp2
  go_ret
  exact ⟨rfl, rfl⟩
set_option maxHeartbeats 2000000 in
theorem inValue_any (w : World) (c : UInt8) : Calls Tryd.prog 39 #[.int .u8 (c.toNat : Int)] w fun e w' => e = .returned (.string (mkS (inV c))) ∧ w = w' := by
  unfold inV
  by_cases h1 : c = 38
  · subst h1; go_enter Tryd.func39, Tryd.ntmps39; go_wp2; go_ret; exact ⟨rfl, rfl⟩
  rw [if_neg h1]
  have g1 : (((c.toNat : Nat) : Int) == 38) = false := u8_ne (d := 38) h1
  by_cases h2 : c = 60
  · subst h2; go_enter Tryd.func39, Tryd.ntmps39; go_wp2; go_ret; exact ⟨rfl, rfl⟩
  rw [if_neg h2]
  have g2 : (((c.toNat : Nat) : Int) == 60) = false := u8_ne (d := 60) h2
  by_cases h3 : c = 34
  · subst h3; go_enter Tryd.func39, Tryd.ntmps39; go_wp2; go_ret; exact ⟨rfl, rfl⟩
  rw [if_neg h3]
  have g3 : (((c.toNat : Nat) : Int) == 34) = false := u8_ne (d := 34) h3
  by_cases h4 : c = 9
  · subst h4; go_enter Tryd.func39, Tryd.ntmps39; go_wp2; go_ret; exact ⟨rfl, rfl⟩
  rw [if_neg h4]
  have g4 : (((c.toNat : Nat) : Int) == 9) = false := u8_ne (d := 9) h4
  by_cases h5 : c = 10
  · subst h5; go_enter Tryd.func39, Tryd.ntmps39; go_wp2; go_ret; exact ⟨rfl, rfl⟩
  rw [if_neg h5]
  have g5 : (((c.toNat : Nat) : Int) == 10) = false := u8_ne (d := 10) h5
  by_cases h6 : c = 13
  · subst h6; go_enter Tryd.func39, Tryd.ntmps39; go_wp2; go_ret; exact ⟨rfl, rfl⟩
  rw [if_neg h6]
  have g6 : (((c.toNat : Nat) : Int) == 13) = false := u8_ne (d := 13) h6
  clear h1 h2 h3 h4 h5 h6
  generalize ((c.toNat : Nat) : Int) = x at g1 g2 g3 g4 g5 g6
  go_enter Tryd.func39, Tryd.ntmps39
  go_wp2
  go_ret
  exact ⟨rfl, rfl⟩
end Go.Proofs.YtjdcfaaoicnajaaDoor
