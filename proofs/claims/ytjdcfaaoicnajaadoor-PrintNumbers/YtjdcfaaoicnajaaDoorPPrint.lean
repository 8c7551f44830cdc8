/-
  What was written is told; Print, Node, Escape, Quote.
-/
import Derived.Test.YtjdcfaaoicnajaaDoorPNode3
import Derived.Test.YtjdcfaaoicnajaaDoorTNone
namespace Go.Proofs.YtjdcfaaoicnajaaDoor
open Go.RowKit Go.Maps Go.Lib

theorem fr_freeze (w : World) (g n : Nat) : Fr [g] w (w.freeze ⟨g, 0, none⟩ n) := by
  unfold World.freeze
  split
  · exact Fr.refl _ _
  · refine ⟨rfl, rfl, rfl, by simp, fun k hk hn => ?_⟩
    simp only [Array.getElem?_modify]
    rw [if_neg (by simp at hn; omega)]
set_option maxHeartbeats 1000000 in
set_option maxRecDepth 100000 in
theorem wstring_some (w0 w : World) (b : Nat) (S : List Nat) (l : List UInt8) (h : WAt w0 w b S l) (h0 : l ≠ []) (hb : l.length ≤ 140737488355328) :
    Calls Tryd.prog 27 #[.pointer (some ⟨b, 0, none⟩)] w fun e w' => e = .returned (.string (mkS l)) ∧ Fr [] w0 w' := by
  obtain ⟨p, ad, n, cap, h⟩ := h
  have hl := h.len
  have hn0 : n ≠ 0 := by rintro rfl; exact h0 (List.eq_nil_of_length_eq_zero hl)
  have hown := h.own
  have hfr := h.fr
  have c1' := h.c1
  have hlt := h.lt
  obtain ⟨g, cap, cur, e, hbg, hg, hnc, hcm, hcs, htake⟩ : ∃ g cap' cur, Value.slice ad n cap = .slice (some ⟨g, 0, none⟩) n cap' ∧ w0.heap.size ≤ g ∧ w.heap[g]? = some (.cells cur 5 (0, 0)) ∧ n ≤ cap' ∧ cap' ≤ maxLen ∧ cur.size = cap' * 1 ∧ cur.toList.take (n * 1) = (arr l).toList := by
    rcases hown.2 with ⟨_, hz⟩ | ⟨g, cap, cur, hv, r⟩
    · exact absurd hz hn0
    · exact ⟨g, cap, cur, hv, r⟩
  cases e
  have c1 : w.drew.cell? ⟨b, 1, none⟩ = some (.slice (some ⟨g, 0, none⟩) n cap) := c1'
  have hSD : (Builtin.unsafeSliceData_ #[34] 59 #[.slice (some ⟨g, 0, none⟩) n cap]).run Tryd.prog w.drew = .ok (.pointer (some ⟨g, 0, none⟩)) w.drew :=
    Lib.run_unsafeSliceData_row _ _ _ _ _ _ (by omega)
  have hUS : (Builtin.unsafeString_ #[59, 3] 9 #[.pointer (some ⟨g, 0, none⟩), .int .i64 (n : Int)]).run Tryd.prog w.drew = .ok (.string (mkS l)) (w.drew.freeze ⟨g, 0, none⟩ n) := by
    subst hl
    refine Lib.run_unsafeString_row w.drew 59 3 9 5 Tryd.underlying59 (by kernel_rfl) g cur.size (by have hg' : w.drew.heap[g]? = some (.cells cur 5 (0, 0)) := hg; simp [World.shape?, hg']) l h0 (by omega) (by unfold maxLen at hcm; omega) ?_
    intro j x hx
    exact hown.cells (g := g) rfl j (.int .u8 x.toNat) (by simp [arr, hx])
  have hend : Fr [] w0 (w.drew.freeze ⟨g, 0, none⟩ n) := hfr.drew.then (fr_freeze _ g n) (fun i hi hm => by simp at hm; omega)
  have mixed : Tryd.prog.follows .mixedOrders = true := by kernel_rfl
  clear hown hfr h hl htake hg c1'
  go_enter Tryd.func27, Tryd.ntmps27
  go_wp2
  go_region_o
  all_goals (go_wp2; go_ret; exact ⟨rfl, hend⟩)
set_option maxHeartbeats 1000000 in
set_option maxRecDepth 100000 in
theorem wstring_none (w0 w : World) (b : Nat) (S : List Nat) (h : WAt w0 w b S []) :
    Calls Tryd.prog 27 #[.pointer (some ⟨b, 0, none⟩)] w fun e w' => e = .returned (.string (mkS [])) ∧ Fr [] w0 w' := by
  obtain ⟨p, ad, n, cap, h⟩ := h
  have hl := h.len
  obtain rfl : n = 0 := hl.symm
  have c1 : w.drew.cell? ⟨b, 1, none⟩ = some (.slice ad 0 cap) := h.c1
  have hlt := h.lt
  have hend : Fr [] w0 w.drew := h.fr.drew
  obtain rfl : ad = none := h.nil rfl
  have hSD : (Builtin.unsafeSliceData_ #[34] 59 #[.slice none 0 cap]).run Tryd.prog w.drew = .ok (.pointer none) w.drew := Lib.run_unsafeSliceData_nil _ _ _ _ _
  have hUS : (Builtin.unsafeString_ #[59, 3] 9 #[.pointer none, .int .i64 0]).run Tryd.prog w.drew = .ok (.string (mkS [])) w.drew := Lib.run_unsafeString_none _ _ _ _ _
  have mixed : Tryd.prog.follows .mixedOrders = true := by kernel_rfl
  clear h hl
  go_enter Tryd.func27, Tryd.ntmps27
  go_wp2
  go_region_o
  all_goals (go_wp2; go_ret; exact ⟨rfl, hend⟩)
theorem wstring_any (w0 w : World) (b : Nat) (S : List Nat) (l : List UInt8) (h : WAt w0 w b S l) (hb : l.length ≤ 140737488355328) :
    Calls Tryd.prog 27 #[.pointer (some ⟨b, 0, none⟩)] w fun e w' => e = .returned (.string (mkS l)) ∧ Fr [] w0 w' := by
  by_cases h0 : l = []
  · subst h0; exact wstring_none w0 w b S h
  · exact wstring_some w0 w b S l h h0 hb
set_option maxHeartbeats 2000000 in
theorem Escape_any (w : World) (s : ByteArray) (hs : s.size ≤ 1000000) :
    Calls Tryd.prog 14 #[.string s] w fun e w' => e = .returned (.string (mkS (escT s))) ∧ Fr [] w w' := by
  have hb : (escT s).length ≤ 140737488355328 := by have := escT_len s; omega
  have cT := Hid.mk (wtext_any w _ w.heap.size [] [] (WAt.new (Fr.refl [] w)) s hs (by simpa using hb))
  have HB := Hid.mk hb
  clear hb hs
  go_enter Tryd.func14, Tryd.ntmps14
  go_wp2_with fail
  refine cT.out.mono ?_
  rintro e w5 ⟨rfl, a5, k5⟩
  have hl5 : w.heap.size < w5.heap.size := by obtain ⟨p, ad, n, cap, h⟩ := a5; exact h.lt
  have cS := Hid.mk (wstring_any w w5 w.heap.size [] _ a5 (by simpa using HB.out))
  rw [List.nil_append] at cS
  clear a5 k5 cT
  generalize w.heap.size = bb at cS hl5
  go_wp2_with fail
  refine cS.out.mono ?_
  rintro e w6 ⟨rfl, f6⟩
  go_wp2_with fail
  go_ret
  exact ⟨rfl, f6⟩
set_option maxHeartbeats 2000000 in
theorem Quote_any (w : World) (s : ByteArray) (hs : s.size ≤ 1000000) :
    Calls Tryd.prog 16 #[.string s] w fun e w' => e = .returned (.string (mkS (quoV s))) ∧ Fr [] w w' := by
  have hb : (quoV s).length ≤ 140737488355328 := by have := quoV_len s; omega
  have cT := Hid.mk (wvalue_any w _ w.heap.size [] [] (WAt.new (Fr.refl [] w)) s hs (by simpa using hb))
  have HB := Hid.mk hb
  clear hb hs
  go_enter Tryd.func16, Tryd.ntmps16
  go_wp2_with fail
  refine cT.out.mono ?_
  rintro e w5 ⟨rfl, a5, k5⟩
  have hl5 : w.heap.size < w5.heap.size := by obtain ⟨p, ad, n, cap, h⟩ := a5; exact h.lt
  have cS := Hid.mk (wstring_any w w5 w.heap.size [] _ a5 (by simpa using HB.out))
  rw [List.nil_append] at cS
  clear a5 k5 cT
  generalize w.heap.size = bb at cS hl5
  go_wp2_with fail
  refine cS.out.mono ?_
  rintro e w6 ⟨rfl, f6⟩
  go_wp2_with fail
  go_ret
  exact ⟨rfl, f6⟩
end Go.Proofs.YtjdcfaaoicnajaaDoor
