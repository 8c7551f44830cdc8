/-
  What the document tells of a page: Check, Kind, Next, Count, Room, Get.
-/
import Derived.Test.YtlfpoeimgoikkaaGRefO
namespace Go.Proofs.Ytlfpoeimgoikkaa
open Go.RowKit Go.Maps

theorem of_any (w : World) (ad : Option Addr) (n c : Nat) (l : List UInt8) (h : SlAt w ad n c l) :
    Calls Try.prog 57 #[.slice ad n c] w fun r w' => OfTo w l r w' := by
  by_cases hn : n = 512
  · obtain ⟨g, o, rfl, h5⟩ := h.at512 hn
    subst hn
    exact of_512 w g o c l h5
  · exact of_len w ad n c l h.len hn

theorem kindOf_none {l : List UInt8} (h : pageOf l = none) : kindOf l = 0 := by unfold kindOf; rw [(okP_none h).1]; rfl
theorem kindOf_some {l : List UInt8} {cs : List (List UInt8)} (h : pageOf l = some cs) : kindOf l = (byteAt l 0).toNat := by unfold kindOf; rw [(okP_some h).1]; rfl
theorem nextOf_none {l : List UInt8} (h : pageOf l = none) : nextOf l = 0 := by unfold nextOf; rw [(okP_none h).1]; rfl
theorem nextOf_some {l : List UInt8} {cs : List (List UInt8)} (h : pageOf l = some cs) : nextOf l = num4 l 2 := by unfold nextOf; rw [(okP_some h).1]; rfl
theorem roomOf_none {l : List UInt8} (h : pageOf l = none) : roomOf l = 0 := by unfold roomOf; rw [(okP_none h).1]; rfl
theorem roomOf_some {l : List UInt8} {cs : List (List UInt8)} (h : pageOf l = some cs) : (roomOf l : Int) = 506 - elen cs := by
  unfold roomOf
  rw [(okP_some h).1, (okP_some h).2]
  have := (Pg.of h).fits
  show ((512 - (6 + elen cs) : Nat) : Int) = _
  omega
theorem ret_bool {a b : Bool} (h : a = b) : Ending.returned (.bool a) = .returned (.bool b) := by rw [h]

set_option maxHeartbeats 1000000 in
set_option maxRecDepth 100000 in
theorem refCheck_any (w : World) (ad : Option Addr) (n c : Nat) (l : List UInt8) (h : SlAt w ad n c l) :
    Calls Try.prog 36 #[.slice ad n c] w fun r w' => r = .returned (.bool (okP l)) ∧ Fr [] w w' := by
  go_enter Try.func36, Try.ntmps36
  go_wp2_with fail
  refine (of_any _ _ _ _ l h).mono ?_
  rintro e w1 (⟨hp, rfl, f1⟩ | ⟨cs, ad1, n1, cap1, E, hp, rfl, pg, hE, f1⟩)
  · have HP : Hid (okP l = false) := (okP_none hp).1
    clear hp
    go_wp2_with fail
    go_ret
    exact ⟨ret_bool (by rw [HP.out]), f1.alloc _⟩
  · have HP : Hid (okP l = true) := (okP_some hp).1
    clear hp
    go_wp2_with fail
    go_ret
    exact ⟨ret_bool (by rw [HP.out]), f1.alloc _⟩

set_option maxHeartbeats 1000000 in
set_option maxRecDepth 100000 in
theorem refKind_any (w : World) (ad : Option Addr) (n c : Nat) (l : List UInt8) (h : SlAt w ad n c l) :
    Calls Try.prog 37 #[.slice ad n c] w fun r w' => r = .returned (.int .u8 (kindOf l)) ∧ Fr [] w w' := by
  go_enter Try.func37, Try.ntmps37
  go_wp2_with fail
  refine (of_any _ _ _ _ l h).mono ?_
  rintro e w1 (⟨hp, rfl, f1⟩ | ⟨cs, ad1, n1, cap1, E, hp, rfl, pg, hE, f1⟩)
  · have HP : Hid (kindOf l = 0) := kindOf_none hp
    clear hp
    go_wp2_with fail
    go_ret
    exact ⟨ret_int (by rw [HP.out]; rfl), f1.alloc _⟩
  · have HP : Hid (kindOf l = (byteAt l 0).toNat) := kindOf_some hp
    clear hp
    go_wp2_with fail
    go_ret
    exact ⟨ret_int (by rw [HP.out]), f1.alloc _⟩

set_option maxHeartbeats 1000000 in
set_option maxRecDepth 100000 in
theorem refNext_any (w : World) (ad : Option Addr) (n c : Nat) (l : List UInt8) (h : SlAt w ad n c l) :
    Calls Try.prog 38 #[.slice ad n c] w fun r w' => r = .returned (.int .i64 (nextOf l)) ∧ Fr [] w w' := by
  go_enter Try.func38, Try.ntmps38
  go_wp2_with fail
  refine (of_any _ _ _ _ l h).mono ?_
  rintro e w1 (⟨hp, rfl, f1⟩ | ⟨cs, ad1, n1, cap1, E, hp, rfl, pg, hE, f1⟩)
  · have HP : Hid (nextOf l = 0) := nextOf_none hp
    clear hp
    go_wp2_with fail
    go_ret
    exact ⟨ret_int (by rw [HP.out]; rfl), f1.alloc _⟩
  · have HP : Hid (nextOf l = num4 l 2) := nextOf_some hp
    clear hp
    go_wp2_with fail
    go_ret
    exact ⟨ret_int (by rw [HP.out]), f1.alloc _⟩

set_option maxHeartbeats 1000000 in
set_option maxRecDepth 100000 in
theorem refCount_any (w : World) (ad : Option Addr) (n c : Nat) (l : List UInt8) (h : SlAt w ad n c l) :
    Calls Try.prog 39 #[.slice ad n c] w fun r w' => r = .returned (.int .i64 (cellsOf l).length) ∧ Fr [] w w' := by
  go_enter Try.func39, Try.ntmps39
  go_wp2_with fail
  refine (of_any _ _ _ _ l h).mono ?_
  rintro e w1 (⟨hp, rfl, f1⟩ | ⟨cs, ad1, n1, cap1, E, hp, rfl, pg, hE, f1⟩)
  · have HP : Hid ((cellsOf l).length = 0) := by show _ = 0; rw [cells_none hp]; rfl
    clear hp
    go_wp2_with fail
    go_ret
    exact ⟨ret_int (by rw [HP.out]; rfl), f1.alloc _⟩
  · have HP : Hid ((cellsOf l).length = n1) := by show _ = n1; rw [cells_some hp, ← hE, rcells_length, pg.len]
    clear hp
    go_wp2_with fail
    go_ret
    exact ⟨ret_int (by rw [HP.out]), f1.alloc _⟩

set_option maxHeartbeats 1000000 in
set_option maxRecDepth 100000 in
theorem refRoom_any (w : World) (ad : Option Addr) (n c : Nat) (l : List UInt8) (h : SlAt w ad n c l) :
    Calls Try.prog 40 #[.slice ad n c] w fun r w' => r = .returned (.int .i64 (roomOf l)) ∧ Fr [] w w' := by
  go_enter Try.func40, Try.ntmps40
  go_wp2_with fail
  refine (of_any _ _ _ _ l h).mono ?_
  rintro e w1 (⟨hp, rfl, f1⟩ | ⟨cs, ad1, n1, cap1, E, hp, rfl, pg, hE, f1⟩)
  · have HP : Hid (roomOf l = 0) := roomOf_none hp
    clear hp
    go_wp2_with fail
    go_ret
    exact ⟨ret_int (by rw [HP.out]; rfl), f1.alloc _⟩
  · have HP : Hid ((roomOf l : Int) = 506 - elen (rcells E)) := by show _ = _; rw [hE]; exact roomOf_some hp
    have hfit : elen (rcells E) ≤ 506 := by rw [hE]; exact (Pg.of hp).fits
    have hfew : n1 ≤ 253 := by rw [← pg.len, ← rcells_length, hE]; exact (Pg.of hp).few
    clear hp hE
    go_wp2_with fail
    have pb : PBox (w1.alloc (.cells #[.int .u8 ((byteAt l 0).toNat : Int), .int .i64 (num4 l 2 : Int), .slice ad1 n1 cap1] 75)) w1.heap.size _ _ (.slice ad1 n1 cap1) := heap_alloc_new w1 _
    have f2 := f1.alloc (.cells #[.int .u8 ((byteAt l 0).toNat : Int), .int .i64 (num4 l 2 : Int), .slice ad1 n1 cap1] 75)
    have pg2 := pg.kept ((Fr.refl [] w1).alloc (.cells #[.int .u8 ((byteAt l 0).toNat : Int), .int .i64 (num4 l 2 : Int), .slice ad1 n1 cap1] 75))
    generalize w1.alloc (.cells #[.int .u8 ((byteAt l 0).toNat : Int), .int .i64 (num4 l 2 : Int), .slice ad1 n1 cap1] 75) = w2 at pb f2 pg2 ⊢
    generalize w1.heap.size = xb at pb ⊢
    have c2 := pb.c2
    clear pb pg
    go_loop [5, 6] (fun r i => ∃ j : Nat, j ≤ n1 ∧ i = .int .i64 j ∧ r = .int .i64 (506 - (elen (rcells (E.take j)) : Int))) (fun _ i => n1 - (intOf i).toNat)
    case atStart => exact ⟨0, by omega, rfl, rfl⟩
    case round =>
      obtain ⟨j, hj, rfl, rfl⟩ := hrel
      have hel := pg2.len
      by_cases hlt : j < n1
      · have hlt' : (j : Int) < n1 := by omega
        have hte : j < E.length := by omega
        obtain ⟨ba, bo, hAD, hcell⟩ := pg2.vals j E[j].val (by simp [rvals, hte])
        have htk : E.take (j + 1) = E.take j ++ [E[j]] := List.take_succ_eq_append_getElem hte
        have hbl := (pg2.ok E[j] (List.getElem_mem _)).len
        have hlen1 : elen (rcells (E.take (j + 1))) = elen (rcells (E.take j)) + 2 + E[j].n := by
          rw [htk]
          unfold rcells
          rw [List.map_append, elen_append]
          show elen _ + elen [E[j].l] = _
          rw [elen_one, hbl]
          omega
        have hsp : elen (rcells (E.take (j + 1))) ≤ elen (rcells E) := by
          have h1 := elen_split (rcells E) (j + 1)
          have h2 : (rcells E).take (j + 1) = rcells (E.take (j + 1)) := by simp [rcells]
          rw [h2] at h1
          omega
        subst hAD
        clear htk hbl
        generalize E[j] = e at hcell hlen1
        obtain ⟨ea, en, ec, el⟩ := e
        have hcell' : w2.cell? ⟨ba, bo + j, none⟩ = some (.slice ea en ec) := hcell
        have HL1 : Hid (elen (rcells (E.take (j + 1))) = elen (rcells (E.take j)) + 2 + en) := hlen1
        have hb1 : elen (rcells (E.take j)) + 2 + en ≤ 506 := by
          have h9 : elen (rcells (E.take (j + 1))) = elen (rcells (E.take j)) + 2 + en := hlen1
          omega
        clear hcell hlen1 hsp
        go_wp2_with fail
        refine ⟨⟨j + 1, by omega, by go_num, ?_⟩, by simp [intOf]; omega⟩
        rw [HL1.out]
        congr 1
        omega
      · obtain rfl : j = n1 := by omega
        have HTK : Hid (E.take j = E) := List.take_of_length_le (by omega)
        go_wp2_with fail
        go_ret
        exact ⟨ret_int (by rw [HP.out, HTK.out]), f2⟩

set_option maxHeartbeats 1000000 in
set_option maxRecDepth 100000 in
theorem refGet_no (w : World) (ad : Option Addr) (n c : Nat) (l : List UInt8) (s : Int) (h : SlAt w ad n c l) (hs : s < 0 ∨ ((cellsOf l).length : Int) ≤ s) :
    Calls Try.prog 35 #[.slice ad n c, .int .i64 s] w fun r w' => r = .returned (.tuple #[.slice none 0 0, .bool false]) ∧ Fr [] w w' := by
  go_enter Try.func35, Try.ntmps35
  go_wp2_with fail
  refine (of_any _ _ _ _ l h).mono ?_
  rintro e w1 (⟨hp, rfl, f1⟩ | ⟨cs, ad1, n1, cap1, E, hp, rfl, pg, hE, f1⟩)
  · have hc : (cellsOf l).length = 0 := by rw [cells_none hp]; rfl
    by_cases hs0 : s < 0
    · clear hs hp hc
      go_wp2_with fail
      go_ret2
      exact ⟨rfl, f1.alloc _⟩
    · clear hs hp hc
      go_wp2_with fail
      go_ret2
      exact ⟨rfl, f1.alloc _⟩
  · have hc : (cellsOf l).length = n1 := by rw [cells_some hp, ← hE, rcells_length, pg.len]
    rw [hc] at hs
    by_cases hs0 : s < 0
    · clear hs hp hc
      go_wp2_with fail
      go_ret2
      exact ⟨rfl, f1.alloc _⟩
    · have hs1 : (n1 : Int) ≤ s := by omega
      clear hs hp hc
      go_wp2_with fail
      go_ret2
      exact ⟨rfl, f1.alloc _⟩

set_option maxHeartbeats 1000000 in
set_option maxRecDepth 100000 in
theorem refGet_yes (w : World) (ad : Option Addr) (n c : Nat) (l : List UInt8) (s : Nat) (cell : List UInt8) (h : SlAt w ad n c l) (hs : (cellsOf l)[s]? = some cell) :
    Calls Try.prog 35 #[.slice ad n c, .int .i64 s] w fun r w' => ∃ ea ec, r = .returned (.tuple #[.slice ea cell.length ec, .bool true]) ∧ BytesAt w' ea cell ∧ Fr [] w w' := by
  go_enter Try.func35, Try.ntmps35
  go_wp2_with fail
  refine (of_any _ _ _ _ l h).mono ?_
  rintro e w1 (⟨hp, rfl, f1⟩ | ⟨cs, ad1, n1, cap1, E, hp, rfl, pg, hE, f1⟩)
  · rw [cells_none hp] at hs
    simp at hs
  · rw [cells_some hp, ← hE] at hs
    have hte : s < E.length := by
      have := (List.getElem?_eq_some_iff.1 hs).1
      rw [rcells_length] at this
      exact this
    have hcl : E[s].l = cell := by
      simp [rcells, hte] at hs
      exact hs
    have hel := pg.len
    have hsn : (s : Int) < n1 := by omega
    have hs0 : ¬ (s : Int) < 0 := by omega
    have f2 := (Fr.refl [] w1).alloc (.cells #[.int .u8 ((byteAt l 0).toNat : Int), .int .i64 (num4 l 2 : Int), .slice ad1 n1 cap1] 75)
    have pg2 := pg.kept f2
    obtain ⟨ba, bo, hAD, hcell⟩ := pg2.vals s E[s].val (by simp [rvals, hte])
    have hbe := pg2.ok E[s] (List.getElem_mem _)
    subst hAD
    clear hs hp hE
    generalize E[s] = e at hcell hbe hcl
    obtain ⟨ea, en, ec, el⟩ := e
    have hcl' : el = cell := hcl
    subst hcl'
    have hen : el.length = en := hbe.len
    have hbb : BytesAt _ ea el := hbe.bytes
    have HEN : Hid (el.length = en) := hen
    have HBB := hidI hbb
    have hcell' : World.cell? _ ⟨ba, bo + s, none⟩ = some (.slice ea en ec) := hcell
    clear hcell hbe hcl hen hbb
    go_wp2_with fail
    go_ret2
    exact ⟨ea, ec, by rw [HEN.out]; rfl, HBB.out, f1.alloc _⟩
end Go.Proofs.Ytlfpoeimgoikkaa
