/-
  What a page tells: place, Check, Kind, Next, Count, Room, copied, Get, New.
-/
import Derived.Test.YtlfpoeimgoikkaaGRead
namespace Go.Proofs.Ytlfpoeimgoikkaa
open Go.RowKit Go.Maps

/-- The value of a slice of bytes in memory; of 512 bytes it has an address. -/
structure SlAt (w : World) (ad : Option Addr) (n c : Nat) (l : List UInt8) : Prop where
  len : l.length = n
  bytes : BytesAt w ad l
  cap : n ≤ c
theorem SlAt.at512 {w : World} {ad : Option Addr} {n c : Nat} {l : List UInt8} (h : SlAt w ad n c l) (hn : n = 512) : ∃ g o, ad = some ⟨g, o, none⟩ ∧ At512 w g o c l := by
  obtain ⟨g, o, e, _⟩ := h.bytes.at 0 (by rw [h.len]; omega)
  subst e
  exact ⟨g, o, rfl, by rw [h.len]; exact hn, h.bytes, by have := h.cap; omega⟩
theorem SlAt.kept {w w' : World} {ad : Option Addr} {n c : Nat} {l : List UInt8} {L : List Nat} (h : SlAt w ad n c l) (k : Fr L w w') (hL : ∀ b off, ad = some ⟨b, off, none⟩ → b ∉ L) : SlAt w' ad n c l :=
  ⟨h.len, h.bytes.kept k hL, h.cap⟩
theorem At512.sl {w : World} {g o c : Nat} {l : List UInt8} (h : At512 w g o c l) : SlAt w (some ⟨g, o, none⟩) 512 c l := ⟨h.len, h.bytes, h.cap⟩

theorem measure_any (w : World) (ad : Option Addr) (n c : Nat) (l : List UInt8) (h : SlAt w ad n c l) :
    Calls Try.prog 53 #[.slice ad n c] w fun r w' => r = .returned (.tuple #[.int .i64 (endOf l), .bool (okP l)]) ∧ w' = w := by
  by_cases hn : n = 512
  · obtain ⟨g, o, rfl, h5⟩ := h.at512 hn
    subst hn
    exact measure_512 w g o c l h5
  · have hp := okP_none (pageOf_len l (by rw [h.len]; exact hn))
    rw [hp.1, hp.2]
    exact measure_len w ad n c hn

set_option maxHeartbeats 400000 in
set_option maxRecDepth 100000 in
theorem check_any (w : World) (ad : Option Addr) (n c : Nat) (l : List UInt8) (h : SlAt w ad n c l) :
    Calls Try.prog 31 #[.slice ad n c] w fun r w' => r = .returned (.bool (okP l)) ∧ w' = w := by
  go_enter Try.func31, Try.ntmps31
  go_wp2_with (go_at_call 53; refine (measure_any _ _ _ _ l h).mono ?_; rintro e1 w ⟨rfl, rfl⟩)
  go_ret
  exact ⟨rfl, rfl⟩

/-- A right page. -/
structure Pg (l : List UInt8) (k : UInt8) (x : Nat) (cs : List (List UInt8)) : Prop where
  eq : l = pgB k x cs
  fits : elen cs ≤ 506
  nx : x < 4294967296
theorem Pg.of {l : List UInt8} {cs : List (List UInt8)} (h : pageOf l = some cs) : Pg l (byteAt l 0) (num4 l 2) cs := by
  obtain ⟨h1, h2⟩ := pgB_of l cs h
  exact ⟨h2, h1, num4_lt l 2⟩
theorem Pg.page {l : List UInt8} {k : UInt8} {x : Nat} {cs : List (List UInt8)} (h : Pg l k x cs) : pageOf l = some cs := by
  rw [h.eq]; exact pageOf_pgB k x cs h.fits
theorem Pg.len {l : List UInt8} {k : UInt8} {x : Nat} {cs : List (List UInt8)} (h : Pg l k x cs) : l.length = 512 := by rw [h.eq]; exact pgB_length k x cs h.fits
theorem Pg.ok {l : List UInt8} {k : UInt8} {x : Nat} {cs : List (List UInt8)} (h : Pg l k x cs) : okP l = true := (okP_some h.page).1
theorem Pg.end {l : List UInt8} {k : UInt8} {x : Nat} {cs : List (List UInt8)} (h : Pg l k x cs) : endOf l = 6 + elen cs := (okP_some h.page).2
theorem Pg.kind {l : List UInt8} {k : UInt8} {x : Nat} {cs : List (List UInt8)} (h : Pg l k x cs) : byteAt l 0 = k := by rw [h.eq]; exact pgB_kind k x cs
theorem Pg.count {l : List UInt8} {k : UInt8} {x : Nat} {cs : List (List UInt8)} (h : Pg l k x cs) : (byteAt l 1).toNat = cs.length := by rw [h.eq]; exact pgB_count k x cs h.fits
theorem Pg.next {l : List UInt8} {k : UInt8} {x : Nat} {cs : List (List UInt8)} (h : Pg l k x cs) : num4 l 2 = x := by rw [h.eq]; exact pgB_next k x cs h.nx
theorem Pg.few {l : List UInt8} {k : UInt8} {x : Nat} {cs : List (List UInt8)} (h : Pg l k x cs) : cs.length ≤ 253 := by have := elen_ge cs; have := h.fits; omega

/-- What a row of bytes tells: kind, next, cells. -/
def kindOf (l : List UInt8) : Nat := if okP l then (byteAt l 0).toNat else 0
def nextOf (l : List UInt8) : Nat := if okP l then num4 l 2 else 0
def cellsOf (l : List UInt8) : List (List UInt8) := (pageOf l).getD []
def roomOf (l : List UInt8) : Nat := if okP l then 512 - endOf l else 0
theorem cells_some {l : List UInt8} {cs : List (List UInt8)} (h : pageOf l = some cs) : cellsOf l = cs := by unfold cellsOf; rw [h]; rfl
theorem cells_none {l : List UInt8} (h : pageOf l = none) : cellsOf l = [] := by unfold cellsOf; rw [h]; rfl
theorem page_or (l : List UInt8) : (pageOf l = none ∧ okP l = false) ∨ (∃ cs, pageOf l = some cs ∧ okP l = true ∧ Pg l (byteAt l 0) (num4 l 2) cs) := by
  cases h : pageOf l with
  | none => exact Or.inl ⟨rfl, (okP_none h).1⟩
  | some cs => exact Or.inr ⟨cs, rfl, (okP_some h).1, Pg.of h⟩

set_option maxHeartbeats 400000 in
set_option maxRecDepth 100000 in
theorem kind_any (w : World) (ad : Option Addr) (n c : Nat) (l : List UInt8) (h : SlAt w ad n c l) :
    Calls Try.prog 32 #[.slice ad n c] w fun r w' => r = .returned (.int .u8 (kindOf l)) ∧ w' = w := by
  rcases page_or l with ⟨hp, hk⟩ | ⟨cs, hp, hk, pg⟩
  · have HK : Hid (kindOf l = 0) := by show kindOf l = 0; unfold kindOf; rw [hk]; rfl
    go_enter Try.func32, Try.ntmps32
    go_wp2_with (go_at_call 31; refine (check_any _ _ _ _ l h).mono ?_; rintro e1 w ⟨rfl, rfl⟩)
    go_ret
    exact ⟨ret_int (by rw [HK.out]; rfl), rfl⟩
  · have HK : Hid (kindOf l = (byteAt l 0).toNat) := by show kindOf l = _; unfold kindOf; rw [hk]; rfl
    obtain ⟨g, o, rfl, h5⟩ := h.at512 (by rw [← h.len, pg.len])
    obtain rfl : n = 512 := by rw [← h.len, pg.len]
    have q0 := h5.cell 0 (by omega)
    rw [Nat.add_zero] at q0
    go_enter Try.func32, Try.ntmps32
    go_wp2_with (go_at_call 31; refine (check_any _ _ _ _ l h).mono ?_; rintro e1 w ⟨rfl, rfl⟩)
    go_ret
    exact ⟨ret_int (by rw [HK.out]), rfl⟩

set_option maxHeartbeats 400000 in
set_option maxRecDepth 100000 in
theorem next_any (w : World) (ad : Option Addr) (n c : Nat) (l : List UInt8) (h : SlAt w ad n c l) :
    Calls Try.prog 29 #[.slice ad n c] w fun r w' => r = .returned (.int .i64 (nextOf l)) ∧ w' = w := by
  rcases page_or l with ⟨hp, hk⟩ | ⟨cs, hp, hk, pg⟩
  · have HK : Hid (nextOf l = 0) := by show nextOf l = 0; unfold nextOf; rw [hk]; rfl
    go_enter Try.func29, Try.ntmps29
    go_wp2_with (go_at_call 31; refine (check_any _ _ _ _ l h).mono ?_; rintro e1 w ⟨rfl, rfl⟩)
    go_ret
    exact ⟨ret_int (by rw [HK.out]; rfl), rfl⟩
  · have HK : Hid (nextOf l = num4 l 2) := by show nextOf l = _; unfold nextOf; rw [hk]; rfl
    obtain ⟨g, o, rfl, h5⟩ := h.at512 (by rw [← h.len, pg.len])
    obtain rfl : n = 512 := by rw [← h.len, pg.len]
    have hcap : (512 : Int) ≤ c := by have := h5.cap; omega
    have hc6 : (6 : Int) ≤ c := by omega
    have hb4 := h5.bytes.sub 2 4
    have hl4 : ((l.drop 2).take 4).length = 4 := by rw [List.length_take, List.length_drop, h5.len]; rfl
    have HV : Hid (valL ((l.drop 2).take 4) = num4 l 2) := num4_val l 2 (by rw [h5.len]; omega)
    go_enter Try.func29, Try.ntmps29
    go_wp2_with (first
      | (go_at_call 31; refine (check_any _ _ _ _ l h).mono ?_; rintro e1 w ⟨rfl, rfl⟩)
      | (go_at_call 55; refine (number_any _ _ 4 _ _ hl4 hb4 (by omega)).mono ?_; rintro e1 w ⟨rfl, rfl⟩))
    go_ret
    exact ⟨ret_int (by rw [HK.out, HV.out]), rfl⟩

set_option maxHeartbeats 400000 in
set_option maxRecDepth 100000 in
theorem count_any (w : World) (ad : Option Addr) (n c : Nat) (l : List UInt8) (h : SlAt w ad n c l) :
    Calls Try.prog 27 #[.slice ad n c] w fun r w' => r = .returned (.int .i64 (cellsOf l).length) ∧ w' = w := by
  rcases page_or l with ⟨hp, hk⟩ | ⟨cs, hp, hk, pg⟩
  · have HK : Hid (cellsOf l = []) := cells_none hp
    go_enter Try.func27, Try.ntmps27
    go_wp2_with (go_at_call 31; refine (check_any _ _ _ _ l h).mono ?_; rintro e1 w ⟨rfl, rfl⟩)
    go_ret
    exact ⟨ret_int (by rw [HK.out]; rfl), rfl⟩
  · have HK : Hid (cellsOf l = cs) := cells_some hp
    obtain ⟨g, o, rfl, h5⟩ := h.at512 (by rw [← h.len, pg.len])
    obtain rfl : n = 512 := by rw [← h.len, pg.len]
    have q1 := h5.cell 1 (by omega)
    rw [pg.count] at q1
    have hf := pg.few
    go_enter Try.func27, Try.ntmps27
    go_wp2_with (go_at_call 31; refine (check_any _ _ _ _ l h).mono ?_; rintro e1 w ⟨rfl, rfl⟩)
    go_ret
    exact ⟨ret_int (by rw [HK.out]), rfl⟩

set_option maxHeartbeats 400000 in
set_option maxRecDepth 100000 in
theorem room_any (w : World) (ad : Option Addr) (n c : Nat) (l : List UInt8) (h : SlAt w ad n c l) :
    Calls Try.prog 25 #[.slice ad n c] w fun r w' => r = .returned (.int .i64 (roomOf l)) ∧ w' = w := by
  rcases page_or l with ⟨hp, hk⟩ | ⟨cs, hp, hk, pg⟩
  · have HK : Hid (roomOf l = 0) := by show roomOf l = 0; unfold roomOf; rw [hk]; rfl
    go_enter Try.func25, Try.ntmps25
    go_wp2_with (go_at_call 53; refine (measure_any _ _ _ _ l h).mono ?_; rintro e1 w ⟨rfl, rfl⟩)
    go_ret
    exact ⟨ret_int (by rw [HK.out]; rfl), rfl⟩
  · have hn : n = 512 := by rw [← h.len, pg.len]
    have he : endOf l ≤ 512 := by rw [pg.end]; have := pg.fits; omega
    have HK : Hid ((roomOf l : Int) = 512 - endOf l) := by
      show (roomOf l : Int) = _
      unfold roomOf
      rw [hk]
      show ((512 - endOf l : Nat) : Int) = _
      omega
    subst hn
    go_enter Try.func25, Try.ntmps25
    go_wp2_with (go_at_call 53; refine (measure_any _ _ _ _ l h).mono ?_; rintro e1 w ⟨rfl, rfl⟩)
    go_ret
    exact ⟨ret_int (by rw [HK.out]), rfl⟩

set_option maxHeartbeats 400000 in
set_option maxRecDepth 100000 in
theorem place_any (w : World) (g o c s : Nat) (l : List UInt8) (k : UInt8) (x : Nat) (cs : List (List UInt8)) (pg : Pg l k x cs) (h : At512 w g o c l) (hs : s ≤ cs.length) :
    Calls Try.prog 41 #[.slice (some ⟨g, o, none⟩) 512 c, .int .i64 s] w fun r w' => r = .returned (.int .i64 (slotAt cs s)) ∧ w' = w := by
  have hf := pg.few
  have hs' : (s : Int) ≤ 253 := by omega
  have hfit := pg.fits
  go_enter Try.func41, Try.ntmps41
  go_wp2
  go_loop [5, 7] (fun en i => ∃ j : Nat, j ≤ s ∧ i = .int .i64 j ∧ en = .int .i64 (slotAt cs j)) (fun _ i => s - (intOf i).toNat)
  case atStart => exact ⟨0, by omega, rfl, rfl⟩
  case round =>
    obtain ⟨j, hj, rfl, rfl⟩ := hrel
    by_cases hlt : j < s
    · have hlt' : (j : Int) < s := by omega
      have hsu := slot_succ cs j (by omega)
      have hle := slot_le cs (j + 1)
      have HB : Hid (beh l (slotAt cs j) = slotAt cs (j + 1)) := by
        show _ = _
        rw [hsu, pg.eq]
        unfold beh
        rw [pgB_num k x cs j (by omega) hfit]
      have h2 : slotAt cs j + 2 ≤ 512 := by omega
      clear hsu hle
      go_wp2_with (go_at_call 43; refine (behind_any _ g o c _ l h h2).mono ?_; rintro e1 w ⟨rfl, rfl⟩)
      go_round
      case measure => simp [intOf]; omega
      exact ⟨j + 1, by omega, by go_num, by rw [HB.out]⟩
    · obtain rfl : j = s := by omega
      go_wp2
      go_ret
      exact ⟨rfl, rfl⟩
end Go.Proofs.Ytlfpoeimgoikkaa
