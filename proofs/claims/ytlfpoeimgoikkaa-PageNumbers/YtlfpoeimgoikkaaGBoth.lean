/-
  A change of a page, by the program and by the document: the same answers, the same bytes.
-/
import Derived.Test.YtlfpoeimgoikkaaGRefD
import Derived.Test.YtlfpoeimgoikkaaGDel
import Derived.Test.YtlfpoeimgoikkaaGAwake
namespace Go.Proofs.Ytlfpoeimgoikkaa
open Go.RowKit Go.Maps

def blkOf (ad : Option Addr) : List Nat := match ad with
  | some a => [a.block]
  | none => []
/-- Bytes that may be a page, in memory that may be written. -/
structure PageAt (w : World) (ad : Option Addr) (n c : Nat) (l : List UInt8) : Prop where
  sl : SlAt w ad n c l
  row : n = 512 → ∃ g, ad = some ⟨g, 0, none⟩ ∧ RowB w g c l
theorem PageAt.kept {w w' : World} {ad : Option Addr} {n c : Nat} {l : List UInt8} {L : List Nat} (h : PageAt w ad n c l) (f : Fr L w w') (hL : ∀ b, b ∈ blkOf ad → b ∉ L) : PageAt w' ad n c l := by
  refine ⟨h.sl.kept f (fun b off e => hL b (by rw [e]; simp [blkOf])), fun hn => ?_⟩
  obtain ⟨g, e, r⟩ := h.row hn
  exact ⟨g, e, r.kept f (hL g (by rw [e]; simp [blkOf]))⟩
theorem PageAt.len {w : World} {ad : Option Addr} {n c : Nat} {l : List UInt8} (h : PageAt w ad n c l) : l.length = n := h.sl.len
theorem PageAt.of_row {w : World} {g c : Nat} {l : List UInt8} (h : RowB w g c l) (hl : l.length = 512) : PageAt w (some ⟨g, 0, none⟩) 512 c l := by
  have := h.sl
  rw [hl] at this
  exact ⟨this, fun _ => ⟨g, rfl, h⟩⟩
theorem PageAt.page {w : World} {ad : Option Addr} {n c : Nat} {l : List UInt8} {cs : List (List UInt8)} (h : PageAt w ad n c l) (hp : pageOf l = some cs) : ∃ g, n = 512 ∧ ad = some ⟨g, 0, none⟩ ∧ RowB w g c l ∧ Pg l (byteAt l 0) (num4 l 2) cs := by
  have pg := Pg.of hp
  have hn : n = 512 := by rw [← h.len, pg.len]
  obtain ⟨g, e, r⟩ := h.row hn
  exact ⟨g, hn, e, r, pg⟩

def insRes (l : List UInt8) (s : Int) (cell : List UInt8) : Int × List UInt8 := match pageOf l with
  | none => (4, l)
  | some cs => if s < 0 ∨ (cs.length : Int) < s then (2, l) else if elen cs + 2 + cell.length ≤ 506 then (0, pgB (byteAt l 0) (num4 l 2) (insC cs s.toNat cell)) else (5, l)
def delRes (l : List UInt8) (s : Int) : Bool × List UInt8 := match pageOf l with
  | none => (false, l)
  | some cs => if s < 0 ∨ (cs.length : Int) ≤ s then (false, l) else (true, pgB (byteAt l 0) (num4 l 2) (delC cs s.toNat))
def nxtRes (l : List UInt8) (y : Int) : Bool × List UInt8 := match pageOf l with
  | none => (false, l)
  | some cs => if 0 ≤ y ∧ y ≤ 4294967295 then (true, pgB (byteAt l 0) y.toNat cs) else (false, l)

theorem insRes_none {l : List UInt8} (s : Int) (cell : List UInt8) (hp : pageOf l = none) : insRes l s cell = (4, l) := by unfold insRes; rw [hp]
theorem insRes_arg {l : List UInt8} {s : Int} (cell : List UInt8) {cs : List (List UInt8)} (hp : pageOf l = some cs) (hs : s < 0 ∨ (cs.length : Int) < s) : insRes l s cell = (2, l) := by
  unfold insRes; rw [hp]; exact if_pos hs
theorem insRes_ok {l : List UInt8} {s : Int} {cell : List UInt8} {cs : List (List UInt8)} (hp : pageOf l = some cs) (hs : ¬ (s < 0 ∨ (cs.length : Int) < s)) (hf : elen cs + 2 + cell.length ≤ 506) : insRes l s cell = (0, pgB (byteAt l 0) (num4 l 2) (insC cs s.toNat cell)) := by
  unfold insRes; rw [hp]; exact (if_neg hs).trans (if_pos hf)
theorem insRes_full {l : List UInt8} {s : Int} {cell : List UInt8} {cs : List (List UInt8)} (hp : pageOf l = some cs) (hs : ¬ (s < 0 ∨ (cs.length : Int) < s)) (hf : ¬ elen cs + 2 + cell.length ≤ 506) : insRes l s cell = (5, l) := by
  unfold insRes; rw [hp]; exact (if_neg hs).trans (if_neg hf)
theorem delRes_none {l : List UInt8} (s : Int) (hp : pageOf l = none) : delRes l s = (false, l) := by unfold delRes; rw [hp]
theorem delRes_no {l : List UInt8} {s : Int} {cs : List (List UInt8)} (hp : pageOf l = some cs) (hs : s < 0 ∨ (cs.length : Int) ≤ s) : delRes l s = (false, l) := by
  unfold delRes; rw [hp]; exact if_pos hs
theorem delRes_yes {l : List UInt8} {s : Int} {cs : List (List UInt8)} (hp : pageOf l = some cs) (hs : ¬ (s < 0 ∨ (cs.length : Int) ≤ s)) : delRes l s = (true, pgB (byteAt l 0) (num4 l 2) (delC cs s.toNat)) := by
  unfold delRes; rw [hp]; exact if_neg hs
theorem nxtRes_none {l : List UInt8} (y : Int) (hp : pageOf l = none) : nxtRes l y = (false, l) := by unfold nxtRes; rw [hp]
theorem nxtRes_yes {l : List UInt8} {y : Int} {cs : List (List UInt8)} (hp : pageOf l = some cs) (hy : 0 ≤ y ∧ y ≤ 4294967295) : nxtRes l y = (true, pgB (byteAt l 0) y.toNat cs) := by
  unfold nxtRes; rw [hp]; exact if_pos hy
theorem nxtRes_no {l : List UInt8} {y : Int} {cs : List (List UInt8)} (hp : pageOf l = some cs) (hy : ¬ (0 ≤ y ∧ y ≤ 4294967295)) : nxtRes l y = (false, l) := by
  unfold nxtRes; rw [hp]; exact if_neg hy

theorem fr_up {w w' : World} (L : List Nat) (f : Fr [] w w') : Fr L w w' := f.mono (by simp)

theorem insP_any (w : World) (ad : Option Addr) (n c : Nat) (l : List UInt8) (h : PageAt w ad n c l) (s : Int) (ca : Option Addr) (cl cc : Nat) (cell : List UInt8) (hcl : cell.length = cl) (hcb : BytesAt w ca cell) (hcs : cl ≤ 5000) :
    Calls Try.prog 24 #[.slice ad n c, .int .i64 s, .slice ca cl cc] w fun r w' => r = .returned (.int .i64 (insRes l s cell).1) ∧ PageAt w' ad n c (insRes l s cell).2 ∧ Fr (blkOf ad) w w' := by
  cases hp : pageOf l with
  | none =>
    rw [insRes_none s cell hp]
    refine (insert_shape w ad n c l s _ h.sl (okP_none hp).1).mono ?_
    rintro e w1 ⟨rfl, rfl⟩
    exact ⟨rfl, h, Fr.refl _ _⟩
  | some cs =>
    obtain ⟨g, rfl, rfl, r, pg⟩ := h.page hp
    by_cases hs : s < 0 ∨ (cs.length : Int) < s
    · rw [insRes_arg cell hp hs]
      refine (insert_arg w g c l _ _ cs s _ r pg hs).mono ?_
      rintro e w1 ⟨rfl, rfl⟩
      exact ⟨rfl, h, Fr.refl _ _⟩
    · obtain ⟨S, rfl⟩ := Int.eq_ofNat_of_zero_le (show 0 ≤ s by omega)
      by_cases hf : elen cs + 2 + cell.length ≤ 506
      · rw [insRes_ok hp hs hf]
        refine (insert_ok w g c l _ _ cs S ca cl cc cell r pg (by omega) hcl hcb (by omega)).mono ?_
        rintro e w1 ⟨rfl, r1, f1⟩
        exact ⟨rfl, PageAt.of_row r1 (pgB_length _ _ _ (by rw [insC_elen]; omega)), f1⟩
      · rw [insRes_full hp hs hf]
        refine (insert_full w g c l _ _ cs S ca cl cc r pg (by omega) (by omega) (by omega)).mono ?_
        rintro e w1 ⟨rfl, rfl⟩
        exact ⟨rfl, h, Fr.refl _ _⟩

theorem insR_any (w : World) (ad : Option Addr) (n c : Nat) (l : List UInt8) (h : PageAt w ad n c l) (s : Int) (ca : Option Addr) (cl cc : Nat) (cell : List UInt8) (hc : SlAt w ca cl cc cell) (hcn : ca = none → cc = 0) (hcs : cl ≤ 5000) :
    Calls Try.prog 47 #[.slice ad n c, .int .i64 s, .slice ca cl cc] w fun r w' => r = .returned (.int .i64 (insRes l s cell).1) ∧ PageAt w' ad n c (insRes l s cell).2 ∧ Fr (blkOf ad) w w' := by
  cases hp : pageOf l with
  | none =>
    rw [insRes_none s cell hp]
    refine (refInsert_shape w ad n c l s _ h.sl (okP_none hp).1).mono ?_
    rintro e w1 ⟨rfl, f1⟩
    exact ⟨rfl, h.kept f1 (by simp), fr_up _ f1⟩
  | some cs =>
    obtain ⟨g, rfl, rfl, r, pg⟩ := h.page hp
    by_cases hs : s < 0 ∨ (cs.length : Int) < s
    · rw [insRes_arg cell hp hs]
      refine (refInsert_arg w g c l _ _ cs s _ r pg hs).mono ?_
      rintro e w1 ⟨rfl, f1⟩
      exact ⟨rfl, h.kept f1 (by simp), fr_up _ f1⟩
    · obtain ⟨S, rfl⟩ := Int.eq_ofNat_of_zero_le (show 0 ≤ s by omega)
      have hcl : cell.length = cl := hc.len
      refine (refInsert_page w g c l _ _ cs S ca cl cc cell r pg (by omega) hc hcn hcs).mono ?_
      rintro e w1 (⟨hf, rfl, r1, f1⟩ | ⟨hf, rfl, r1, f1⟩)
      · rw [insRes_ok hp hs (by omega)]
        exact ⟨rfl, PageAt.of_row r1 (pgB_length _ _ _ (by rw [insC_elen]; omega)), f1⟩
      · rw [insRes_full hp hs (by omega)]
        exact ⟨rfl, h.kept f1 (by simp), fr_up _ f1⟩

theorem delP_any (w : World) (ad : Option Addr) (n c : Nat) (l : List UInt8) (h : PageAt w ad n c l) (s : Int) :
    Calls Try.prog 26 #[.slice ad n c, .int .i64 s] w fun r w' => r = .returned (.bool (delRes l s).1) ∧ PageAt w' ad n c (delRes l s).2 ∧ Fr (blkOf ad) w w' := by
  cases hp : pageOf l with
  | none =>
    rw [delRes_none s hp]
    refine (delete_shape w ad n c l s h.sl (okP_none hp).1).mono ?_
    rintro e w1 ⟨rfl, rfl⟩
    exact ⟨rfl, h, Fr.refl _ _⟩
  | some cs =>
    obtain ⟨g, rfl, rfl, r, pg⟩ := h.page hp
    by_cases hs : s < 0 ∨ (cs.length : Int) ≤ s
    · rw [delRes_no hp hs]
      refine (delete_no w g c l _ _ cs s r pg hs).mono ?_
      rintro e w1 ⟨rfl, rfl⟩
      exact ⟨rfl, h, Fr.refl _ _⟩
    · rw [delRes_yes hp hs]
      obtain ⟨S, rfl⟩ := Int.eq_ofNat_of_zero_le (show 0 ≤ s by omega)
      have hlt : S < cs.length := by omega
      refine (delete_ok w g c l _ _ cs S r pg hlt).mono ?_
      rintro e w1 ⟨rfl, r1, f1⟩
      have := delC_elen cs S hlt
      have := pg.fits
      exact ⟨rfl, PageAt.of_row r1 (pgB_length _ _ _ (by show elen (delC cs S) ≤ 506; omega)), f1⟩

theorem delR_any (w : World) (ad : Option Addr) (n c : Nat) (l : List UInt8) (h : PageAt w ad n c l) (s : Int) :
    Calls Try.prog 48 #[.slice ad n c, .int .i64 s] w fun r w' => r = .returned (.bool (delRes l s).1) ∧ PageAt w' ad n c (delRes l s).2 ∧ Fr (blkOf ad) w w' := by
  cases hp : pageOf l with
  | none =>
    rw [delRes_none s hp]
    refine (refDelete_no w ad n c l s h.sl (by rw [cells_none hp]; simp; omega)).mono ?_
    rintro e w1 ⟨rfl, f1⟩
    exact ⟨rfl, h.kept f1 (by simp), fr_up _ f1⟩
  | some cs =>
    by_cases hs : s < 0 ∨ (cs.length : Int) ≤ s
    · rw [delRes_no hp hs]
      refine (refDelete_no w ad n c l s h.sl (by rw [cells_some hp]; exact hs)).mono ?_
      rintro e w1 ⟨rfl, f1⟩
      exact ⟨rfl, h.kept f1 (by simp), fr_up _ f1⟩
    · rw [delRes_yes hp hs]
      obtain ⟨g, rfl, rfl, r, pg⟩ := h.page hp
      obtain ⟨S, rfl⟩ := Int.eq_ofNat_of_zero_le (show 0 ≤ s by omega)
      have hlt : S < cs.length := by omega
      refine (refDelete_page w g c l _ _ cs S r pg hlt).mono ?_
      rintro e w1 ⟨rfl, r1, f1⟩
      have := delC_elen cs S hlt
      have := pg.fits
      exact ⟨rfl, PageAt.of_row r1 (pgB_length _ _ _ (by show elen (delC cs S) ≤ 506; omega)), f1⟩

theorem nxtP_any (w : World) (ad : Option Addr) (n c : Nat) (l : List UInt8) (h : PageAt w ad n c l) (y : Int) :
    Calls Try.prog 28 #[.slice ad n c, .int .i64 y] w fun r w' => r = .returned (.bool (nxtRes l y).1) ∧ PageAt w' ad n c (nxtRes l y).2 ∧ Fr (blkOf ad) w w' := by
  cases hp : pageOf l with
  | none =>
    rw [nxtRes_none y hp]
    refine (setNext_no w ad n c l y h.sl (Or.inl (okP_none hp).1)).mono ?_
    rintro e w1 ⟨rfl, rfl⟩
    exact ⟨rfl, h, Fr.refl _ _⟩
  | some cs =>
    by_cases hy : 0 ≤ y ∧ y ≤ 4294967295
    · rw [nxtRes_yes hp hy]
      obtain ⟨g, rfl, rfl, r, pg⟩ := h.page hp
      obtain ⟨Y, rfl⟩ := Int.eq_ofNat_of_zero_le hy.1
      refine (setNext_yes w g c l _ _ Y cs r pg (by omega)).mono ?_
      rintro e w1 ⟨rfl, r1, f1⟩
      exact ⟨rfl, PageAt.of_row r1 (pgB_length _ _ _ pg.fits), f1⟩
    · rw [nxtRes_no hp hy]
      refine (setNext_no w ad n c l y h.sl (Or.inr (by omega))).mono ?_
      rintro e w1 ⟨rfl, rfl⟩
      exact ⟨rfl, h, Fr.refl _ _⟩

theorem nxtR_any (w : World) (ad : Option Addr) (n c : Nat) (l : List UInt8) (h : PageAt w ad n c l) (y : Int) (hw : (Lit.int .i64 y).wf = true) :
    Calls Try.prog 49 #[.slice ad n c, .int .i64 y] w fun r w' => r = .returned (.bool (nxtRes l y).1) ∧ PageAt w' ad n c (nxtRes l y).2 ∧ Fr (blkOf ad) w w' := by
  cases hp : pageOf l with
  | none =>
    rw [nxtRes_none y hp]
    refine (refSetNext_no w ad n c l y h.sl (okP_none hp).1).mono ?_
    rintro e w1 ⟨rfl, f1⟩
    exact ⟨rfl, h.kept f1 (by simp), fr_up _ f1⟩
  | some cs =>
    obtain ⟨g, rfl, rfl, r, pg⟩ := h.page hp
    refine (refSetNext_page w g c l _ _ cs y hw r pg).mono ?_
    rintro e w1 (⟨h1, h2, rfl, r1, f1⟩ | ⟨hno, rfl, r1, f1⟩)
    · rw [nxtRes_yes hp ⟨h1, h2⟩]
      exact ⟨rfl, PageAt.of_row r1 (pgB_length _ _ _ pg.fits), f1⟩
    · rw [nxtRes_no hp hno]
      exact ⟨rfl, h.kept f1 (by simp), fr_up _ f1⟩
end Go.Proofs.Ytlfpoeimgoikkaa
