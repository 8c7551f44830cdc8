/-
  One step, by the program and by the document: a write.
-/
import Derived.Test.YtkenkgfohgmpnaaCStep
namespace Go.Proofs.Ytkenkgfohgmpnaa.C
open Go.RowKit Go.Maps

theorem Pair.keep2 {v0 w0 w w' : World} {M N : List Nat} {p bs bo r : Nat} {lv : Value} {n a : Int} {dn : Bool} {S O : Tab} {E : List Ent} (P : Pair v0 M N w0 w p bs bo r lv n a dn S O E) {g : Nat} (k : Fr [g] w w') (h1 : g ∉ [p, bs, bo]) (h2 : ∀ x ∈ rblocks r lv E, x ≠ g) (h3 : w0.heap.size ≤ g) (h4 : v0.heap.size ≤ g) : Pair v0 M N w0 w' p bs bo r lv n a dn S O E := by
  simp at h1
  exact ⟨P.d.kept k (by simp; omega) (by simp; omega) (by simp; omega), P.rr.kept k (fun x hx => by simpa using h2 x hx), P.ag, P.sep, P.lo, P.rlo, P.fr.then k (fun i hi h => by simp at h; omega), P.lo2, P.rlo2, P.fr2.then k (fun i hi h => by simp at h; omega), P.all⟩

theorem grew_ne {w w4 : World} {r : Nat} {lv lv' : Value} {n a : Int} {dn : Bool} {E E' : List Ent} (h : RDev w r lv n a dn E) (gr : Go.Proofs.Ytkenkgfohgmpnaa.Grew w4.heap.size r lv E lv' E') {g : Nat} (h1 : w.heap.size ≤ g) (h2 : g < w4.heap.size) : ∀ x ∈ rblocks r lv' E', x ≠ g := by
  intro x hx
  rcases gr x hx with hm | hm
  · have := h.lts x hm
    omega
  · omega

set_option maxHeartbeats 4000000 in
set_option maxRecDepth 100000 in
theorem step_write {v0 w0 w : World} {M N : List Nat} {p bs bo r : Nat} {lv : Value} {n a : Int} {dn : Bool} {S O : Tab} {E : List Ent} (P : Pair v0 M N w0 w p bs bo r lv n a dn S O E) (op block nn byte : Int) (f : Value) (hop : (Lit.int .i64 op).wf = true) (hnn : (Lit.int .i64 nn).wf = true) (hb0 : 0 ≤ byte) (hb1 : byte < 256) (v : Int) (hv2 : v = 0 ∨ v = 1 ∨ v = 2) (hv : op % 8 = v) :
    Calls Try.prog 12 #[.pointer (some ⟨p, 0, none⟩), .pointer (some ⟨r, 0, none⟩), .agg #[.int .i64 op, .int .i64 block, .int .i64 nn, .int .u8 byte, f]] w fun e w' => e = .returned (.bool true) ∧ PairX v0 M N w0 w' p bs bo r n := by
  have P1 := P.keep ((Fr.refl [] w).alloc (.cells #[.int .i64 op, .int .i64 block, .int .i64 nn, .int .u8 byte, f] 30)) (by simp)
  have hv' : Hid (op % 8 = v) := hv
  have hq := P.new (Nat.le_refl _)
  have hw0 := P.fr.size
  have hw2 := P.fr2.size
  have HS : Hid ((w.alloc (.cells #[.int .i64 op, .int .i64 block, .int .i64 nn, .int .u8 byte, f] 30)).heap.size = w.heap.size + 1) := (by simp : (w.alloc (.cells #[.int .i64 op, .int .i64 block, .int .i64 nn, .int .u8 byte, f] 30)).heap.size = w.heap.size + 1)
  have hby := fun w' => bytes_any w' op block nn byte f hnn hb0 hb1
  have hl : ((fullL byte).take (doLen nn)).length = doLen nn := by
    have := doLen_le nn
    rw [List.length_take, fullL_length]
    omega
  have hm := doLen_le nn
  generalize (fullL byte).take (doLen nn) = l at hby hl
  generalize doLen nn = m at hby hl hm
  have HL : Hid (l.length = m) := hl
  clear hv hl
  rcases hv2 with rfl | rfl | rfl
  all_goals
    go_enter Try.func12, Try.ntmps12
    go_wp2_with (first
      | (go_at_call 18; refine (pick_same _ op 8 hop (by omega) (by omega)).mono ?_; rw [hv'.out]; rintro e w1 ⟨rfl, rfl⟩)
      | (go_at_call 32; refine (hby _).mono ?_; rintro e w2 ⟨g1, rfl, b2, hg1, hl1, f2⟩; have P2 := P1.keep f2 (by simp); have h2 := f2.same (by simp) (heap_alloc_new w _))
      | (go_at_call 33; refine (lent_any _ _ _ _ l HL.out hm b2).mono ?_; rintro e w3 ⟨g2, cap, rfl, lt3, hg2, f3⟩; have P3 := (P2.keep f3 (by simp)).keep (Fr.refl [] w3).drew (by simp); have h3 := f3.same (by simp) h2))
    rw [HS.out] at hg1
    have hs2 := f2.size
    rw [HS.out] at hs2
    have hn1 := P.new (x := g1) (by omega)
    have hn2 := P.new (x := g2) (by omega)
    have hr1 : g1 ∉ rblocks r lv E := fun hm => by have := P.rr.lts g1 hm; omega
    have c3 := cell_of_row w3 w.heap.size 1 _ _ _ h3
    have b3 : BytesAt w3.drew (some ⟨g1, 0, none⟩) l := (b2.kept f3 (by simp)).kept (Fr.refl [] w3).drew (by simp)
    have lt3' : LentAt w3.drew g2 cap l := lt3.kept (Fr.refl [] w3).drew (by simp)
    have hl2 := lt3'.lt
    go_region_held3 (fun w' => w'.cell? ⟨w.heap.size, 1, none⟩ = some (.int .i64 block)) (first | exact c3 | exact c4 | exact c5 | exact c6)
      ((first
        | (go_at_call 27; refine (write_all P3.d block g2 0 cap m l HL.out lt3'.src).mono ?_; rintro e w4 ⟨rfl, d4, f4⟩; have f4' := f4.mono (M := [p, bs, bo]) (fun i _ hm => by simp at hm ⊢; omega); have c4 := cell_of_row w4 w.heap.size 1 _ _ (0, 0) (f4'.same hq.1 h3); have r4 := P3.rd f4'; have b4 := b3.kept f4' (fun b o he => by cases he; exact hn1.1); have lt4 := lt3'.kept f4' hn2.1)
        | (go_at_call 34; refine (rwrite_all r4 block g1 0 512 m l HL.out b4 hr1).mono ?_; rintro e w5 ⟨rfl, ⟨lv', E', r5, gr5, ag5⟩, f5⟩; have P5 := P3.move d4 f4' r5 f5 gr5 (ag5 _ _ P3.ag); have hx5 := grew_ne (g := g2) P.rr gr5.1 (by omega) lt4.lt; have c5 := cell_of_row w5 w.heap.size 1 _ _ (0, 0) (f5.same hq.2 (f4'.same hq.1 h3)); have b5 := b4.kept f5 (fun b o he => by cases he; exact hn1.2); have lt5 := lt4.kept f5 hn2.2)
        | (go_at_call 35; refine (kept_any w5 g2 cap m 512 _ l HL.out hm lt5 b5).mono ?_; rintro e w6 ⟨rfl, f6⟩; have P6 := P5.keep f6 (by simp); have lt6 := lt5.kept f6 (by simp); have c6 := (World.cell?_of_block (f6.block _ (block_lt_of_cell c5) (by simp))).trans c5)))
    go_wp2_with (go_at_call 36; refine (over_any w6 g2 cap m l HL.out hm lt6).mono ?_; rintro e w7 ⟨rfl, f7⟩; have P7 := P6.keep2 f7 hn2.1 hx5 (by omega) (by omega))
    go_ret
    exact ⟨rfl, P7.x⟩

end Go.Proofs.Ytkenkgfohgmpnaa.C
