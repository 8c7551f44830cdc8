/-
  A page is changed as the document says: New, set, SetNext, Insert, Delete.
-/
import Derived.Test.YtlfpoeimgoikkaaGRefT
import Derived.Test.YtlfpoeimgoikkaaGInsM
namespace Go.Proofs.Ytlfpoeimgoikkaa
open Go.RowKit Go.Maps

theorem wf_small (y : Int) (h : -9223372036854775808 ≤ y ∧ y ≤ 9223372036854775807) : (Lit.int .i64 y).wf = true := by
  simp [Lit.wf, show IntKind.i64.min = -9223372036854775808 from rfl, show IntKind.i64.max = 9223372036854775807 from rfl]
  exact h
theorem hdX_pgB (k : UInt8) (x : Nat) (cs : List (List UInt8)) : hdX k cs.length (x : Int) ++ (enc cs ++ zs (506 - elen cs)) = pgB k x cs := by
  rw [hdX_hd6, pgB_hd]

set_option maxHeartbeats 1000000 in
set_option maxRecDepth 100000 in
theorem refNew_any (w : World) (k : UInt8) (K : Int) (hK : K = k.toNat) :
    Calls Try.prog 16 #[.int .u8 K] w fun r w' => ∃ g c, r = .returned (.slice (some ⟨g, 0, none⟩) 512 c) ∧ RowB w' g c (pgB k 0 []) ∧ w.heap.size ≤ g ∧ Fr [] w w' := by
  have HK := hidI hK
  clear hK
  go_enter Try.func16, Try.ntmps16
  go_wp2_with fail
  refine (put_any _ k K 0 HK.out rfl none 0 0 [] ⟨rfl, Nat.le_refl _, ValsAt.nil _ _, (fun e he => nomatch he), fun _ => rfl⟩ (by omega) (by decide)).mono ?_
  rintro e w1 (⟨_, _, _, g, c, rfl, row, hg, f⟩ | ⟨hno, _⟩)
  · have ROW := hidI row
    clear row
    go_wp2_with fail
    go_ret
    exact ⟨g, c, rfl, by rw [← hdX_pgB]; exact ROW.out, hg, f⟩
  · exact absurd ⟨by decide, by decide, by decide⟩ hno

/-- A page's bytes become another one's, or stay. -/
def SetTo (w w' : World) (g c : Nat) (p : List UInt8) (k : UInt8) (n : Nat) (X : Int) (E : List RCell) (ok : Bool) : Prop :=
  (6 + elen (rcells E) ≤ 512 ∧ 0 ≤ X ∧ X ≤ 4294967295 ∧ ok = true ∧ RowB w' g c (hdX k n X ++ (enc (rcells E) ++ zs (506 - elen (rcells E)))) ∧ Fr [g] w w') ∨
  (¬ (6 + elen (rcells E) ≤ 512 ∧ 0 ≤ X ∧ X ≤ 4294967295) ∧ ok = false ∧ RowB w' g c p ∧ Fr [] w w')

theorem over_all (p l : List UInt8) (h : p.length = l.length) : over p 0 l = l := by
  unfold over
  rw [List.take_zero, List.nil_append, Nat.zero_add, ← h, List.drop_length, List.append_nil]

set_option maxHeartbeats 1000000 in
set_option maxRecDepth 100000 in
theorem set_any (w : World) (g c : Nat) (p : List UInt8) (hr : RowB w g c p) (hp : p.length = 512) (k : UInt8) (K X : Int) (hK : K = k.toNat) (hX : (Lit.int .i64 X).wf = true) (ad : Option Addr) (n cap : Nat) (E : List RCell) (h : RPage w ad n cap E) (hn : n < 256) (hlen : elen (rcells E) ≤ 10000) :
    Calls Try.prog 76 #[.slice (some ⟨g, 0, none⟩) 512 c, .agg #[.int .u8 K, .int .i64 X, .slice ad n cap]] w fun r w' => ∃ ok, r = .returned (.bool ok) ∧ SetTo w w' g c p k n X E ok := by
  have HK := hidI hK
  have HR := hidI hr
  have HP := hidI hp
  have H := hidI h
  clear hK hr hp h
  go_enter Try.func76, Try.ntmps76
  go_wp2_with fail
  have f1 := (Fr.refl [] w).alloc (.cells #[.int .u8 K, .int .i64 X, .slice ad n cap] 75)
  generalize w.alloc (.cells #[.int .u8 K, .int .i64 X, .slice ad n cap] 75) = w1 at f1 ⊢
  refine (put_any _ k K X HK.out hX ad n cap E (H.out.kept f1) hn hlen).mono ?_
  rintro e w2 (⟨h1, h2, h3, g2, c2, rfl, row, hg, f⟩ | ⟨hno, rfl, f⟩)
  · have hl : (hdX k n X ++ (enc (rcells E) ++ zs (506 - elen (rcells E)))).length = 512 := by
      simp only [List.length_append, hdX_length, zs_length]
      have : (enc (rcells E)).length = elen (rcells E) := rfl
      omega
    have ROW := hidI row
    have HL := hidI hl
    have r2 := HR.out.kept (f1.trans f) (by simp)
    clear row hl
    go_wp2_with (refine wp_copyB rfl _ _ rfl g 0 _ 512 _ _ 512 _ c p _ rfl rfl r2 (by rw [HL.out]; rfl) (fun _ => rfl) ROW.out.bytes (by rw [HL.out, HP.out]; omega) ?_; intro w3 r3 f3; rw [over_all _ _ (by rw [HL.out, HP.out])] at r3)
    go_ret
    exact ⟨true, rfl, Or.inl ⟨h1, h2, h3, rfl, r3, ((f1.trans f).mono (M := [g]) (by simp)).trans f3⟩⟩
  · have HN := hidI hno
    clear hno
    go_wp2_with fail
    go_ret
    exact ⟨false, rfl, Or.inr ⟨HN.out, rfl, HR.out.kept (f1.trans f) (by simp), f1.trans f⟩⟩

set_option maxHeartbeats 1000000 in
set_option maxRecDepth 100000 in
theorem refSetNext_no (w : World) (ad : Option Addr) (n c : Nat) (l : List UInt8) (y : Int) (h : SlAt w ad n c l) (hk : okP l = false) :
    Calls Try.prog 49 #[.slice ad n c, .int .i64 y] w fun r w' => r = .returned (.bool false) ∧ Fr [] w w' := by
  have HK := hidI hk
  clear hk
  go_enter Try.func49, Try.ntmps49
  go_wp2_with fail
  refine (of_any _ _ _ _ l h).mono ?_
  rintro e w1 (⟨hp, rfl, f1⟩ | ⟨cs, ad1, n1, cap1, E, hp, rfl, pg, hE, f1⟩)
  · clear hp
    go_wp2_with fail
    go_ret
    exact ⟨rfl, f1.alloc _⟩
  · exact absurd HK.out (by rw [(okP_some hp).1]; simp)

set_option maxHeartbeats 1000000 in
set_option maxRecDepth 100000 in
theorem refSetNext_page (w : World) (g c : Nat) (l : List UInt8) (k : UInt8) (x : Nat) (cs : List (List UInt8)) (y : Int) (hy : (Lit.int .i64 y).wf = true) (h : RowB w g c l) (pg : Pg l k x cs) :
    Calls Try.prog 49 #[.slice (some ⟨g, 0, none⟩) 512 c, .int .i64 y] w fun r w' =>
      (0 ≤ y ∧ y ≤ 4294967295 ∧ r = .returned (.bool true) ∧ RowB w' g c (pgB k y.toNat cs) ∧ Fr [g] w w') ∨ (¬ (0 ≤ y ∧ y ≤ 4294967295) ∧ r = .returned (.bool false) ∧ RowB w' g c l ∧ Fr [] w w') := by
  have hsl := h.sl
  rw [pg.len] at hsl
  go_enter Try.func49, Try.ntmps49
  go_wp2_with fail
  refine (of_any _ _ _ _ l hsl).mono ?_
  rintro e w1 (⟨hp, rfl, f1⟩ | ⟨cs1, ad1, n1, cap1, E, hp, rfl, rp, hE, f1⟩)
  · rw [pg.page] at hp; cases hp
  · obtain rfl : cs1 = cs := by rw [pg.page] at hp; exact (Option.some.inj hp).symm
    have hel : E.length = n1 := rp.len
    have hcl : cs1.length = n1 := by rw [← hE, rcells_length, hel]
    have hfew := pg.few
    have hfits := pg.fits
    have RP := hidI rp
    have HE := hidI hE
    have PG := hidI pg
    have HR := hidI h
    have HCL := hidI hcl
    clear hp rp hE pg h hcl hel hsl
    go_wp2_with fail
    have f2 := (Fr.refl [] w1).alloc (.cells #[.int .u8 ((byteAt l 0).toNat : Int), .int .i64 y, .slice ad1 n1 cap1] 75)
    generalize w1.alloc (.cells #[.int .u8 ((byteAt l 0).toNat : Int), .int .i64 y, .slice ad1 n1 cap1] 75) = w2 at f2 ⊢
    refine (set_any _ g c l (HR.out.kept (f1.trans f2) (by simp)) PG.out.len (byteAt l 0) _ y rfl hy ad1 n1 cap1 E (RP.out.kept f2) (by rw [← HCL.out]; omega) (by rw [HE.out]; omega)).mono ?_
    rintro e w3 ⟨ok, rfl, (⟨h1, h2, h3, rfl, row, f⟩ | ⟨hno, rfl, row, f⟩)⟩
    · have ROW := hidI row
      clear row
      go_wp2_with fail
      go_ret
      refine Or.inl ⟨h2, h3, rfl, ?_, ((f1.trans f2).mono (M := [g]) (by simp)).trans f⟩
      have := ROW.out
      rw [HE.out, PG.out.kind, ← HCL.out] at this
      have e9 : y = ((y.toNat : Nat) : Int) := by omega
      rw [e9, hdX_pgB] at this
      exact this
    · have ROW := hidI row
      have HN : Hid (¬ (0 ≤ y ∧ y ≤ 4294967295)) := fun hh => hno ⟨by rw [HE.out]; omega, hh.1, hh.2⟩
      clear row hno
      go_wp2_with fail
      go_ret
      exact Or.inr ⟨HN.out, rfl, ROW.out, (f1.trans f2).trans f⟩
end Go.Proofs.Ytlfpoeimgoikkaa
