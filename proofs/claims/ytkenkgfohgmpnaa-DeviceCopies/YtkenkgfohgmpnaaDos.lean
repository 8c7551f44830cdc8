/-
  The steps of a life, in memory; when a device that is armed crashes.
-/
import Derived.Test.YtkenkgfohgmpnaaPick
namespace Go.Proofs.Ytkenkgfohgmpnaa
open Go.RowKit Go.Maps

/-! ### the steps of a device's life, in memory -/
structure DoV where
  op : Int
  block : Int
  n : Int
  byte : Int
  fa : Option Addr
  fl : Nat
  fc : Nat
  F : Fs

structure DoOk (w : World) (d : DoV) : Prop where
  op : (Lit.int .i64 d.op).wf = true
  block : (Lit.int .i64 d.block).wf = true
  n : (Lit.int .i64 d.n).wf = true
  b0 : 0 ≤ d.byte
  b1 : d.byte < 256
  fl : d.F.length = d.fl
  fates : FatesAt w d.fa d.F
  nil : d.fa = none → d.fc = 0

def DosAt (w : World) (ad : Option Addr) (L : List DoV) : Prop :=
  ∀ i d, L[i]? = some d → DoOk w d ∧ ∃ b off, ad = some ⟨b, off, none⟩ ∧ w.cell? ⟨b, off + i * 5, none⟩ = some (.int .i64 d.op) ∧ w.cell? ⟨b, off + i * 5 + 1, none⟩ = some (.int .i64 d.block) ∧
    w.cell? ⟨b, off + i * 5 + 2, none⟩ = some (.int .i64 d.n) ∧ w.cell? ⟨b, off + i * 5 + 3, none⟩ = some (.int .u8 d.byte) ∧ w.cell? ⟨b, off + i * 5 + 4, none⟩ = some (.slice d.fa d.fl d.fc)

/-- Nothing that was there has turned: so the steps stand. -/
theorem DosAt.kept {w w' : World} {ad : Option Addr} {L : List DoV} (h : DosAt w ad L) (k : Fr [] w w') : DosAt w' ad L := by
  intro i d hd
  obtain ⟨ok, b, off, ha, c0, c1, c2, c3, c4⟩ := h i d hd
  have e := k.block b (block_lt_of_cell c0) (by simp)
  exact ⟨{ ok with fates := ok.fates.kept k (by simp) }, b, off, ha, (World.cell?_of_block e).trans c0, (World.cell?_of_block e).trans c1, (World.cell?_of_block e).trans c2, (World.cell?_of_block e).trans c3, (World.cell?_of_block e).trans c4⟩

theorem DosAt.take {w : World} {ad : Option Addr} {L : List DoV} (h : DosAt w ad L) (n : Nat) : DosAt w ad (L.take n) := by
  intro i d hd
  rw [List.getElem?_take] at hd
  split at hd
  · exact h i d hd
  · cases hd

/-! ### what a write or a sync does to when the device crashes -/
def stE (a : Int) (dn : Bool) : Int := if dn then 8 else told (crash a)
def stA (a : Int) (dn : Bool) : Int := if dn then a else left a
def stD (a : Int) (dn : Bool) : Bool := dn || crash a

theorem sync_step {w : World} {p bs bo : Nat} {n a : Int} {dn : Bool} {S O : Tab} (h : Dev w p bs bo n a dn S O) :
    Calls Try.prog 30 #[.pointer (some ⟨p, 0, none⟩)] w fun e w' => e = .returned (.int .i64 (stE a dn)) ∧ (∃ S' O', Dev w' p bs bo n (stA a dn) (stD a dn) S' O') ∧ Fr [p, bs, bo] w w' := by
  cases dn
  · cases hc : crash a
    · refine (sync_dev h hc).mono ?_
      rintro e w' ⟨rfl, d, f⟩
      exact ⟨by simp [stE, hc, told], ⟨_, _, by simpa [stA, stD, hc] using d⟩, f⟩
    · refine (sync_crash h hc).mono ?_
      rintro e w' ⟨rfl, d, f⟩
      exact ⟨by simp [stE, hc, told], ⟨_, _, by simpa [stA, stD, hc] using d⟩, f.mono (fun i _ hm => by simp at hm ⊢; exact Or.inl hm)⟩
  · refine (sync_down h).mono ?_
    rintro e w' ⟨rfl, rfl⟩
    exact ⟨by simp [stE], ⟨_, _, by simpa [stA, stD] using h⟩, Fr.refl _ _⟩

theorem write_step {w : World} {p bs bo : Nat} {n a : Int} {dn : Bool} {S O : Tab} (h : Dev w p bs bo n a dn S O) (k : Int) (h0 : 0 ≤ k) (h1 : k < n) (b off c : Nat) (l : List UInt8) (hl : l.length = 512) (hsrc : Src w b off l) :
    Calls Try.prog 27 #[.pointer (some ⟨p, 0, none⟩), .int .i64 k, .slice (some ⟨b, off, none⟩) 512 c] w fun e w' =>
      e = .returned (.int .i64 (stE a dn)) ∧ (∃ S' O', Dev w' p bs bo n (stA a dn) (stD a dn) S' O') ∧ Fr [p, bs, bo] w w' := by
  cases dn
  · refine (write_dev h k h0 h1 b off c l hl hsrc).mono ?_
    rintro e w' ⟨rfl, d, f⟩
    exact ⟨by simp [stE], ⟨_, _, by simpa [stA, stD] using d⟩, f.mono (fun i _ hm => by simp at hm ⊢; omega)⟩
  · have hr : reached n k true = 8 := rfl
    refine (write_err h k _ (by rw [hr]; omega)).mono ?_
    rw [hr]
    rintro e w' ⟨rfl, rfl⟩
    exact ⟨by simp [stE], ⟨_, _, by simpa [stA, stD] using h⟩, Fr.refl _ _⟩

/-- Of a device armed for m, behind i writes and syncs. -/
def armA (m i : Int) : Int := if i < m then m - i else 0
def armD (m i : Int) : Bool := decide (m ≤ i)

theorem arm_e {m i : Int} : stE (armA m i) (armD m i) = if i < m - 1 then 0 else 8 := by
  unfold stE armA armD crash told
  by_cases h1 : m ≤ i
  · have : ¬ i < m - 1 := by omega
    simp [h1, this]
  · by_cases h2 : i < m - 1
    · have e1 : i < m := by omega
      have e2 : ((m - i == 1) = false) := by simp; omega
      simp [h1, h2, e1, e2]
    · have e1 : i < m := by omega
      have e2 : ((m - i == 1) = true) := by simp; omega
      simp [h1, h2, e1, e2]
theorem arm_a {m i : Int} : stA (armA m i) (armD m i) = armA m (i + 1) := by
  unfold stA armA armD left
  by_cases h1 : m ≤ i
  · have e1 : ¬ i < m := by omega
    have e2 : ¬ i + 1 < m := by omega
    simp [h1, e1, e2]
  · have e1 : i < m := by omega
    have e3 : ¬ m - i = 0 := by omega
    by_cases e2 : i + 1 < m
    · simp [h1, e1, e2, e3]; omega
    · simp [h1, e1, e2, e3]; omega
theorem arm_d {m i : Int} : stD (armA m i) (armD m i) = armD m (i + 1) := by
  unfold stD armA armD crash
  by_cases h1 : m ≤ i
  · have e1 : m ≤ i + 1 := by omega
    simp [h1, e1]
  · have e1 : i < m := by omega
    by_cases e2 : m ≤ i + 1
    · have : (m - i == 1) = true := by simp; omega
      simp [e1, e2, this]
    · have : (m - i == 1) = false := by simp; omega
      simp [h1, e1, e2, this]

end Go.Proofs.Ytkenkgfohgmpnaa
