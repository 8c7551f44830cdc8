/-
  A log on its device, as one: what is its own in memory; made safe, appended to, whatever its place.
-/
import Derived.Test.YthajipigppndgaaGreatY14Z
import Derived.BigQuiet
import Derived.Deep.CutRange
import Derived.Test.YthajipigppndgaaGreatY12Z
namespace Go.Proofs.YthajipigppndgaaGreat
open Go.RowKit Go.Maps

def slV (fs : List Fm) : List Value := fs.map fun f => .pointer (some ⟨f.b, 0, none⟩)
/-- A ring in memory: its slots, the hand, its frames. -/
structure Rn (w : World) (rp : Nat) (sa : Option Addr) (sc hand : Nat) (fs : List Fm) : Prop where
  ring : w.heap[rp]? = some (.cells #[.slice sa fs.length sc, .int .i64 (hand : Int)] 315)
  slots : w.ownsRow 0 195 1 (.slice sa fs.length sc) fs.length (slV fs)
  frames : ∀ f ∈ fs, FAt w f
  nod : (fs.map (·.b)).Nodup
theorem Rn.r0 {w : World} {rp : Nat} {sa : Option Addr} {sc hand : Nat} {fs : List Fm} (h : Rn w rp sa sc hand fs) : w.cell? ⟨rp, 0, none⟩ = some (.slice sa fs.length sc) := cell_of_row w rp 0 _ _ _ h.ring
theorem Rn.r1 {w : World} {rp : Nat} {sa : Option Addr} {sc hand : Nat} {fs : List Fm} (h : Rn w rp sa sc hand fs) : w.cell? ⟨rp, 1, none⟩ = some (.int .i64 (hand : Int)) := cell_of_row w rp 1 _ _ _ h.ring
theorem Rn.fz {w : World} {rp : Nat} {sa : Option Addr} {sc hand : Nat} {fs : List Fm} (h : Rn w rp sa sc hand fs) (j : Nat) : w.frozen? ⟨rp, j, none⟩ = false := frozen_of_row w rp j _ _ h.ring
/-- The slots' row: where it lies, what it holds. -/
theorem Rn.at {w : World} {rp : Nat} {sa : Option Addr} {sc hand : Nat} {fs : List Fm} (h : Rn w rp sa sc hand fs) (hn : 0 < fs.length) : ∃ g cur, sa = some ⟨g, 0, none⟩ ∧ w.heap[g]? = some (.cells cur 195) ∧ fs.length ≤ sc ∧ sc ≤ maxLen ∧ cur.size = sc ∧ cur.toList.take fs.length = slV fs := by
  rcases h.slots.2 with ⟨_, h0⟩ | ⟨g, cap, cur, hv, hb, hg, hcap, hmx, hsz, htk⟩
  · omega
  · cases hv
    exact ⟨g, cur, rfl, hg, hcap, hmx, by simpa using hsz, by simpa using htk⟩
theorem row_cell {w : World} {g : Nat} {cur : Array Value} {fs : List Fm} (hg : w.heap[g]? = some (.cells cur 195)) (ht : cur.toList.take fs.length = slV fs) {j : Nat} {f : Fm} (hj : fs[j]? = some f) : w.cell? ⟨g, j, none⟩ = some (.pointer (some ⟨f.b, 0, none⟩)) := by
  rw [cell_of_row w g j _ _ _ hg]
  have hj' : j < fs.length := (List.getElem?_eq_some_iff.1 hj).1
  have h2 : (slV fs)[j]? = some (.pointer (some ⟨f.b, 0, none⟩)) := by simp [slV, hj]
  rw [← h2, ← ht, List.getElem?_take]
  simp [hj']
/-- The blocks that are a ring's own. -/
def ownR (rp : Nat) (sa : Option Addr) (fs : List Fm) : List Nat := rp :: ((sa.map (·.block)).toList ++ fs.map (·.b))
theorem Rn.kept {w w' : World} {rp : Nat} {sa : Option Addr} {sc hand : Nat} {fs : List Fm} {L : List Nat} (h : Rn w rp sa sc hand fs) (f : Fr L w w') (hL : ∀ k ∈ ownR rp sa fs, k ∉ L) : Rn w' rp sa sc hand fs := by
  refine ⟨f.same (hL _ (by simp [ownR])) h.ring, ⟨h.slots.1, ?_⟩, fun x hx => (h.frames x hx).kept f (hL _ (by simp [ownR]; exact Or.inr (Or.inr ⟨x, hx, rfl⟩))), h.nod⟩
  rcases h.slots.2 with hn | ⟨g, cap, cur, hv, hb, hg, r⟩
  · exact Or.inl hn
  · cases hv
    exact Or.inr ⟨g, _, cur, rfl, hb, f.same (hL _ (by simp [ownR])) hg, r⟩
theorem Rn.lt {w : World} {rp : Nat} {sa : Option Addr} {sc hand : Nat} {fs : List Fm} (h : Rn w rp sa sc hand fs) : ∀ k ∈ ownR rp sa fs, k < w.heap.size := by
  intro k hk
  simp only [ownR, List.mem_cons, List.mem_append, List.mem_map] at hk
  rcases hk with rfl | hk | ⟨f, hf, rfl⟩
  · exact (Array.getElem?_eq_some_iff.1 h.ring).1
  · rcases h.slots.2 with ⟨e, _⟩ | ⟨g, cap, cur, hv, hb, hg, r⟩
    · simp only [Value.slice.injEq] at e
      rw [e.1] at hk
      simp at hk
    · cases hv
      simp at hk
      subst hk
      exact (Array.getElem?_eq_some_iff.1 hg).1
  · exact (h.frames f hf).lt
/-- Of what types they are. -/
theorem Rn.types {w : World} {rp : Nat} {sa : Option Addr} {sc hand : Nat} {fs : List Fm} (h : Rn w rp sa sc hand fs) : ∀ k ∈ ownR rp sa fs, ∃ cur t, w.heap[k]? = some (.cells cur t) ∧ (t = 315 ∨ t = 195 ∨ t = 200) := by
  intro k hk
  simp only [ownR, List.mem_cons, List.mem_append, List.mem_map] at hk
  rcases hk with rfl | hk | ⟨f, hf, rfl⟩
  · exact ⟨_, _, h.ring, Or.inl rfl⟩
  · rcases h.slots.2 with ⟨e, _⟩ | ⟨g, cap, cur, hv, hb, hg, r⟩
    · simp only [Value.slice.injEq] at e
      rw [e.1] at hk
      simp at hk
    · cases hv
      simp at hk
      subst hk
      exact ⟨_, _, hg, Or.inr (Or.inl rfl)⟩
  · exact ⟨_, _, (h.frames f hf).at', Or.inr (Or.inr rfl)⟩

set_option maxHeartbeats 1000000 in
theorem ahead_any {w : World} {rp : Nat} {sa : Option Addr} {sc hand : Nat} {fs : List Fm} (h : Rn w rp sa sc hand fs) (hn : 0 < fs.length) (hm : fs.length ≤ 1024) (hh : hand ≤ 1024) (k : Nat) (hk : k ≤ 4000) (f : Fm) (hf : fs[(hand + k) % fs.length]? = some f) :
    Calls Tryz.prog 285 #[.pointer (some ⟨rp, 0, none⟩), .int .i64 (k : Int)] w fun e w' => ∃ nq, e = .returned (.pointer (some ⟨f.b, 0, none⟩)) ∧ w' = w.drewN nq := by
  obtain ⟨g, cur, rfl, hg, hsc, hmx, hsz, htk⟩ := h.at hn
  have c0 := h.r0
  have c1 := h.r1
  have cj := row_cell hg htk hf
  obtain ⟨n, HN⟩ : ∃ n, Hid (fs.length = n) := ⟨_, rfl⟩
  rw [HN.out] at c0 hn hm cj hsc
  obtain ⟨j, HJ⟩ : ∃ j, Hid ((hand + k) % n = j) := ⟨_, rfl⟩
  rw [HJ.out] at cj
  have hj : j < n := by rw [← HJ.out]; exact Nat.mod_lt _ hn
  obtain ⟨m, HM⟩ : ∃ m, Hid (hand + k = m) := ⟨_, rfl⟩
  have e1 : IntKind.i64.wrap ((hand : Int) + (k : Int)) = (m : Int) := by rw [← HM.out, Int.natCast_add]; exact wrapI _ (by omega) (by omega)
  have e2 : (m : Int) % (n : Int) = (j : Int) := by rw [← HJ.out, ← HM.out]; rfl
  have hm0 : (0 : Int) ≤ (m : Int) := by omega
  have hn0 : ¬ (n : Int) = 0 := by omega
  have hj0 : (0 : Int) ≤ (j : Int) := by omega
  have hj1 : (j : Int) < (n : Int) := by omega
  clear h hf hg htk hsz
  go_enter Tryz.func285, Tryz.ntmps285
  go_wp2
  go_quiet (fail)
  go_wp2
  go_ret
  exact ⟨_, rfl, rfl⟩

/-- Does a frame go for another one? -/
def goesB (f : Fm) (again : Bool) : Bool := decide (f.hd = 0) && (again || !f.ask)
set_option maxHeartbeats 1000000 in
theorem leaving1_any {w : World} {f : Fm} (h : FAt w f) (again : Bool) : Calls Tryz.prog 282 #[.pointer (some ⟨f.b, 0, none⟩), .bool again] w fun e w' => e = .returned (.bool (goesB f again)) ∧ w' = w := by
  have c2 := h.c2
  have c3 := h.c3
  unfold goesB
  generalize f.ask = k at c3 ⊢
  by_cases h0 : f.hd = 0
  · rw [h0] at c2 ⊢
    cases again
    · go_enter Tryz.func282, Tryz.ntmps282
      go_wp2
      go_ret
      exact ⟨by simp, rfl⟩
    · go_enter Tryz.func282, Tryz.ntmps282
      go_wp2
      go_ret
      exact ⟨by simp, rfl⟩
  · have hb : (f.hd == 0) = false := by simpa using h0
    go_enter Tryz.func282, Tryz.ntmps282
    go_wp2
    go_ret
    exact ⟨by simp [h0], rfl⟩

theorem at_mod {fs : List Fm} (hn : 0 < fs.length) (k : Nat) : ∃ f, fs[k % fs.length]? = some f := ⟨_, List.getElem?_eq_getElem (Nat.mod_lt _ hn)⟩
/-- How far the frame is that goes. -/
def seekTo (fs : List Fm) (hand k : Nat) (b : Bool) : Prop :=
  (b = true ∧ k < 2 * fs.length ∧ (∃ f, fs[(hand + k) % fs.length]? = some f ∧ goesB f (decide (fs.length ≤ k)) = true) ∧ ∀ j, j < k → ∀ f, fs[(hand + j) % fs.length]? = some f → goesB f (decide (fs.length ≤ j)) = false) ∨
  (b = false ∧ k = 0 ∧ ∀ j, j < 2 * fs.length → ∀ f, fs[(hand + j) % fs.length]? = some f → goesB f (decide (fs.length ≤ j)) = false)
set_option maxHeartbeats 1000000 in
theorem seek_any {w : World} {rp : Nat} {sa : Option Addr} {sc hand : Nat} {fs : List Fm} (h : Rn w rp sa sc hand fs) (hn : 0 < fs.length) (hm : fs.length ≤ 1024) (hh : hand ≤ 1024) :
    Calls Tryz.prog 281 #[.pointer (some ⟨rp, 0, none⟩), .func (.func 282) #[] #[]] w fun e w' => ∃ k b, e = .returned (.tuple #[.int .i64 ((k : Nat) : Int), .bool b]) ∧ seekTo fs hand k b ∧ Fr [] w w' := by
  have c0 := h.r0
  obtain ⟨n, HN⟩ : ∃ n, Hid (fs.length = n) := ⟨_, rfl⟩
  have HR := hidI h
  have hn' := hn
  rw [HN.out] at c0 hn' hm
  have e1 : IntKind.i64.wrap (2 * (n : Int)) = 2 * (n : Int) := wrapI _ (by omega) (by omega)
  clear h
  go_enter Tryz.func281, Tryz.ntmps281
  go_wp2
  go_loopw [15] (fun s15 wr => ∃ (i : Nat), i ≤ 2 * n ∧ s15 = .int .i64 (i : Int) ∧ Hid (∀ j, j < i → ∀ f, fs[(hand + j) % fs.length]? = some f → goesB f (decide (fs.length ≤ j)) = false) ∧ Hid (Fr [] w wr)) (fun s15 _ => 2 * n - (intOf s15).toNat)
  case atStart => exact ⟨0, by omega, rfl, hidI (fun j hj => by omega), hidI (Fr.refl _ _)⟩
  case round =>
    obtain ⟨i, hi, rfl, HB, HF⟩ := hrel
    by_cases hlt : i < 2 * n
    · have q1 : (i : Int) < 2 * (n : Int) := by omega
      obtain ⟨f, hf⟩ := at_mod hn (hand + i)
      have R1 := HR.out.kept HF.out (by simp)
      have FF := HF.out
      have hw1 : IntKind.i64.wrap ((i : Int) + 1) = (i : Int) + 1 := wrapI _ (by omega) (by omega)
      go_wp2_with fail
      refine (ahead_any R1 hn (by rw [HN.out]; exact hm) hh i (by omega) f hf).mono ?_
      rintro e w2 ⟨nq, rfl, rfl⟩
      have f2 : Fr [] w (wr.drewN nq) := FF.drewN nq
      have F2 := hidI ((HR.out.kept f2 (by simp)).frames f (List.mem_of_getElem? hf))
      generalize wr.drewN nq = w2 at f2 F2 ⊢
      by_cases hge : n ≤ i
      · have q2 : (n : Int) ≤ (i : Int) := by omega
        cases hfit : goesB f true
        · go_wp2_with (go_at_call 282; refine (leaving1_any F2.out true).mono ?_; rw [hfit]; rintro e w3 ⟨rfl, rfl⟩)
          refine ⟨⟨i + 1, by omega, by go_num, hidI (fun j hj g hg => ?_), hidI f2⟩, by simp [intOf]; omega⟩
          rcases Nat.lt_succ_iff_lt_or_eq.1 hj with h1 | rfl
          · exact HB.out j h1 g hg
          · rw [hf] at hg
            cases hg
            rw [HN.out, decide_eq_true hge]
            exact hfit
        · go_wp2_with (go_at_call 282; refine (leaving1_any F2.out true).mono ?_; rw [hfit]; rintro e w3 ⟨rfl, rfl⟩)
          go_ret2
          exact ⟨i, true, rfl, Or.inl ⟨rfl, by rw [HN.out]; exact hlt, ⟨f, hf, by rw [HN.out, decide_eq_true hge]; exact hfit⟩, HB.out⟩, f2⟩
      · have q2 : ¬ (n : Int) ≤ (i : Int) := by omega
        cases hfit : goesB f false
        · go_wp2_with (go_at_call 282; refine (leaving1_any F2.out false).mono ?_; rw [hfit]; rintro e w3 ⟨rfl, rfl⟩)
          refine ⟨⟨i + 1, by omega, by go_num, hidI (fun j hj g hg => ?_), hidI f2⟩, by simp [intOf]; omega⟩
          rcases Nat.lt_succ_iff_lt_or_eq.1 hj with h1 | rfl
          · exact HB.out j h1 g hg
          · rw [hf] at hg
            cases hg
            rw [HN.out, decide_eq_false hge]
            exact hfit
        · go_wp2_with (go_at_call 282; refine (leaving1_any F2.out false).mono ?_; rw [hfit]; rintro e w3 ⟨rfl, rfl⟩)
          go_ret2
          exact ⟨i, true, rfl, Or.inl ⟨rfl, by rw [HN.out]; exact hlt, ⟨f, hf, by rw [HN.out, decide_eq_false hge]; exact hfit⟩, HB.out⟩, f2⟩
    · have q1 : ¬ (i : Int) < 2 * (n : Int) := by omega
      have FF := HF.out
      go_wp2_with fail
      go_ret2
      exact ⟨0, Or.inl ⟨rfl, Or.inr ⟨rfl, rfl, fun j hj => HB.out j (by rw [HN.out] at hj; omega)⟩, FF⟩⟩
end Go.Proofs.YthajipigppndgaaGreat

namespace Go.Proofs.YthajipigppndgaaGreat
open Go.RowKit Go.Maps

def offF (f : Fm) : Fm := { f with ask := false }
def stepS (s : List Fm × Nat) : List Fm × Nat := (match s.1[s.2]? with | some f => s.1.set s.2 (offF f) | none => s.1, (s.2 + 1) % s.1.length)
/-- The hand turned so many steps. -/
def turnS : Nat → List Fm × Nat → List Fm × Nat
  | 0, s => s
  | k + 1, s => stepS (turnS k s)
theorem stepS_len (s : List Fm × Nat) : (stepS s).1.length = s.1.length := by
  unfold stepS
  cases s.1[s.2]? <;> simp
theorem turnS_len (k : Nat) (s : List Fm × Nat) : (turnS k s).1.length = s.1.length := by
  induction k with
  | zero => rfl
  | succ k ih => rw [turnS, stepS_len, ih]
theorem set_same {α : Type} {l : List α} {j : Nat} {a : α} (h : l[j]? = some a) : l.set j a = l := by
  apply List.ext_getElem?
  intro i
  rw [List.getElem?_set]
  split
  · rename_i e
    subst e
    have := (List.getElem?_eq_some_iff.1 h).1
    simp [this]
    exact ((List.getElem?_eq_some_iff.1 h).2).symm
  · rfl
theorem map_b {fs : List Fm} {j : Nat} {f f' : Fm} (h : fs[j]? = some f) (hb : f'.b = f.b) : (fs.set j f').map (·.b) = fs.map (·.b) := by
  rw [List.map_set]
  exact set_same (by simp [h, hb])
theorem stepS_b (s : List Fm × Nat) : (stepS s).1.map (·.b) = s.1.map (·.b) := by
  unfold stepS
  cases h : s.1[s.2]? with
  | none => rfl
  | some f => exact map_b h rfl
theorem turnS_b (k : Nat) (s : List Fm × Nat) : (turnS k s).1.map (·.b) = s.1.map (·.b) := by
  induction k with
  | zero => rfl
  | succ k ih => rw [turnS, stepS_b, ih]
theorem turnS_hand (k : Nat) (s : List Fm × Nat) (h : s.2 < s.1.length) : (turnS k s).2 < s.1.length := by
  cases k with
  | zero => exact h
  | succ k =>
    rw [turnS, stepS]
    show ((turnS k s).2 + 1) % (turnS k s).1.length < _
    rw [turnS_len]
    exact Nat.mod_lt _ (by omega)
theorem nod_ne {fs : List Fm} (h : (fs.map (·.b)).Nodup) {i j : Nat} {x f : Fm} (hx : fs[i]? = some x) (hf : fs[j]? = some f) (hij : i ≠ j) : x.b ≠ f.b := by
  have h1 : ∀ i j : Nat, i < j → ∀ x f : Fm, fs[i]? = some x → fs[j]? = some f → x.b ≠ f.b := by
    intro i j hlt x f hx hf
    obtain ⟨hi, rfl⟩ := List.getElem?_eq_some_iff.1 hx
    obtain ⟨hj, rfl⟩ := List.getElem?_eq_some_iff.1 hf
    have := List.pairwise_iff_getElem.1 h i j (by simpa using hi) (by simpa using hj) hlt
    simpa using this
  rcases Nat.lt_or_gt_of_ne hij with h2 | h2
  · exact h1 i j h2 x f hx hf
  · exact (h1 j i h2 f x hf hx).symm
theorem mem_set {fs : List Fm} {j : Nat} {f f' x : Fm} (hj : fs[j]? = some f) (hx : x ∈ fs.set j f') : x = f' ∨ ∃ i, i ≠ j ∧ fs[i]? = some x := by
  obtain ⟨i, hi⟩ := List.mem_iff_getElem?.1 hx
  by_cases e : i = j
  · subst e
    have := (List.getElem?_eq_some_iff.1 hj).1
    rw [List.getElem?_set_self this] at hi
    exact Or.inl (Option.some.inj hi).symm
  · rw [List.getElem?_set_ne (Ne.symm e)] at hi
    exact Or.inr ⟨i, e, hi⟩
theorem own_kb {w w' : World} {e : TypeId} {v : Value} {n : Nat} {xs : List Value} {L : List Nat} (h : w.ownsRow 0 e 1 v n xs) (f : Fr L w w') (hL : ∀ g ∈ v.ownBlock.toList, g ∉ L) : w'.ownsRow 0 e 1 v n xs := by
  obtain ⟨h1, h2⟩ := h
  refine ⟨h1, ?_⟩
  rcases h2 with hn | ⟨g, cap, cur, hv, hb, hg, r⟩
  · exact Or.inl hn
  · refine Or.inr ⟨g, cap, cur, hv, hb, f.same (hL g (by rw [hv]; simp [Value.ownBlock])) hg, r⟩
/-- One frame of a ring changed. -/
theorem Rn.setF' {w w' : World} {rp : Nat} {sa : Option Addr} {sc hand : Nat} {fs : List Fm} {L : List Nat} (h : Rn w rp sa sc hand fs) {j : Nat} {f f' : Fm} (hj : fs[j]? = some f) (hb : f'.b = f.b) (hf : FAt w' f') (fr : Fr L w w') (hL : ∀ k ∈ ownR rp sa fs, k ≠ f.b → k ∉ L) : Rn w' rp sa sc hand (fs.set j f') := by
  have hfA := h.frames f (List.mem_of_getElem? hj)
  refine ⟨?_, ?_, ?_, ?_⟩
  · rw [List.length_set]
    refine fr.same (hL _ (by simp [ownR]) ?_) h.ring
    intro e
    have := h.ring
    rw [e, hfA.at'] at this
    simp at this
  · rw [List.length_set]
    have e : slV (fs.set j f') = slV fs := by
      unfold slV
      rw [List.map_set]
      exact set_same (by simp [hj, hb])
    rw [e]
    refine own_kb h.slots fr ?_
    intro g hg
    rcases h.slots.2 with ⟨ev, _⟩ | ⟨g', cap, cur, hv, hb', hg', r⟩
    · rw [ev] at hg
      simp [Value.ownBlock] at hg
    · rw [hv] at hg
      simp [Value.ownBlock] at hg
      subst hg
      simp only [Value.slice.injEq] at hv
      refine hL g (by simp [ownR, hv.1]) ?_
      intro e
      rw [e, hfA.at'] at hg'
      simp at hg'
  · intro x hx
    rcases mem_set hj hx with rfl | ⟨i, hi, hxi⟩
    · exact hf
    · exact (h.frames x (List.mem_of_getElem? hxi)).kept fr (hL _ (by simp only [ownR, List.mem_cons, List.mem_append, List.mem_map]; exact Or.inr (Or.inr ⟨x, List.mem_of_getElem? hxi, rfl⟩)) (nod_ne h.nod hxi hj hi))
  · rw [map_b hj hb]
    exact h.nod
theorem Rn.setF {w w' : World} {rp : Nat} {sa : Option Addr} {sc hand : Nat} {fs : List Fm} (h : Rn w rp sa sc hand fs) {j : Nat} {f f' : Fm} (hj : fs[j]? = some f) (hb : f'.b = f.b) (hf : FAt w' f') (fr : Fr [f.b] w w') : Rn w' rp sa sc hand (fs.set j f') := h.setF' hj hb hf fr (fun k _ hk => by simpa using hk)
theorem Rn.rp_ne {w : World} {rp : Nat} {sa : Option Addr} {sc hand : Nat} {fs : List Fm} (h : Rn w rp sa sc hand fs) : (∀ g ∈ (Value.ownBlock (.slice sa fs.length sc)).toList, g ≠ rp) ∧ ∀ f ∈ fs, f.b ≠ rp := by
  constructor
  · intro g hg e
    subst e
    rcases h.slots.2 with ⟨ev, _⟩ | ⟨g', cap, cur, hv, hb', hg', r⟩
    · rw [ev] at hg
      simp [Value.ownBlock] at hg
    · rw [hv] at hg
      simp [Value.ownBlock] at hg
      subst hg
      rw [h.ring] at hg'
      simp at hg'
  · intro f hf e
    have h1 := (h.frames f hf).at'
    rw [e, h.ring] at h1
    simp at h1
/-- The hand moved. -/
theorem Rn.move {w : World} {rp : Nat} {sa : Option Addr} {sc hand : Nat} {fs : List Fm} (h : Rn w rp sa sc hand fs) (x : Nat) : Rn (w.setCell ⟨rp, 1, none⟩ (.int .i64 (x : Int))) rp sa sc x fs :=
  ⟨heap_setCell_same w rp 1 _ _ _ h.ring, own_kb h.slots (fr_set _ _ _ _) (fun g hg e => h.rp_ne.1 g hg (by simpa using e)), fun f hf => (h.frames f hf).kept (fr_set _ _ _ _) (by simpa using h.rp_ne.2 f hf), h.nod⟩
theorem enter1_any {w : World} {f : Fm} (h : FAt w f) : Calls Tryz.prog 287 #[.pointer (some ⟨f.b, 0, none⟩)] w fun e w' => e = .returned (.tuple #[]) ∧ FAt w' (offF f) ∧ Fr [f.b] w w' := by
  have c3 := h.c3
  have z3 := h.fz 514
  have h' := hidI (h.s3 false)
  go_enter Tryz.func287, Tryz.ntmps287
  go_wp2
  go_end0
  exact ⟨rfl, h'.out, fr_set _ _ _ _⟩
set_option maxHeartbeats 2000000 in
theorem turn_any {w : World} {rp : Nat} {sa : Option Addr} {sc hand : Nat} {fs : List Fm} (h : Rn w rp sa sc hand fs) (hn : 0 < fs.length) (hm : fs.length ≤ 1024) (hh : hand < fs.length) (k : Nat) (hk : k ≤ 4000) :
    Calls Tryz.prog 286 #[.pointer (some ⟨rp, 0, none⟩), .int .i64 (k : Int), .func (.func 287) #[] #[]] w fun e w' => e = .returned (.tuple #[]) ∧ Rn w' rp sa sc (turnS k (fs, hand)).2 (turnS k (fs, hand)).1 ∧ Fr (ownR rp sa fs) w w' := by
  obtain ⟨n, HN⟩ : ∃ n, Hid (fs.length = n) := ⟨_, rfl⟩
  have HR := hidI h
  rw [HN.out] at hn hm
  clear h
  go_enter Tryz.func286, Tryz.ntmps286
  go_wp2
  go_loopw [7] (fun s7 wr => ∃ (i : Nat), i ≤ k ∧ s7 = .int .i64 (i : Int) ∧ Hid (Rn wr rp sa sc (turnS i (fs, hand)).2 (turnS i (fs, hand)).1) ∧ Hid (Fr (ownR rp sa fs) w wr)) (fun s7 _ => k - (intOf s7).toNat)
  case atStart => exact ⟨0, by omega, rfl, HR, hidI (Fr.refl _ _)⟩
  case round =>
    obtain ⟨i, hi, rfl, HB, HF⟩ := hrel
    by_cases hlt : i < k
    · have q1 : (i : Int) < (k : Int) := by omega
      have hT := turnS_len i (fs, hand)
      have hH := turnS_hand i (fs, hand) hh
      have hTb := turnS_b i (fs, hand)
      have HT : Hid (turnS (i + 1) (fs, hand) = stepS (turnS i (fs, hand))) := hidI rfl
      generalize turnS i (fs, hand) = t at hT hH hTb HB HT
      obtain ⟨fs1, hand1⟩ := t
      simp only at hT hH hTb HB
      rw [HN.out] at hT hH
      have R1 := HB.out
      obtain ⟨f, hf⟩ : ∃ f, fs1[hand1]? = some f := ⟨_, List.getElem?_eq_getElem (by omega)⟩
      obtain ⟨g, cur, rfl, hg, hsc, hmx, hsz, htk⟩ := R1.at (by omega)
      have c0 := R1.r0
      have c1 := R1.r1
      rw [hT] at c0
      have cj := row_cell hg htk hf
      have hF := hidI (R1.frames f (List.mem_of_getElem? hf))
      have R1H := hidI R1
      have hw0 : (0 : Int) ≤ (hand1 : Int) := by omega
      have hw1 : (hand1 : Int) < (n : Int) := by omega
      have hwn : ¬ (n : Int) = 0 := by omega
      have hwa : IntKind.i64.wrap ((hand1 : Int) + 1) = (hand1 : Int) + 1 := wrapI _ (by omega) (by omega)
      obtain ⟨hand2, H2⟩ : ∃ hand2, Hid ((hand1 + 1) % n = hand2) := ⟨_, rfl⟩
      have hwm : ((hand1 : Int) + 1) % (n : Int) = (hand2 : Int) := by rw [← H2.out]; rfl
      have hwp : (0 : Int) ≤ (hand1 : Int) + 1 := by omega
      have hwi : IntKind.i64.wrap ((i : Int) + 1) = (i : Int) + 1 := wrapI _ (by omega) (by omega)
      have hfb : f.b ∈ ownR rp (some ⟨g, 0, none⟩) fs := by
        have : f.b ∈ fs1.map (·.b) := List.mem_map.2 ⟨f, List.mem_of_getElem? hf, rfl⟩
        rw [hTb] at this
        simp only [ownR, List.mem_cons, List.mem_append]
        exact Or.inr (Or.inr this)
      clear R1 hg htk hsz
      go_wp2_with fail
      go_region_law ((go_simp; go_at_call 287; refine (enter1_any (hF.out.kept (Fr.refl [] wr).drew (by simp))).mono ?_; rintro e w3 ⟨rfl, F3, f3⟩))
      all_goals
        have R3 : Rn w3 rp (some ⟨g, 0, none⟩) sc hand1 (fs1.set hand1 (offF f)) := (R1H.out.kept (Fr.refl [] wr).drew (by simp)).setF hf rfl F3 f3
        have g3 : Fr (ownR rp (some ⟨g, 0, none⟩) fs) w w3 := HF.out.then ((Fr.refl [f.b] wr).drew.trans f3) (fun k _ hk => by simp at hk; rw [hk]; exact hfb)
        have d0 := R3.r0
        have d1 := R3.r1
        have z1 := R3.fz 1
        rw [List.length_set, hT] at d0
        have R3H := hidI R3
        have G3 := hidI g3
        clear R3 g3 f3 F3 c0 c1 cj
        go_wp2_with fail
        go_region
        all_goals
          go_wp2_with fail
          refine ⟨⟨i + 1, by omega, by go_num, ?_, ?_⟩, by simp [intOf]; omega⟩
          · rw [HT.out]
            have e : stepS (fs1, hand1) = (fs1.set hand1 (offF f), hand2) := by
              unfold stepS
              simp only [hf]
              rw [hT, H2.out]
            rw [e]
            exact hidI ((R3H.out.kept (Fr.refl [] w3).drew (by simp)).move hand2)
          · exact hidI ((G3.out.drew).setCell _ _ (fun _ => by simp [ownR]))
    · have q1 : ¬ (i : Int) < (k : Int) := by omega
      obtain rfl : i = k := by omega
      have R1 := HB.out
      have FF := HF.out
      go_wp2_with fail
      go_end0
      exact ⟨rfl, R1, FF⟩
theorem FAt.tyne {w : World} {f : Fm} (h : FAt w f) {k : Nat} {cur : Array Value} {t : TypeId} (hk : w.heap[k]? = some (.cells cur t)) (ht : t ≠ 200) : f.b ≠ k := by
  intro e
  have := h.at'
  rw [e, hk] at this
  simp at this
  exact ht this.2
theorem nodup_set : ∀ {l : List Nat} {j x : Nat}, l.Nodup → x ∉ l → (l.set j x).Nodup
  | [], _, _, _, _ => by simp
  | y :: r, 0, x, h, hx => by
    rw [List.set_cons_zero, List.nodup_cons]
    exact ⟨fun e => hx (List.mem_cons_of_mem _ e), (List.nodup_cons.1 h).2⟩
  | y :: r, j + 1, x, h, hx => by
    rw [List.set_cons_succ, List.nodup_cons]
    refine ⟨fun e => ?_, nodup_set (List.nodup_cons.1 h).2 (fun e => hx (List.mem_cons_of_mem _ e))⟩
    rcases List.mem_or_eq_of_mem_set e with e | e
    · exact (List.nodup_cons.1 h).1 e
    · exact hx (by rw [← e]; exact List.mem_cons_self)
/-- A slot of a ring that another frame is put in. -/
theorem Rn.setSlot {w : World} {rp g sc hand : Nat} {fs : List Fm} (h : Rn w rp (some ⟨g, 0, none⟩) sc hand fs) {j : Nat} (hj : j < fs.length) {f' : Fm} (hf : FAt w f') (hb : f'.b ∉ fs.map (·.b)) :
    Rn (w.setCell ⟨g, j, none⟩ (.pointer (some ⟨f'.b, 0, none⟩))) rp (some ⟨g, 0, none⟩) sc hand (fs.set j f') := by
  obtain ⟨g', cur, e, hg, hsc, hmx, hsz, htk⟩ := h.at (by omega)
  cases e
  have hgr : g ≠ rp := h.rp_ne.1 g (by simp [Value.ownBlock])
  refine ⟨?_, ⟨by simp [slV], ?_⟩, ?_, ?_⟩
  · rw [List.length_set]
    exact (fr_set w g j _).same (by simpa using Ne.symm hgr) h.ring
  · rw [List.length_set]
    refine Or.inr ⟨g, sc, _, rfl, Nat.zero_le _, heap_setCell_same w g j _ _ _ hg, hsc, hmx, by simpa using hsz, ?_⟩
    rw [Nat.mul_one, Array.toList_setIfInBounds, List.take_set, htk]
    unfold slV
    rw [List.map_set]
  · intro x hx
    rcases List.mem_or_eq_of_mem_set hx with hx | rfl
    · exact (h.frames x hx).kept (fr_set w g j _) (by simpa using (h.frames x hx).tyne hg (by decide))
    · exact hf.kept (fr_set w g j _) (by simpa using hf.tyne hg (by decide))
  · rw [List.map_set]
    exact nodup_set h.nod hb
set_option maxHeartbeats 2000000 in
theorem swap_any {w : World} {rp : Nat} {sa : Option Addr} {sc hand : Nat} {fs : List Fm} (h : Rn w rp sa sc hand fs) (hn : 0 < fs.length) (hm : fs.length ≤ 1024) (hh : hand < fs.length) {f f' : Fm} (hf : fs[hand]? = some f) (hf' : FAt w f') (hb : f'.b ∉ fs.map (·.b)) :
    Calls Tryz.prog 288 #[.pointer (some ⟨rp, 0, none⟩), .pointer (some ⟨f'.b, 0, none⟩)] w fun e w' => e = .returned (.pointer (some ⟨f.b, 0, none⟩)) ∧ Rn w' rp sa sc ((hand + 1) % fs.length) (fs.set hand f') ∧ Fr (rp :: (Value.ownBlock (.slice sa fs.length sc)).toList) w w' := by
  obtain ⟨g, cur, rfl, hg, hsc, hmx, hsz, htk⟩ := h.at hn
  have c0 := h.r0
  have c1 := h.r1
  have cj := row_cell hg htk hf
  have zg := frozen_of_row w g hand _ _ hg
  have zr := h.fz 1
  have R2 := hidI (h.setSlot hh hf' hb)
  have HR := hidI h
  obtain ⟨n, HN⟩ : ∃ n, Hid (fs.length = n) := ⟨_, rfl⟩
  rw [HN.out] at c0 hn hm hh hsc ⊢
  have hw0 : (0 : Int) ≤ (hand : Int) := by omega
  have hw1 : (hand : Int) < (n : Int) := by omega
  have hwn : ¬ (n : Int) = 0 := by omega
  have hwa : IntKind.i64.wrap ((hand : Int) + 1) = (hand : Int) + 1 := wrapI _ (by omega) (by omega)
  obtain ⟨hand2, H2⟩ : ∃ hand2, Hid ((hand + 1) % n = hand2) := ⟨_, rfl⟩
  have hwm : ((hand : Int) + 1) % (n : Int) = (hand2 : Int) := by rw [← H2.out]; rfl
  have hwp : (0 : Int) ≤ (hand : Int) + 1 := by omega
  rw [H2.out]
  have hgr : g ≠ rp := h.rp_ne.1 g (by simp [Value.ownBlock])
  have HF' := hidI hf'
  clear h htk hsz hg
  go_enter Tryz.func288, Tryz.ntmps288
  go_wp2_with fail
  go_quiet (fail)
  have fd := (Fr.refl [] w).drewN nq
  have R1 := hidI (HR.out.kept fd (by simp))
  have F1 := hidI (HF'.out.kept fd (by simp))
  generalize w.drewN nq = w1 at fd R1 F1 ⊢
  have c0 := R1.out.r0
  rw [HN.out] at c0
  have c1 := R1.out.r1
  obtain ⟨g', cur', e, hg, _, _, _, htk⟩ := R1.out.at (by rw [HN.out]; exact hn)
  cases e
  have cj := row_cell hg htk hf
  have zg := frozen_of_row w1 g hand _ _ hg
  clear hg htk
  go_wp2_with fail
  go_region
  all_goals
    have f3 : Fr [g] w1 (w1.setCell ⟨g, hand, none⟩ (.pointer (some ⟨f'.b, 0, none⟩))).drew := (fr_set _ _ _ _).drew
    have R3 := hidI ((R1.out.setSlot (by rw [HN.out]; exact hh) F1.out hb).kept (Fr.refl [] _).drew (by simp))
    generalize (w1.setCell ⟨g, hand, none⟩ (.pointer (some ⟨f'.b, 0, none⟩))).drew = w3 at f3 R3 ⊢
    have c0 := R3.out.r0
    rw [List.length_set, HN.out] at c0
    have c1 := R3.out.r1
    have zr := R3.out.fz 1
    go_wp2_with fail
    go_region
    all_goals
      go_wp2_with fail
      go_ret
      refine ⟨rfl, ((R3.out.kept (Fr.refl [] w3).drew (by simp)).move hand2), ?_⟩
      have q1 : Fr [rp, g] w w1 := fd.mono (fun _ _ e => nomatch e)
      have q2 : Fr [rp, g] w1 w3 := f3.mono (fun k _ hk => by simp at hk; simp [hk])
      have q3 : Fr [rp, g] w3 (w3.drew.setCell ⟨rp, 1, none⟩ (.int .i64 (hand2 : Int))) := (Fr.refl _ w3).drew.trans ((fr_set _ _ _ _).mono (fun k _ hk => by simp at hk; simp [hk]))
      exact (q1.trans q2).trans q3
end Go.Proofs.YthajipigppndgaaGreat

namespace Go.Proofs.YthajipigppndgaaGreat
open Go.RowKit Go.Maps

structure Lo where
  d : Nat
  bs : Nat
  bo : Nat
  nb : Int
  S : Dv.Tab
  O : Dv.Tab
  p : Nat
  first : Int
  count : Int
  T : Nat
  A : Nat
  P : Nat
  E : Nat
  F : Nat
  n : Nat
  cb : Nat
  ad : Option Addr
  n2 : Nat
  c2 : Nat
  a2 : Option Addr
  lb : List UInt8
  ls : List Int
  lw : Int
def Lo.lg (y : Lo) : Lg := ⟨.pointer (some ⟨y.d, 0, none⟩), y.first, y.count, (y.T : Int), (y.A : Int) + 1, (y.P : Int) + 1, (y.E : Int) + 1, .slice y.ad y.n y.cb, (y.F : Int) + 1, .slice y.a2 y.n2 y.c2⟩
/-- A log in memory, and its device, which is not armed. -/
structure LoAt (w : World) (y : Lo) : Prop where
  dev : Dv.Dev w y.d y.bs y.bo y.nb 0 false y.S y.O
  box : LBox w y.p y.lg
  bsA : BsAt w y.ad y.n y.cb y.lb
  lsA : LsAt w y.a2 y.n2 y.c2 y.ls
  lbl : y.lb.length = y.n
  hn : y.F + y.n = y.E
  hFP : y.F ≤ y.P
  hPE : y.P ≤ y.E
  hFA : y.F ≤ y.A
  hAE : y.A ≤ y.E
  hE : y.E ≤ 400000
  h2 : y.n2 ≤ y.E
  hT : y.T < 2147483648
  f0 : 0 ≤ y.first
  f1 : y.first + y.count ≤ y.nb
  c0 : 4 ≤ y.count
  hlw : y.lw ≤ y.first
/-- The blocks that are its own. -/
def Lo.own (y : Lo) : List Nat := [y.p, y.d, y.bs, y.bo] ++ ((Value.ownBlock (.slice y.ad y.n y.cb)).toList ++ (Value.ownBlock (.slice y.a2 y.n2 y.c2)).toList)
theorem LoAt.ne {w : World} {y : Lo} (h : LoAt w y) : y.p ≠ y.d ∧ y.p ≠ y.bs ∧ y.p ≠ y.bo := by
  refine ⟨?_, ?_, ?_⟩ <;> intro e
  · have h1 := h.box
    unfold LBox at h1
    rw [e, h.dev.cells] at h1
    simp at h1
  · have h1 := h.box
    unfold LBox at h1
    obtain ⟨D, ⟨es, clock, hb, _⟩, _⟩ := h.dev.safe
    rw [e, hb] at h1
    cases h1
  · have h1 := h.box
    unfold LBox at h1
    obtain ⟨D, ⟨es, clock, hb, _⟩, _⟩ := h.dev.opn
    rw [e, hb] at h1
    cases h1
theorem LoAt.kept {w w' : World} {y : Lo} {L : List Nat} (h : LoAt w y) (f : Fr L w w') (hL : ∀ k ∈ y.own, k ∉ L) : LoAt w' y :=
  { h with
    dev := dev_kept h.dev f (hL _ (by simp [Lo.own])) (hL _ (by simp [Lo.own])) (hL _ (by simp [Lo.own]))
    box := h.box.kept f (hL _ (by simp [Lo.own]))
    bsA := own_kb h.bsA f (fun g hg => hL g (by simp only [Lo.own, List.mem_append]; exact Or.inr (Or.inl hg)))
    lsA := own_kb h.lsA f (fun g hg => hL g (by simp only [Lo.own, List.mem_append]; exact Or.inr (Or.inr hg))) }
/-- What they hold: maps, or cells of four types. -/
theorem LoAt.types {w : World} {y : Lo} (h : LoAt w y) : ∀ k ∈ y.own, k < w.heap.size ∧ ∀ cur t, w.heap[k]? = some (.cells cur t) → t = 153 ∨ t = 168 ∨ t = 5 ∨ t = 2 := by
  intro k hk
  simp only [Lo.own, List.mem_append, List.mem_cons, List.not_mem_nil, or_false] at hk
  rcases hk with (rfl | rfl | rfl | rfl) | hk | hk
  · refine ⟨h.box.lt, fun cur t e => ?_⟩
    have h1 := h.box
    unfold LBox at h1
    rw [h1] at e
    cases e
    exact Or.inl rfl
  · refine ⟨h.dev.lt.1, fun cur t e => ?_⟩
    rw [h.dev.cells] at e
    cases e
    exact Or.inr (Or.inl rfl)
  · refine ⟨h.dev.lt.2.1, fun cur t e => ?_⟩
    obtain ⟨D, ⟨es, clock, hb, _⟩, _⟩ := h.dev.safe
    rw [hb] at e
    cases e
  · refine ⟨h.dev.lt.2.2, fun cur t e => ?_⟩
    obtain ⟨D, ⟨es, clock, hb, _⟩, _⟩ := h.dev.opn
    rw [hb] at e
    cases e
  · obtain ⟨cur', hc⟩ := own0_type h.bsA k hk
    refine ⟨(Array.getElem?_eq_some_iff.1 hc).1, fun cur t e => ?_⟩
    rw [hc] at e
    cases e
    exact Or.inr (Or.inr (Or.inl rfl))
  · obtain ⟨cur', hc⟩ := own0_type h.lsA k hk
    refine ⟨(Array.getElem?_eq_some_iff.1 hc).1, fun cur t e => ?_⟩
    rw [hc] at e
    cases e
    exact Or.inr (Or.inr (Or.inr rfl))
theorem lo_end {w : World} {y : Lo} (h : LoAt w y) : Calls Tryz.prog 62 #[.pointer (some ⟨y.p, 0, none⟩)] w fun e w' => e = .returned (.int .i64 ((y.E : Int) + 1)) ∧ w' = w := by
  have k0 : w.cell? ⟨y.p, 0, none⟩ = some (.pointer (some ⟨y.d, 0, none⟩)) := h.box.c0
  have k6 : w.cell? ⟨y.p, 6, none⟩ = some (.int .i64 ((y.E : Int) + 1)) := h.box.c6
  go_enter Tryz.func62, Tryz.ntmps62
  go_wp2_with (go_at_call 99; refine (lmade_yes _ _ _ k0).mono ?_; rintro e w ⟨rfl, rfl⟩)
  go_ret
  exact ⟨rfl, rfl⟩
theorem lo_safe {w : World} {y : Lo} (h : LoAt w y) : Calls Tryz.prog 246 #[.pointer (some ⟨y.p, 0, none⟩)] w fun e w' => e = .returned (.int .i64 ((y.P : Int) + 1)) ∧ w' = w := by
  have k0 : w.cell? ⟨y.p, 0, none⟩ = some (.pointer (some ⟨y.d, 0, none⟩)) := h.box.c0
  have k5 : w.cell? ⟨y.p, 5, none⟩ = some (.int .i64 ((y.P : Int) + 1)) := h.box.c5
  go_enter Tryz.func246, Tryz.ntmps246
  go_wp2_with (go_at_call 99; refine (lmade_yes _ _ _ k0).mono ?_; rintro e w ⟨rfl, rfl⟩)
  go_ret
  exact ⟨rfl, rfl⟩
/-- What a log is behind a Force: safe to its end; else only how it lies in memory, and its device within the log's area. -/
structure Forced (y y' : Lo) : Prop where
  d : y'.d = y.d
  bs : y'.bs = y.bs
  bo : y'.bo = y.bo
  nb : y'.nb = y.nb
  p : y'.p = y.p
  first : y'.first = y.first
  count : y'.count = y.count
  T : y'.T = y.T
  A : y'.A = y.A
  E : y'.E = y.E
  P : y.P ≤ y'.P
  out : Outside y.first y.count y.S y.O y'.S y'.O
  lw : y'.lw = y.lw
  ls : y'.ls = y.ls
  n2 : y'.n2 = y.n2
  lb : ∀ k, y.A ≤ k → y'.lb.drop (k - y'.F) = y.lb.drop (k - y.F)
  low : ∀ k : Int, k < y.lw → Dv.latest y'.S y'.O k = Dv.latest y.S y.O k
theorem Forced.refl (y : Lo) : Forced y y := ⟨rfl, rfl, rfl, rfl, rfl, rfl, rfl, rfl, rfl, rfl, Nat.le_refl _, Outside.refl _ _ _ _, rfl, rfl, rfl, fun _ _ => rfl, fun _ _ => rfl⟩
theorem lo_force {w : World} {y : Lo} (h : LoAt w y) : Calls Tryz.prog 51 #[.pointer (some ⟨y.p, 0, none⟩)] w fun e w' => e = .returned (.int .i64 0) ∧ ∃ y', LoAt w' y' ∧ Forced y y' ∧ y'.P = y.E ∧ (∀ k ∈ y'.own, k ∈ y.own ∨ w.heap.size ≤ k) ∧ Fr [y.p, y.d, y.bs, y.bo] w w' := by
  have hn := h.ne
  refine (force_weak w y.p y.d y.bs y.bo y.nb y.S y.O h.dev y.first y.count y.T y.A y.P y.E y.F y.n y.cb y.ad _ y.lb h.box h.bsA h.lbl h.hn (by have := h.hn; have := h.hE; omega) h.hFP h.hPE h.hFA h.hAE (by have := h.hE; omega) h.hT h.f0 h.f1 h.c0 hn.1 hn.2.1 hn.2.2).mono ?_
  rintro e w' ⟨he, ad', cb', F', S', O', hF1, hF2, L, B, NW, D, OU, f⟩
  refine ⟨he, { y with S := S', O := O', P := y.E, F := F', n := y.n - (F' - y.F), cb := cb', ad := ad', lb := y.lb.drop (F' - y.F) }, ?_, ?_, rfl, ?_, f⟩
  · have h1 := h.hn
    have h2 := h.hAE
    exact { dev := D, box := L, bsA := B, lsA := own0_kept h.lsA f (by
              intro g hg cur t e
              simp only [List.mem_cons, List.not_mem_nil, or_false] at hg
              rcases hg with rfl | rfl | rfl | rfl
              · have h3 := h.box
                unfold LBox at h3
                rw [h3] at e
                cases e
                decide
              · rw [h.dev.cells] at e
                cases e
                decide
              · obtain ⟨D', ⟨es, clock, hb, _⟩, _⟩ := h.dev.safe
                rw [hb] at e
                cases e
              · obtain ⟨D', ⟨es, clock, hb, _⟩, _⟩ := h.dev.opn
                rw [hb] at e
                cases e), lbl := by rw [List.length_drop, h.lbl], hn := by show F' + (y.n - (F' - y.F)) = y.E; omega, hFP := by show F' ≤ y.E; omega, hPE := Nat.le_refl _, hFA := hF2, hAE := h2, hE := h.hE, h2 := h.h2, hT := h.hT, f0 := h.f0, f1 := h.f1, c0 := h.c0, hlw := h.hlw }
  · exact ⟨rfl, rfl, rfl, rfl, rfl, rfl, rfl, rfl, rfl, rfl, h.hPE, OU, rfl, rfl, rfl, fun k hk => by show (y.lb.drop (F' - y.F)).drop (k - F') = y.lb.drop (k - y.F); rw [List.drop_drop]; congr 1; omega, fun k hk => OU k (by have := h.hlw; omega)⟩
  · intro k hk
    simp only [Lo.own, List.mem_append] at hk ⊢
    rcases hk with hk | hk | hk
    · exact Or.inl (Or.inl hk)
    · rcases NW k hk with h1 | h1
      · exact Or.inl (Or.inr (Or.inl h1))
      · exact Or.inr h1
    · exact Or.inl (Or.inr (Or.inr hk))
end Go.Proofs.YthajipigppndgaaGreat

