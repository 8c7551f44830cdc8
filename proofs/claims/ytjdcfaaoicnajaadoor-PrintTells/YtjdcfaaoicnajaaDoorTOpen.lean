/-
  An argument that is a row of nodes, opened.
-/
import Derived.Test.YtjdcfaaoicnajaaDoorTLaid
import Derived.Deep.Slices
import Derived.SizedLaws
namespace Go.Proofs.YtjdcfaaoicnajaaDoor
open Go.ChangeShapes Go.WideShapes Go.ChangeAt Go.RowKit Go.Deep

theorem Tryd.cellsN : Tryd.prog.cellsOf 37 = 4 := by kernel_rfl
theorem Tryd.cellsK : Tryd.prog.cellsOf 35 = 1 := by kernel_rfl
theorem Tryd.cells9 : Tryd.prog.cellsOf 9 = 1 := by kernel_rfl
theorem Tryd.cells3 : Tryd.prog.cellsOf 3 = 1 := by kernel_rfl
theorem u8_bounds {x : Int} (h : (Lit.int .u8 x).wf = true) : 0 ≤ x ∧ x < 256 := by
  simp [Lit.wf, show IntKind.u8.min = 0 from rfl, show IntKind.u8.max = 255 from rfl] at h
  omega
theorem i64_bd {x : Int} (h : (Lit.int .i64 x).wf = true) : -9223372036854775808 ≤ x ∧ x ≤ 9223372036854775807 := by
  simp [Lit.wf, show IntKind.i64.min = -9223372036854775808 from rfl, show IntKind.i64.max = 9223372036854775807 from rfl] at h
  exact h
/-- no text of a row is longer than memory is. -/
def Short (t : List Nd) : Prop := ∀ i, i < t.length → (nam t i).size < 140737488355328 ∧ (vlu t i).size < 140737488355328

section
variable {H : Type} {enc : TypeId × Value → H} {w : World} {base : Nat} {spare : Nat → Bool} {held : Bool}
theorem one_of {cs : List Value} {c : Nat} {v : Value} (h : (cs.drop c).take 1 = [v]) : cs[c]? = some v := by
  have := congrArg (·[0]?) h
  simpa [List.getElem?_take, List.getElem?_drop] using this
set_option maxRecDepth 100000 in
theorem node_open {fuel : Nat} {cs : List Value} {x : DataW H × List MemPlace} (h : DataW.trod enc Tryd.prog w base spare held fuel 37 cs = some x) :
    ∃ n : Nd, cs[0]? = some (.int .u8 (n.kind : Nat)) ∧ cs[1]? = some (.string n.name) ∧ cs[2]? = some (.string n.value) ∧ cs[3]? = some (.int .i64 n.parent) ∧ n.kind < 256 ∧ (-9223372036854775808 ≤ n.parent ∧ n.parent ≤ 9223372036854775807) ∧ n.name.size < 9223372036854775808 ∧ n.value.size < 9223372036854775808 ∧
      n.name.size ∈ x.1.weights Tryd.prog 37 ∧ n.value.size ∈ x.1.weights Tryd.prog 37 := by
  obtain ⟨xs, m, rfl, hx, hl, hxl, hall⟩ := DataW.trod_struct Tryd.underlying37 h
  have h0 := hall 0 _ rfl
  have h1 := hall 1 _ rfl
  have h2 := hall 2 _ rfl
  have h3 := hall 3 _ rfl
  match xs, hxl with
  | [x0, x1, x2, x3], _ =>
    have g0 : DataW.trod enc Tryd.prog w base spare held m 35 ((cs.drop 0).take (Tryd.prog.cellsOf 35)) = some x0 := h0
    have g1 : DataW.trod enc Tryd.prog w base spare held m 9 ((cs.drop 1).take (Tryd.prog.cellsOf 9)) = some x1 := h1
    have g2 : DataW.trod enc Tryd.prog w base spare held m 9 ((cs.drop 2).take (Tryd.prog.cellsOf 9)) = some x2 := h2
    have g3 : DataW.trod enc Tryd.prog w base spare held m 3 ((cs.drop 3).take (Tryd.prog.cellsOf 3)) = some x3 := h3
    rw [Tryd.cellsK] at g0
    rw [Tryd.cells9] at g1 g2
    rw [Tryd.cells3] at g3
    obtain ⟨v0, e0, hx0, w0⟩ := DataW.trod_int Tryd.underlying35 g0
    obtain ⟨v1, e1, hx1, w1⟩ := DataW.trod_string Tryd.underlying9 g1
    obtain ⟨v2, e2, hx2, w2⟩ := DataW.trod_string Tryd.underlying9 g2
    obtain ⟨v3, e3, hx3, w3⟩ := DataW.trod_int Tryd.underlying3 g3
    have b0 := u8_bounds w0
    have b3 := i64_bd w3
    have q0 := one_of e0
    have q1 := one_of e1
    have q2 := one_of e2
    have q3 := one_of e3
    unfold maxLen at w1 w2
    refine ⟨⟨v0.toNat, v1, v2, v3⟩, ?_, q1, q2, q3, by show v0.toNat < 256; omega, b3, by show v1.size < _; omega, by show v2.size < _; omega, ?_, ?_⟩
    · rw [q0]
      show some (Value.int .u8 v0) = some (.int .u8 ((v0.toNat : Nat) : Int))
      rw [Int.toNat_of_nonneg b0.1]
    · rw [hx]
      simp [DataW.weights, DataW.weightsEach, Tryd.underlying37, hx1]
    · rw [hx]
      simp [DataW.weights, DataW.weightsEach, Tryd.underlying37, hx2]
theorem weightsAll_mem {P : Program} {e : TypeId} : ∀ {ds : List (DataW H)} {d : DataW H}, d ∈ ds → ∀ n ∈ d.weights P e, n ∈ DataW.weightsAll P e ds
  | d0 :: r, d, h, n, hn => by
    simp only [DataW.weightsAll, List.mem_append]
    rcases List.mem_cons.1 h with rfl | h
    · exact Or.inl hn
    · exact Or.inr (weightsAll_mem h n hn)
set_option maxRecDepth 100000 in
theorem nodes_open {fuel : Nat} {cs : List Value} {x : DataW H × List MemPlace} (h : DataW.trod enc Tryd.prog w base spare held fuel 22 cs = some x) (hz : ∀ n ∈ x.1.weights Tryd.prog 22, n ≤ reachBytes) :
    ∃ ad len cap t, cs = [.slice ad len cap] ∧ t.length = len ∧ len ≤ cap ∧ NodesAt w ad t ∧ Sane t ∧ Short t := by
  rcases open_slice Tryd.underlying22 h with ⟨hcs, _⟩ | ⟨a, len, cap, m, n, D, Pl, rfl, _, hl, hm, hmm, hx1, hx⟩
  · exact ⟨none, 0, 0, [], hcs, rfl, Nat.le_refl _, (fun i hi => absurd hi (Nat.not_lt_zero _)), (fun i hi => absurd hi (Nat.not_lt_zero _)), (fun i hi => absurd hi (Nat.not_lt_zero _))⟩
  · have hlm : len ≤ m := by rw [hmm]; split <;> omega
    rw [Tryd.cellsN] at hx
    have hel : ∀ i, i < m → ∃ y : Nd, (w.cell? (a.add (i * 4)) = some (.int .u8 (y.kind : Nat)) ∧ w.cell? ((a.add (i * 4)).add 1) = some (.string y.name) ∧ w.cell? ((a.add (i * 4)).add 2) = some (.string y.value) ∧ w.cell? ((a.add (i * 4)).add 3) = some (.int .i64 y.parent)) ∧ y.kind < 256 ∧ (-9223372036854775808 ≤ y.parent ∧ y.parent ≤ 9223372036854775807) ∧ y.name.size < 9223372036854775808 ∧ y.value.size < 9223372036854775808 ∧ (i < len → y.name.size ≤ reachBytes ∧ y.value.size ≤ reachBytes) := by
      intro i hi
      obtain ⟨cs', h1, h2⟩ := hx i hi
      obtain ⟨_, hlen, hc⟩ := World.cells?_some h1
      obtain ⟨y, y0, y1, y2, y3, k0, k1, k2, k3, m1, m2⟩ := node_open h2
      have hmem : i < len → ∀ z ∈ (D i).weights Tryd.prog 37, z ≤ reachBytes := fun hil z hzm => hz z (by
        rw [hx1]
        simp only [DataW.weights, Tryd.underlying22, List.mem_cons, List.mem_append]
        exact Or.inr (Or.inl (weightsAll_mem (List.mem_map.2 ⟨i, List.mem_range.2 hil, rfl⟩) z hzm)))
      refine ⟨y, ⟨?_, ?_, ?_, ?_⟩, k0, k1, k2, k3, fun hil => ⟨hmem hil _ m1, hmem hil _ m2⟩⟩
      · have := hc 0 (by omega)
        rw [y0] at this
        simpa [Addr.add] using this
      · have := hc 1 (by omega)
        rw [y1] at this
        exact this
      · have := hc 2 (by omega)
        rw [y2] at this
        exact this
      · have := hc 3 (by omega)
        rw [y3] at this
        exact this
    haveI : Inhabited Nd := ⟨nd0⟩
    obtain ⟨f, hf⟩ := choose_lt (α := Nd) hel
    have hnth : ∀ i, i < len → nth ((List.range len).map f) i = f i := fun i hi => by
      rw [nth_lt (by simpa using hi)]
      simp
    have hrb := reachBytes_lt
    refine ⟨some a, len, cap, (List.range len).map f, rfl, by simp, hl, ?_, ?_, ?_⟩
    · intro i hi
      have hi' : i < len := by simpa using hi
      have h0 := (hf 0 (by omega)).1.1
      obtain ⟨b, off, spot⟩ := a
      have hspot : spot = none := by simpa [Addr.add] using World.cell?_spot h0
      subst hspot
      obtain ⟨⟨c0, c1, c2, c3⟩, _⟩ := hf i (by omega)
      refine ⟨b, off, rfl, ?_⟩
      unfold knd nam vlu par
      rw [hnth i hi']
      simp only [Addr.add_mid] at c0 c1 c2 c3
      exact ⟨c0, c1, c2, c3⟩
    · intro i hi
      have hi' : i < len := by simpa using hi
      obtain ⟨_, k0, k1, k2, k3, _⟩ := hf i (by omega)
      unfold knd nam vlu par
      rw [hnth i hi']
      exact ⟨k0, k1, k2, k3⟩
    · intro i hi
      have hi' : i < len := by simpa using hi
      obtain ⟨_, k0, k1, k2, k3, kz⟩ := hf i (by omega)
      have := kz hi'
      unfold nam vlu
      rw [hnth i hi']
      omega
end
end Go.Proofs.YtjdcfaaoicnajaaDoor
