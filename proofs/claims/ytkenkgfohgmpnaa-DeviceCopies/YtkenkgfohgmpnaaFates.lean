/-
  The laws' own helpers on fates that are handed in: LentFates, KeptFates.
-/
import Derived.Test.YtkenkgfohgmpnaaOver
import Derived.Laws.AppendOwnNone
import Derived.Laws.StructEq
namespace Go.Proofs.Ytkenkgfohgmpnaa
open Go.RowKit Go.Maps

/-- The cells of fates. -/
def fcells (F : Fs) : List Value := F.flatMap fun f => [.int .i64 f.1, .int .u8 f.2]
theorem fcells_length (F : Fs) : (fcells F).length = F.length * 2 := by
  unfold fcells
  induction F with
  | nil => rfl
  | cons f F ih => simp [ih]; omega
theorem fcells_append (F G : Fs) : fcells (F ++ G) = fcells F ++ fcells G := by simp [fcells]
theorem fcells_at : ∀ (F : Fs) (i : Nat) (f : Int × Int), F[i]? = some f → (fcells F)[i * 2]? = some (.int .i64 f.1) ∧ (fcells F)[i * 2 + 1]? = some (.int .u8 f.2)
  | [], i, f, h => by simp at h
  | g :: F, 0, f, h => by simp at h; subst h; simp [fcells]
  | g :: F, i + 1, f, h => by
    have := fcells_at F i f (by simpa using h)
    have e : (i + 1) * 2 = i * 2 + 1 + 1 := by omega
    rw [e]
    simpa [fcells] using this
theorem fcells_inv (F : Fs) (j : Nat) (v : Value) (h : (fcells F)[j]? = some v) : ∃ i f, F[i]? = some f ∧ ((j = i * 2 ∧ v = .int .i64 f.1) ∨ (j = i * 2 + 1 ∧ v = .int .u8 f.2)) := by
  have hj : j < F.length * 2 := by
    have := (List.getElem?_eq_some_iff.1 h).1
    rwa [fcells_length] at this
  have hi : j / 2 < F.length := by omega
  obtain ⟨q0, q1⟩ := fcells_at F (j / 2) F[j / 2] (List.getElem?_eq_getElem hi)
  refine ⟨j / 2, F[j / 2], List.getElem?_eq_getElem hi, ?_⟩
  by_cases c : j % 2 = 0
  · left
    have e : j / 2 * 2 = j := by omega
    rw [e, h] at q0
    exact ⟨e.symm, by simpa using q0⟩
  · right
    have e : j / 2 * 2 + 1 = j := by omega
    rw [e, h] at q1
    exact ⟨e.symm, by simpa using q1⟩
theorem fcells_one (F : Fs) : ∀ v ∈ fcells F, v.oneCell' = true := by
  intro v hv
  simp [fcells] at hv
  obtain ⟨a, b, _, rfl | rfl⟩ := hv <;> rfl

theorem info58 : (Try.prog.info? 58).map (fun i => (i.zero, i.size, i.bytes)) = some (some (.agg #[.int .i64 0, .int .u8 0]), 2, 16) := by kernel_rfl
theorem info58' : ∃ i, Try.prog.info? 58 = some i ∧ i.zero = some (.agg #[.int .i64 0, .int .u8 0]) ∧ i.size = 2 ∧ i.bytes = 16 := by
  have h := info58
  cases hi : Try.prog.info? 58 with
  | none => rw [hi] at h; cases h
  | some i =>
    rw [hi] at h
    simp at h
    exact ⟨i, rfl, h.1, h.2.1, h.2.2⟩

def FOwn (w0 w : World) (v : Value) (n : Nat) (F : Fs) : Prop := w.ownsRow w0.heap.size 58 2 v n (fcells F) ∧ Fr [] w0 w
theorem FOwn.kept {w0 w w' : World} {v : Value} {n : Nat} {F : Fs} (h : FOwn w0 w v n F) (k : Fr [] w w') : FOwn w0 w' v n F := by
  refine ⟨?_, h.2.trans k⟩
  obtain ⟨h1, h2⟩ := h.1
  refine ⟨h1, ?_⟩
  rcases h2 with hn | ⟨g, cap, cur, rfl, hb, hg, r⟩
  · exact Or.inl hn
  · exact Or.inr ⟨g, cap, cur, rfl, hb, k.same (by simp) hg, r⟩

section
variable {ops : Array Oper} {rest : List Oper} {o : Oper} {a : Act} {w : World} {Q : Exit → Act → World → Prop}

theorem wp_fmake0 (hgd : o.guard = none) (x y : Operand) (ho : o.op = .makeSlice 28 x y) (c : Nat) (hx : a.eval x = .int .i64 0) (hy : a.eval y = .int .i64 (c : Int)) (hc : c ≤ 1000000) (w0 : World) (f0 : Fr [] w0 w)
    (h : ∀ w', FOwn w0 w' (.slice (some ⟨w.heap.size, 0, none⟩) 0 c) 0 [] → wpList Try.prog ops Q rest (a.put o.dst (.slice (some ⟨w.heap.size, 0, none⟩) 0 c)) w') : wpList Try.prog ops Q (o :: rest) a w :=
  wpList_plain hgd fun K hK => by
    obtain ⟨i, hi, hz, hs, hb⟩ := info58'
    obtain ⟨w', hrun, hown, hg⟩ := run_makeSlice_owned (P := Try.prog) w w0.heap.size 28 58 i (.agg #[.int .i64 0, .int .u8 0]) 2 Try.underlying28 hi hz hs .i64 .i64 c (by omega) (by rw [hb]; omega) (by unfold maxLen; omega) f0.size
    unfold Oper.wp execOp
    simp [ho, hx, hy, hrun, Result.andThen]
    exact hK _ _ (h _ ⟨hown, f0.grown hg (fun j e => nomatch e)⟩)

theorem run_fapp (ty : TypeId) (w0 : World) (v : Value) (n : Nat) (F : Fs) (hown : FOwn w0 w v n F) (a0 : Addr) (m c : Nat) (G : Fs) (hl : G.length = m) (hsrc : FatesAt w (some a0) G) (hm : n + m ≤ 1000000) :
    ∃ v' w', (Builtin.append_ #[28, 28] ty #[v, .slice (some a0) m c]).run Try.prog w = .ok v' w' ∧ FOwn w0 w' v' (n + m) (F ++ G) := by
  obtain ⟨i, hi, hz, hs, hb⟩ := info58'
  obtain ⟨v', w', hrun, h2, h3, _, _⟩ := run_append_own_at (P := Try.prog) w w0.heap.size 28 ty 58 i (.agg #[.int .i64 0, .int .u8 0]) 2 16 Try.underlying28 hi hz hs hb rfl (by omega) v n (fcells F) hown.1 a0 m c (fcells G) (by rw [fcells_length, hl])
    (by
      intro j u hu
      obtain ⟨i, f, hf, hc⟩ := fcells_inv G j u hu
      obtain ⟨b, off, e, c0, c1, _⟩ := hsrc i f hf
      cases e
      rw [Addr.add_mid]
      rcases hc with ⟨rfl, rfl⟩ | ⟨rfl, rfl⟩
      · exact c0
      · exact c1) (fcells_one G) (by unfold maxLen; omega) (by omega) hown.2.size
  refine ⟨v', w', hrun, ?_, hown.2.grown h3 (fun j e hj => by
    have := (hown.1.lt j e).1
    omega)⟩
  rw [fcells_append]
  exact h2

theorem wp_fapp (hgd : o.guard = none) (s x : Operand) (ho : o.op = .call { callee := .builtin .append, args := #[s, x], argTypes := #[28, 28] }) (w0 : World) (v : Value) (n : Nat) (F : Fs) (hs : a.eval s = v) (hown : FOwn w0 w v n F)
    (a0 : Addr) (m c : Nat) (G : Fs) (hx : a.eval x = .slice (some a0) m c) (hl : G.length = m) (hsrc : FatesAt w (some a0) G) (hm : n + m ≤ 1000000)
    (h : ∀ v' w', FOwn w0 w' v' (n + m) (F ++ G) → wpList Try.prog ops Q rest (a.put o.dst v') w') : wpList Try.prog ops Q (o :: rest) a w :=
  wpList_plain hgd fun K hK => by
    obtain ⟨v', w', hrun, hown'⟩ := run_fapp o.type w0 v n F hown a0 m c G hl hsrc hm
    unfold Oper.wp execOp
    simp [ho, resolve, invoke, builtin, hs, hx, hrun, Result.andThen]
    exact hK _ _ (h _ _ hown')
theorem wp_fapp_nil (hgd : o.guard = none) (s x : Operand) (ho : o.op = .call { callee := .builtin .append, args := #[s, x], argTypes := #[28, 28] }) (w0 : World) (v : Value) (n : Nat) (F : Fs) (hs : a.eval s = v) (hown : FOwn w0 w v n F)
    (hx : a.eval x = .slice none 0 0) (h : wpList Try.prog ops Q rest (a.put o.dst v) w) : wpList Try.prog ops Q (o :: rest) a w := by
  obtain ⟨i, hi, hz, hs', hb⟩ := info58'
  exact wpList_append_own_none hgd s x 28 ho w0.heap.size 58 i 2 Try.underlying28 hi v n (fcells F) hs hown.1 hx h
end

set_option maxHeartbeats 400000 in
theorem markFate_any (w : World) (k i : Int) (hk0 : 0 ≤ k) (hk1 : k ≤ 100) (hi0 : 0 ≤ i) (hi1 : i ≤ 1000000) :
    Calls Try.prog 54 #[.int .i64 k, .int .i64 i] w fun e w' => e = .returned (.agg #[.int .i64 (1000003 * (k + 7) + i), .int .u8 0]) ∧ Fr [] w w' := by
  go_enter Try.func54, Try.ntmps54
  go_wp2_with (go_at_call 74; refine (mark_any _ k i hk0 hk1 hi0 hi1).mono ?_; rintro e w1 ⟨rfl, rfl⟩)
  exact bodyPost_ret (v := .agg #[.int .i64 (1000003 * (k + 7) + i), .int .u8 0]) (by simp [results, Try.results54, go_sem]) rfl ⟨rfl, (Fr.refl _ _).alloc _⟩

def mkF (j : Nat) : Fs := (List.range j).map fun (i : Nat) => (1000003 * (1 + 7) + (i : Int), 0)
theorem mkF_length (j : Nat) : (mkF j).length = j := by simp [mkF]
theorem mkF_succ (j : Nat) : mkF (j + 1) = mkF j ++ [(1000003 * (1 + 7) + (j : Int), 0)] := by simp [mkF, List.range_succ]

structure LentF (w : World) (g cap : Nat) (F : Fs) : Prop where
  ex : ∃ cur, w.heap[g]? = some (.cells cur 58) ∧ cur.toList.take ((F.length + 12) * 2) = fcells (F ++ mkF 12)
  cap : F.length + 12 ≤ cap
  wf : ∀ f ∈ F, (Lit.int .i64 f.1).wf = true ∧ 0 ≤ f.2 ∧ f.2 < 256

theorem FatesAt.wf {w : World} {ad : Option Addr} {F : Fs} (h : FatesAt w ad F) : ∀ f ∈ F, (Lit.int .i64 f.1).wf = true ∧ 0 ≤ f.2 ∧ f.2 < 256 := by
  intro f hf
  obtain ⟨i, hi, rfl⟩ := List.getElem_of_mem hf
  obtain ⟨_, _, _, _, _, r⟩ := h i _ (List.getElem?_eq_getElem hi)
  exact r
theorem FatesAt.none_nil {w : World} {F : Fs} (h : FatesAt w none F) : F = [] := by
  cases F with
  | nil => rfl
  | cons f F => obtain ⟨_, _, e, _⟩ := h 0 f rfl; cases e

theorem i64_wf_small (x : Int) (h0 : 0 ≤ x) (h1 : x ≤ 1000000000) : (Lit.int .i64 x).wf = true := WalkArith.wf_i64 (by omega)

set_option maxHeartbeats 1000000 in
set_option maxRecDepth 100000 in
theorem lentf_core (w w2 : World) (n : Nat) (F : Fs) (hl : F.length = n) (hn : n ≤ 1000) (hwf : ∀ f ∈ F, (Lit.int .i64 f.1).wf = true ∧ 0 ≤ f.2 ∧ f.2 < 256) (v : Value) (ow : FOwn w w2 v (n + 12) (F ++ mkF 12)) :
    ∃ g cap, v = .slice (some ⟨g, 0, none⟩) (n + 12) cap ∧ LentF w2 g cap F ∧ w.heap.size ≤ g ∧ n + 12 ≤ cap := by
  obtain ⟨_, hcase⟩ := ow.1
  rcases hcase with ⟨_, h0⟩ | ⟨g, cap, cur, hv, hb, hg, hcap, hmx, hsz, htk⟩
  · omega
  · exact ⟨g, cap, hv, ⟨⟨cur, hg, by rw [hl]; exact htk⟩, by omega, hwf⟩, hb, hcap⟩

set_option maxHeartbeats 1000000 in
set_option maxRecDepth 100000 in
theorem lentf_some (w : World) (a0 : Addr) (n c : Nat) (F : Fs) (hl : F.length = n) (hn : n ≤ 1000) (hF : FatesAt w (some a0) F) :
    Calls Try.prog 40 #[.slice (some a0) n c] w fun e w' => ∃ g cap, e = .returned (.slice (some ⟨g, 0, none⟩) n cap) ∧ LentF w' g cap F ∧ w.heap.size ≤ g ∧ Fr [] w w' := by
  have HL : Hid (F.length = n) := hl
  have hn' : (n : Int) ≤ 1000 := by omega
  have hn0 : (0 : Int) ≤ (n : Int) := by omega
  clear hl
  go_enter Try.func40, Try.ntmps40
  go_wp2_with (first
    | (refine wp_fmake0 rfl _ _ rfl (n + 12) rfl (by rfl) (by omega) w (Fr.refl _ _) ?_; intro w1 o1)
    | (refine wp_fapp rfl _ _ rfl w _ 0 [] rfl o1 _ n _ F rfl HL.out (hF.kept o1.2 (by simp)) (by omega) ?_; intro v2 w2 o2)
    | go_in)
  go_loopw [3, 4] (fun v i wr => ∃ j : Nat, j ≤ 12 ∧ i = .int .i64 j ∧ FOwn w wr v (n + j) (F ++ mkF j)) (fun _ i _ => 12 - (intOf i).toNat)
  case atStart => exact ⟨0, by omega, rfl, by simpa [mkF] using o2⟩
  case round =>
    obtain ⟨j, hj, rfl, ow⟩ := hrel
    by_cases hlt : j < 12
    · have hlt' : (j : Int) < 12 := by omega
      have hj0 : (0 : Int) ≤ (j : Int) := by omega
      go_wp2_with (first
        | (go_at_call 54; refine (markFate_any _ 1 j (by omega) (by omega) hj0 (by omega)).mono ?_; rintro e w5 ⟨rfl, f5⟩; have ow5 := ow.kept f5)
        | (refine wp_fapp rfl _ _ rfl w _ (n + j) _ rfl (ow5.kept ((Fr.refl [] w5).alloc _)) _ 1 _ [(1000003 * (1 + 7) + (j : Int), 0)] rfl rfl (fates_one w5 _ 0 (i64_wf_small _ (by omega) (by omega)) (by omega) (by omega)) (by omega) ?_; intro v6 w6 o6)
        | go_in)
      refine ⟨⟨j + 1, by omega, by go_num, ?_⟩, by simp [intOf]; omega⟩
      rw [mkF_succ, ← List.append_assoc]
      exact o6
    · obtain rfl : j = 12 := by omega
      obtain ⟨g, cap, hv, hlf, hb, hcap⟩ := lentf_core w wr n F HL.out hn hF.wf _ ow
      subst hv
      have hcap' : (n : Int) ≤ (cap : Int) := by omega
      have hcz : ¬ cap = 0 := by omega
      go_wp2_with fail
      go_ret
      exact ⟨g, cap, rfl, hlf, hb, ow.2⟩

set_option maxHeartbeats 1000000 in
set_option maxRecDepth 100000 in
theorem lentf_nil (w : World) :
    Calls Try.prog 40 #[.slice none 0 0] w fun e w' => ∃ g cap, e = .returned (.slice (some ⟨g, 0, none⟩) 0 cap) ∧ LentF w' g cap [] ∧ w.heap.size ≤ g ∧ Fr [] w w' := by
  go_enter Try.func40, Try.ntmps40
  go_wp2_with (first
    | (refine wp_fmake0 rfl _ _ rfl 12 rfl (by rfl) (by omega) w (Fr.refl _ _) ?_; intro w1 o1)
    | (refine wp_fapp_nil rfl _ _ rfl w _ 0 [] rfl o1 rfl ?_)
    | go_in)
  go_loopw [3, 4] (fun v i wr => ∃ j : Nat, j ≤ 12 ∧ i = .int .i64 j ∧ FOwn w wr v (0 + j) ([] ++ mkF j)) (fun _ i _ => 12 - (intOf i).toNat)
  case atStart => exact ⟨0, by omega, rfl, by simpa [mkF] using o1⟩
  case round =>
    obtain ⟨j, hj, rfl, ow⟩ := hrel
    by_cases hlt : j < 12
    · have hlt' : (j : Int) < 12 := by omega
      have hj0 : (0 : Int) ≤ (j : Int) := by omega
      go_wp2_with (first
        | (go_at_call 54; refine (markFate_any _ 1 j (by omega) (by omega) hj0 (by omega)).mono ?_; rintro e w5 ⟨rfl, f5⟩; have ow5 := ow.kept f5)
        | (refine wp_fapp rfl _ _ rfl w _ (0 + j) _ rfl (ow5.kept ((Fr.refl [] w5).alloc _)) _ 1 _ [(1000003 * (1 + 7) + (j : Int), 0)] rfl rfl (fates_one w5 _ 0 (i64_wf_small _ (by omega) (by omega)) (by omega) (by omega)) (by omega) ?_; intro v6 w6 o6)
        | go_in)
      refine ⟨⟨j + 1, by omega, by go_num, ?_⟩, by simp [intOf]; omega⟩
      rw [mkF_succ, ← List.append_assoc]
      exact o6
    · obtain rfl : j = 12 := by omega
      obtain ⟨g, cap, hv, hlf, hb, hcap⟩ := lentf_core w wr 0 [] rfl (by omega) (by simp) _ ow
      subst hv
      have hcap' : (0 : Int) ≤ (cap : Int) := by omega
      have hcz : ¬ cap = 0 := by omega
      go_wp2_with fail
      go_ret
      exact ⟨g, cap, rfl, hlf, hb, ow.2⟩

end Go.Proofs.Ytkenkgfohgmpnaa
