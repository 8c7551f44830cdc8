/-
  LabelApart: rows of lists that lie apart, and the walk.
-/
import Derived.Test.YtddcilmeignlmaaGreatDoorXNo
import Derived.Test.YtddcilmeignlmaaGreatDoorLApp
import Derived.Test.YtddcilmeignlmaaGreatDoorXPick
import Derived.Test.YtddcilmeignlmaaGreatDoorAbApartB
set_option linter.unusedVariables false
namespace Go.Proofs.YtddcilmeignlmaaGreatDoor
open Go.RowKit Go.Maps Go.Lib

theorem Fr.ab {L : List Nat} {w w' : World} (f : Fr L w w') : Ab.Fr L w w' := ⟨f.os, f.tape, f.output, f.size, f.block⟩
theorem fr_ab {L : List Nat} {w w' : World} (f : Ab.Fr L w w') : Fr L w w' := ⟨f.os, f.tape, f.output, f.size, f.block⟩
theorem own0 {w : World} {B e : Nat} {v : Value} {n : Nat} {xs : List Value} (h : w.ownsRow B e 1 v n xs) : w.ownsRow 0 e 1 v n xs := by
  obtain ⟨h1, h2⟩ := h
  refine ⟨h1, ?_⟩
  rcases h2 with hn | ⟨g, cap, cur, rfl, hb, r⟩
  · exact Or.inl hn
  · exact Or.inr ⟨g, cap, cur, rfl, Nat.zero_le _, r⟩
theorem row_at {w : World} {B : Nat} {e : Nat} {g m cap : Nat} {ys : List Value} (h : w.ownsRow B e 1 (.slice (some ⟨g, 0, none⟩) m cap) m ys) : ∀ j u, ys[j]? = some u → w.cell? ((⟨g, 0, none⟩ : Addr).add j) = some u := by
  intro j u hu
  have hlen : ys.length = m := by have := h.1; omega
  have hj : j < m := by have := (List.getElem?_eq_some_iff.1 hu).1; omega
  rcases h.2 with ⟨e1, _⟩ | ⟨g', c', cur, e1, _, hg, _, _, _, ht⟩
  · cases e1
  · cases e1
    rw [Addr.add_mid, Nat.zero_add, cell_of_row w g j _ _ _ hg]
    rw [← ht, List.getElem?_take, if_pos (by omega)] at hu
    simpa using hu

section
variable {ops : Array Oper} {rest : List Oper} {o : Oper} {a : Act} {w : World} {Q : Exit → Act → World → Prop}
/-- a row of lists behind a row of one's own. -/
theorem wp_appRow (hgd : o.guard = none) (s x : Operand) (ho : o.op = .call { callee := .builtin .append, args := #[s, x], argTypes := #[35, 35] }) (w0 : World) (v : Value) (n : Nat) (xs : List Value) (hs : a.eval s = v) (hown : OwnL w0 w v n xs)
    (u : Value) (m : Nat) (ys : List Value) (hx : a.eval x = u) (hu : w.ownsRow 0 22 1 u m ys) (h1 : ∀ y ∈ ys, y.oneCell' = true) (hm : n + m ≤ 1000000)
    (h : ∀ v' w', OwnL w0 w' v' (n + m) (xs ++ ys) → Fr v.ownBlock.toList w w' → wpList Tryz.prog ops Q rest (a.put o.dst v') w') : wpList Tryz.prog ops Q (o :: rest) a w :=
  wpList_plain hgd fun K hK => by
    have hlen : ys.length = m := by have := hu.1; omega
    rcases hu.2 with ⟨e, e0⟩ | ⟨g, cap, cur, e, _⟩
    · subst e0
      obtain rfl : ys = [] := List.eq_nil_of_length_eq_zero hlen
      refine op_appNone s x ho v n xs hs hown.weak (hx.trans e) ?_
      refine hK _ _ (h v w ?_ (Fr.refl _ _))
      rw [List.append_nil]
      exact hown
    · subst e
      exact op_appLF s x ho w0 v n xs hs hown ⟨g, 0, none⟩ m cap ys hx hlen (row_at hu) h1 hm (fun v' w' o' f' => hK _ _ (h v' w' o' f'))
end

/-- A list of bytes: where it lies, its length, its room. -/
abbrev Spot := Option Addr × Nat × Nat
def Spot.val (s : Spot) : Value := .slice s.1 s.2.1 s.2.2
def blocksOf (vs : List Spot) : List Nat := vs.flatMap fun s => s.val.ownBlock.toList
theorem blocks_mem {vs : List Spot} {g : Nat} : g ∈ blocksOf vs ↔ ∃ s ∈ vs, s.val.ownBlock = some g := by
  simp [blocksOf]
theorem spots_of : ∀ (Vs : List Value), (∀ v ∈ Vs, ∃ s : Spot, v = s.val) → ∃ vs : List Spot, vs.map Spot.val = Vs
  | [], _ => ⟨[], rfl⟩
  | v :: r, h => by
    obtain ⟨s, hs⟩ := h v (by simp)
    obtain ⟨vs, hv⟩ := spots_of r (fun x hx => h x (by simp [hx]))
    exact ⟨s :: vs, by rw [List.map_cons, hv, hs]⟩

/-- Lists of bytes that lie apart, in a table. -/
theorem lists_row {w : World} (vs : List Spot) (t : Nat) (htab : ∀ (j : Nat) (s : Spot), vs[j]? = some s → w.cell? ⟨t, j, none⟩ = some s.val) (ht : t ∉ blocksOf vs) (hK : vs.length ≤ 50) (hn : ∀ s ∈ vs, s.2.1 ≤ 100000) (hown : ∀ s ∈ vs, ∃ xs : List Value, xs.length = s.2.1 ∧ w.ownsRow 0 5 1 s.val s.2.1 xs)
    (hap : vs.Pairwise fun s t => ∀ g, s.val.ownBlock = some g → t.val.ownBlock ≠ some g) :
    Ab.Lists w (blocksOf vs) vs.length t (fun j => (vs.getD j (none, 0, 0)).1) (fun j => (vs.getD j (none, 0, 0)).2.1) (fun j => (vs.getD j (none, 0, 0)).2.2) := by
  have hget : ∀ j, (hj : j < vs.length) → vs.getD j (none, 0, 0) = vs[j] := fun j hj => by simp [hj]
  refine ⟨hK, ?_, ?_, ?_, ?_, ?_, ht⟩
  · intro j hj
    simp only [hget j hj]
    exact hn _ (List.getElem_mem hj)
  · intro j hj
    simp only [hget j hj]
    exact htab j vs[j] (List.getElem?_eq_getElem hj)
  · intro j hj
    simp only [hget j hj]
    obtain ⟨xs, h1, h2⟩ := hown _ (List.getElem_mem hj)
    exact ⟨xs, h1, h2⟩
  · intro i j hi hj hij g
    simp only [hget i hi, hget j hj]
    rcases Nat.lt_or_gt_of_ne hij with k | k
    · exact (List.pairwise_iff_getElem.1 hap i j hi hj k) g
    · exact fun e1 e2 => (List.pairwise_iff_getElem.1 hap j i hj hi k) g e2 e1
  · intro j hj g
    simp only [hget j hj]
    exact fun e => blocks_mem.2 ⟨_, List.getElem_mem hj, e⟩

/-- a value that is a new list of bytes, between two times. -/
def Mid (w0 w1 w : World) (v : Value) : Prop := (∃ l, l.length ≤ 100000 ∧ Out w0 w v l) ∧ ∀ g, v.ownBlock = some g → w0.heap.size ≤ g ∧ g < w1.heap.size
theorem Out.mid {w0 w1 w : World} {v : Value} {l : List UInt8} (h : Out w0 w1 v l) (hl : l.length ≤ 100000) (f : Fr [] w1 w) : Mid w0 w1 w v := ⟨⟨l, hl, h.kept f⟩, fun g hg => h.at g hg⟩
theorem Mid.kept {w0 w1 w w' : World} {v : Value} (h : Mid w0 w1 w v) (f : Fr [] w w') : Mid w0 w1 w' v := by
  obtain ⟨⟨l, hl, o⟩, h2⟩ := h
  exact ⟨⟨l, hl, o.kept f⟩, h2⟩
theorem Mid.spot {w0 w1 w : World} {v : Value} (h : Mid w0 w1 w v) : ∃ s : Spot, v = s.val := by
  obtain ⟨⟨l, _, ad, cap, e, _⟩, _⟩ := h
  exact ⟨(ad, l.length, cap), e⟩
theorem Mid.own {w0 w1 w : World} {s : Spot} (h : Mid w0 w1 w s.val) : s.2.1 ≤ 100000 ∧ ∃ xs : List Value, xs.length = s.2.1 ∧ w.ownsRow 0 5 1 s.val s.2.1 xs := by
  obtain ⟨⟨l, hl, ad, cap, e, o⟩, _⟩ := h
  have e2 : s.2.1 = l.length := by
    have : (Value.slice s.1 s.2.1 s.2.2) = .slice ad l.length cap := e
    simp only [Value.slice.injEq] at this
    exact this.2.1
  refine ⟨by omega, (arr l).toList, ?_, ?_⟩
  · have := o.1; omega
  · rw [e, e2]; exact own0 o
theorem KOut.mids {w0 w1 w : World} {v : Value} {n : Nat} {xs : List Value} (h : KOut w0 w1 v n xs) (f : Fr [] w1 w) : ∀ x ∈ xs, Mid w0 w1 w x := by
  intro x hx
  obtain ⟨i, hi, rfl⟩ := List.mem_iff_getElem.1 hx
  have hlen : xs.length = n := by have := h.own.1; omega
  obtain ⟨y, l, e1, e2, e3⟩ := h.kids i (by omega)
  rw [List.getElem?_eq_getElem hi] at e1
  obtain rfl := Option.some.inj e1
  exact e3.mid e2 f
theorem KOut.pair {w0 w1 : World} {v : Value} {n : Nat} {xs : List Value} (h : KOut w0 w1 v n xs) : xs.Pairwise fun x y => ∀ g, x.ownBlock = some g → y.ownBlock ≠ some g := by
  rw [List.pairwise_iff_getElem]
  intro i j hi hj hij g h1 h2
  have := h.rise i j _ _ g g hij (List.getElem?_eq_getElem hi) (List.getElem?_eq_getElem hj) h1 h2
  omega
theorem KOut.one {w0 w1 : World} {v : Value} {n : Nat} {xs : List Value} (h : KOut w0 w1 v n xs) : ∀ y ∈ xs, y.oneCell' = true := by
  intro y hy
  obtain ⟨s, rfl⟩ := (h.mids (Fr.refl _ _) y hy).spot
  rfl
end Go.Proofs.YtddcilmeignlmaaGreatDoor

namespace Go.Proofs.YtddcilmeignlmaaGreatDoor
open Go.RowKit Go.Maps Go.Lib

theorem copy_own (w : World) (ad : Option Addr) (n c : Nat) (l : List UInt8) (hl : l.length = n) (hn : n ≤ 100000) (hb : BytesAt w ad l) (hc : ad = none → c = 0) :
    Calls Tryz.prog 24 #[.slice ad n c] w fun e w' => ∃ v, e = .returned v ∧ Out w w' v l ∧ Fr [] w w' := by
  cases ad with
  | some a0 =>
    go_enter Tryz.func24, Tryz.ntmps24
    go_wp2_with (refine wp_appN rfl _ _ rfl w _ 0 [] rfl ⟨World.ownsRow_nil _ _ _ _, Fr.refl _ _⟩ _ n c l rfl hl hb (by omega) (fun _ => ⟨_, rfl⟩) ?_; intro v5 w5 o5)
    go_ret
    rw [Nat.zero_add, List.nil_append] at o5
    obtain ⟨ad, cap, rfl, h1, h2⟩ := o5.form
    refine ⟨_, rfl, ⟨ad, cap, by rw [hl]; rfl, by rw [hl]; exact o5.1⟩, o5.2⟩
  | none =>
    obtain rfl : l = [] := by
      cases l with
      | nil => rfl
      | cons x r =>
        obtain ⟨b, off, e, _⟩ := hb 0 (.int .u8 x.toNat) (by simp [arr])
        cases e
    have := hc rfl
    subst this
    subst hl
    obtain ⟨i, hi, hz, hs, hb⟩ := info5'
    go_enter Tryz.func24, Tryz.ntmps24
    go_wp2_with (refine wpList_append_own_none rfl _ _ 22 rfl w.heap.size 5 i 1 Tryz.underlying22 hi _ 0 [] rfl (World.ownsRow_nil _ _ _ _) rfl ?_)
    go_ret
    exact ⟨_, rfl, out_nil _ _, Fr.refl _ _⟩
theorem Out.form {w w' : World} {v : Value} {l : List UInt8} (h : Out w w' v l) : ∃ ad cap, v = .slice ad l.length cap ∧ BytesAt w' ad l ∧ Plain ad := h.use
theorem Mid.apart {w0 w1 w w' : World} {v u : Value} {m : Nat} {xs : List Value} (h : Mid w0 w1 w v) (o : w.ownsRow 0 22 1 u m xs) (f : Fr u.ownBlock.toList w w') : Mid w0 w1 w' v := by
  obtain ⟨⟨l, hl, q⟩, h2⟩ := h
  exact ⟨⟨l, hl, q.apart o f⟩, h2⟩
theorem pair_of {P : Value → Value → Prop} : ∀ (vs : List Spot) (Vs : List Value), vs.map Spot.val = Vs → Vs.Pairwise P → vs.Pairwise fun s t => P s.val t.val := by
  intro vs Vs e h
  subst e
  exact List.pairwise_map.1 h
/-- in the order in which they were made, or not. -/
theorem far {a b c d w : World} {x y : Value} (hx : Mid a b w x) (hy : Mid c d w y) (h : b.heap.size ≤ c.heap.size ∨ d.heap.size ≤ a.heap.size) : ∀ g, x.ownBlock = some g → y.ownBlock ≠ some g := by
  intro g h1 h2
  have p := hx.2 g h1
  have q := hy.2 g h2
  omega

theorem apart_lists {w w1 w2 w4 w5 w6 w7 w9 wA wB wD : World} {xa xb : List Value} {va vb vo vp vm vx vy vD : Value} {ka kb : Nat} (KA : KOut w2 w4 va ka xa) (KB : KOut w4 w5 vb kb xb) (Mo : Mid w1 w2 wD vo) (Ma : ∀ y ∈ xa, Mid w2 w4 wD y) (Mb : ∀ y ∈ xb, Mid w4 w5 wD y) (Mp : Mid w5 w6 wD vp) (Mm : Mid w6 w7 wD vm) (Mx : Mid w9 wA wD vx) (My : Mid wA wB wD vy)
    (s1 : w.heap.size ≤ w1.heap.size) (s2 : w1.heap.size ≤ w2.heap.size) (s4 : w2.heap.size ≤ w4.heap.size) (s5 : w4.heap.size ≤ w5.heap.size) (s6 : w5.heap.size ≤ w6.heap.size) (s7 : w6.heap.size ≤ w7.heap.size) (s9 : w7.heap.size ≤ w9.heap.size) (sA : w9.heap.size ≤ wA.heap.size) (sB : wA.heap.size ≤ wB.heap.size) (hka : ka ≤ 8) (hkb : kb ≤ 8) (oD : OwnL w7 wD vD (ka + kb + 5) (xa ++ xb ++ [vo, vp, vm, vx, vy])) :
    ∃ (G : List Nat) (t cap : Nat), vD = .slice (some ⟨t, 0, none⟩) (ka + kb + 5) cap ∧ (∀ g ∈ G, w.heap.size ≤ g ∧ g < wD.heap.size) ∧ Calls Tryz.prog 27 #[.slice (some ⟨t, 0, none⟩) ((ka + kb + 5 : Nat)) cap] wD fun e w' => e = .returned (.bool true) ∧ Ab.Fr G wD w' := by
  have hall : ∀ v ∈ xa ++ xb ++ [vo, vp, vm, vx, vy], ∃ a b, Mid a b wD v ∧ w.heap.size ≤ a.heap.size := by
    intro v hv
    simp only [List.mem_append, List.mem_cons, List.not_mem_nil, or_false] at hv
    rcases hv with (hv | hv) | rfl | rfl | rfl | rfl | rfl
    · exact ⟨_, _, Ma v hv, by omega⟩
    · exact ⟨_, _, Mb v hv, by omega⟩
    · exact ⟨_, _, Mo, by omega⟩
    · exact ⟨_, _, Mp, by omega⟩
    · exact ⟨_, _, Mm, by omega⟩
    · exact ⟨_, _, Mx, by omega⟩
    · exact ⟨_, _, My, by omega⟩
  obtain ⟨vs, hvs⟩ := spots_of (xa ++ xb ++ [vo, vp, vm, vx, vy]) (fun v hv => by obtain ⟨_, _, h, _⟩ := hall v hv; exact h.spot)
  have hmem : ∀ q ∈ vs, ∃ a b, Mid a b wD q.val ∧ w.heap.size ≤ a.heap.size := fun q hq => hall q.val (by rw [← hvs]; exact List.mem_map_of_mem hq)
  have hpair : (xa ++ xb ++ [vo, vp, vm, vx, vy]).Pairwise fun x y => ∀ g, x.ownBlock = some g → y.ownBlock ≠ some g := by
    rw [List.pairwise_append, List.pairwise_append]
    refine ⟨⟨KA.pair, KB.pair, fun x hx y hy => far (Ma x hx) (Mb y hy) (by omega)⟩, ?_, fun x hx y hy => ?_⟩
    · simp only [List.pairwise_cons, List.mem_cons, List.not_mem_nil, or_false, forall_eq_or_imp, forall_eq, List.Pairwise.nil, and_true, false_implies, implies_true]
      refine ⟨⟨far Mo Mp (by omega), far Mo Mm (by omega), far Mo Mx (by omega), far Mo My (by omega)⟩, ⟨far Mp Mm (by omega), far Mp Mx (by omega), far Mp My (by omega)⟩, ⟨far Mm Mx (by omega), far Mm My (by omega)⟩, far Mx My (by omega)⟩
    · simp only [List.mem_cons, List.not_mem_nil, or_false] at hy
      rcases List.mem_append.1 hx with hx | hx
      · rcases hy with rfl | rfl | rfl | rfl | rfl
        · exact far (Ma x hx) Mo (by omega)
        · exact far (Ma x hx) Mp (by omega)
        · exact far (Ma x hx) Mm (by omega)
        · exact far (Ma x hx) Mx (by omega)
        · exact far (Ma x hx) My (by omega)
      · rcases hy with rfl | rfl | rfl | rfl | rfl
        · exact far (Mb x hx) Mo (by omega)
        · exact far (Mb x hx) Mp (by omega)
        · exact far (Mb x hx) Mm (by omega)
        · exact far (Mb x hx) Mx (by omega)
        · exact far (Mb x hx) My (by omega)
  have hlen : vs.length = ka + kb + 5 := by
    have h1 := congrArg List.length hvs
    have h2 := oD.1.1
    rw [List.length_map] at h1
    omega
  have hnew : ∀ g ∈ blocksOf vs, w.heap.size ≤ g ∧ g < wD.heap.size := by
    intro g hg
    obtain ⟨q, hq, hb⟩ := blocks_mem.1 hg
    obtain ⟨a, b, h1, h2⟩ := hmem q hq
    have h3 := h1.2 g hb
    obtain ⟨_, xs', _, ho⟩ := h1.own
    have h4 := own_in ho g hb
    omega
  obtain ⟨t, cap, hvD, hrow, htn⟩ : ∃ t cap, vD = .slice (some ⟨t, 0, none⟩) (ka + kb + 5) cap ∧ (∀ (j : Nat) (u : Value), (xa ++ xb ++ [vo, vp, vm, vx, vy])[j]? = some u → wD.cell? ⟨t, j, none⟩ = some u) ∧ t ∉ blocksOf vs := by
    have hx := oD.1
    rcases hx.2 with ⟨_, h0⟩ | ⟨g, cap, cur, e, _, hh, _⟩
    · omega
    · refine ⟨g, cap, e, ?_, ?_⟩
      · intro j u hu
        rw [e] at hx
        have := row_at hx j u hu
        rw [Addr.add_mid, Nat.zero_add] at this
        exact this
      · intro hg
        obtain ⟨q, hq, hb⟩ := blocks_mem.1 hg
        obtain ⟨a, b, h1, _⟩ := hmem q hq
        obtain ⟨_, xs', _, ho⟩ := h1.own
        rcases ho.2 with ⟨e', _⟩ | ⟨g', _, cur', e', _, hh', _⟩
        · rw [e'] at hb; cases hb
        · rw [e'] at hb
          have : g' = g := by simpa [Value.ownBlock] using hb
          subst this
          rw [hh] at hh'
          cases hh'
  subst hvD
  have hcA := Ab.apartBytes_any wD (blocksOf vs) vs.length t cap _ _ _ (lists_row vs t (fun j q hq => hrow j q.val (by rw [← hvs, List.getElem?_map, hq]; rfl)) htn (by omega) (fun q hq => by obtain ⟨_, _, h, _⟩ := hmem q hq; exact h.own.1) (fun q hq => by obtain ⟨_, _, h, _⟩ := hmem q hq; exact h.own.2) (pair_of vs _ hvs hpair)) (by omega) (fun g hg => (hnew g hg).2)
  rw [hlen] at hcA
  exact ⟨_, t, cap, rfl, hnew, hcA⟩

set_option maxHeartbeats 4000000 in
set_option maxRecDepth 100000 in
theorem labelApart_law (w : World) (hL : Laid w) (ad : Option Addr) (n c : Nat) (l : List UInt8) (hl : l.length = n) (hn : n ≤ 200) (hb : BytesAt w ad l) (hc : ad = none → c = 0) (x : Int) (hx : (Lit.int .i64 x).wf = true) :
    Calls Tryz.prog 5 #[.slice ad n c, .int .i64 x] w fun e w' => e = .returned (.bool true) ∧ Fr [] w w' := by
  have hn' : ¬ (200 : Int) < (n : Int) := by omega
  have HX : Hid (∃ k : Nat, k ≤ 8 ∧ x % 9 = (k : Int)) := ⟨(x % 9).toNat, by omega, by omega⟩
  obtain ⟨k, hk8, hk⟩ := HX.out
  have HP : Hid (∀ W, Calls Tryz.prog 26 #[.int .i64 x, .int .i64 9] W fun e w' => e = .returned (.int .i64 (k : Int)) ∧ w' = W) := fun W => by
    have := pick_any W x 9 hx (by omega) (by omega)
    rw [hk] at this
    exact this
  have HLen : Hid (l.length = n) := hl
  have HLL : Hid (Laid w) := hL
  clear hk hx HX hL hl
  go_enter Tryz.func5, Tryz.ntmps5
  go_wp2_with (go_at_call 6; refine (awake_any _ HLL.out).mono ?_; rintro e w1 ⟨rfl, f1⟩)
  refine (copy_own _ ad n c l HLen.out (by omega) (hb.kept f1 (by simp)) hc).mono ?_
  rintro e w2 ⟨vo, rfl, oo, f2⟩
  have g2 := f1.trans f2
  obtain ⟨ao, co, rfl, bo, po⟩ := oo.form
  rw [HLen.out]
  go_wp2_with fail
  refine (HP.out _).mono ?_
  rintro e w3 ⟨rfl, rfl⟩
  go_wp2_with fail
  refine (kids_out _ (HLL.out.kept g2) ao n co l HLen.out bo po (by omega) k hk8).mono ?_
  rintro e w4 ⟨va, ena, ka, xa, rfl, hka, KA⟩
  have g4 := g2.trans KA.fr
  have bo4 := bo.kept KA.fr (by simp)
  go_wp2_with fail
  refine (HP.out _).mono ?_
  rintro e w44 ⟨rfl, rfl⟩
  go_wp2_with fail
  refine (kids_out _ (HLL.out.kept g4) ao n co l HLen.out bo4 po (by omega) k hk8).mono ?_
  rintro e w5 ⟨vb, enb, kb, xb, rfl, hkb, KB⟩
  have g5 := g4.trans KB.fr
  have bo5 := bo4.kept KB.fr (by simp)
  go_wp2_with fail
  refine (parent_out _ ao n co l HLen.out bo5 po (by omega)).mono ?_
  rintro e w6 ⟨vp, tp, lp, rfl, op, hlp, f6⟩
  have g6 := g5.trans f6
  have bo6 := bo5.kept f6 (by simp)
  go_wp2_with fail
  refine (between_out _ ao n co l HLen.out bo6 po (by omega)).mono ?_
  rintro e w7 ⟨vm, em, lm, rfl, om, hlm, f7⟩
  have g7 := g6.trans f7
  have bo7 := bo6.kept f7 (by simp)
  have lit : OwnL w7 (w7.alloc (.cells #[] 22)) (.slice (some ⟨w7.heap.size, 0, none⟩) 0 0) 0 [] := ownL_lit (Fr.refl _ _)
  have fA := (Fr.refl [] w7).alloc (.cells #[] 22)
  have ra : (w7.alloc (.cells #[] 22)).ownsRow 0 22 1 va ka xa := own_kept KA.own (((KB.fr.trans f6).trans f7).trans fA) (by simp)
  have rb : w7.ownsRow 0 22 1 vb kb xb := own_kept KB.own (f6.trans f7) (by simp)
  have H1 := Hid.mk0 (And.intro KA.one KB.one)
  go_wp2_with (refine wp_appRow rfl _ _ rfl w7 _ 0 [] rfl lit va ka xa rfl ra H1.out.1 (by omega) ?_)
  intro v8 w8 o8 f8
  have rb8 := own_kept rb o8.2 (by simp)
  clear lit fA ra rb f8
  go_wp2_with (refine wp_appRow rfl _ _ rfl w7 v8 ka xa rfl o8 vb kb xb rfl rb8 H1.out.2 (by omega) ?_)
  intro v9 w9 o9 f9
  clear rb8 f9 o8
  have g9 := g7.trans o9.2
  have bo9 := bo7.kept o9.2 (by simp)
  go_wp2_with fail
  refine (after_out _ ao n co l HLen.out bo9 po (by omega)).mono ?_
  rintro e wA ⟨vx, lx, rfl, ox, hlx, fx⟩
  have boA := bo9.kept fx (by simp)
  go_wp2_with fail
  refine (after_out _ ao n co l HLen.out boA po (by omega)).mono ?_
  rintro e wB ⟨vy, ly, rfl, oy, hly, fy⟩
  obtain ⟨ap, cp, rfl, _, _⟩ := op.form
  obtain ⟨am, cm, rfl, _, _⟩ := om.form
  obtain ⟨ax, cx, rfl, _, _⟩ := ox.form
  obtain ⟨ay, cy, rfl, _, _⟩ := oy.form
  have oB := (o9.kept fx).kept fy
  have fC : Fr [] wB (wB.alloc (.cells #[Value.slice ao n co, Value.slice ap lp.length cp, Value.slice am lm.length cm, Value.slice ax lx.length cx, Value.slice ay ly.length cy] 22)) := (Fr.refl _ _).alloc _
  have oC := oB.kept fC
  have rC : (wB.alloc (.cells #[Value.slice ao n co, Value.slice ap lp.length cp, Value.slice am lm.length cm, Value.slice ax lx.length cx, Value.slice ay ly.length cy] 22)).ownsRow 0 22 1 (.slice (some ⟨wB.heap.size, 0, none⟩) 5 5) 5 [Value.slice ao n co, Value.slice ap lp.length cp, Value.slice am lm.length cm, Value.slice ax lx.length cx, Value.slice ay ly.length cy] :=
    ⟨rfl, Or.inr ⟨wB.heap.size, 5, _, rfl, Nat.zero_le _, heap_alloc_new _ _, Nat.le_refl _, by unfold maxLen; omega, rfl, rfl⟩⟩
  have H5 : Hid (∀ y ∈ [Value.slice ao n co, Value.slice ap lp.length cp, Value.slice am lm.length cm, Value.slice ax lx.length cx, Value.slice ay ly.length cy], y.oneCell' = true) := by
    intro y hy
    simp only [List.mem_cons, List.not_mem_nil, or_false] at hy
    rcases hy with rfl | rfl | rfl | rfl | rfl
    · rfl
    · rfl
    · rfl
    · rfl
    · rfl
  go_wp2_with (refine wp_appRow rfl _ _ rfl w7 v9 (ka + kb) (xa ++ xb) rfl oC _ 5 _ rfl rC H5.out (by omega) ?_)
  intro vD wD oD fD
  have oo' : Out w1 w3 (.slice ao n co) l := by
    have := oo
    rw [HLen.out] at this
    exact this
  obtain ⟨wC, hwC⟩ : ∃ wC, wC = wB.alloc (.cells #[Value.slice ao n co, Value.slice ap lp.length cp, Value.slice am lm.length cm, Value.slice ax lx.length cx, Value.slice ay ly.length cy] 22) := ⟨_, rfl⟩
  rw [← hwC] at fC oC fD
  have hw7 := oC.weak
  have e7 : Fr [] w7 wC := oC.2
  have e6 := f7.trans e7
  have e5 := f6.trans e6
  have e4 := KB.fr.trans e5
  have e2 := KA.fr.trans e4
  have eA := fy.trans fC
  have e9 := fx.trans eA
  have Mo := (oo'.mid (by have := HLen.out; omega) e2).apart hw7 fD
  have Ma : ∀ y ∈ xa, Mid w3 w44 wD y := fun y hy => (KA.mids e4 y hy).apart hw7 fD
  have Mb : ∀ y ∈ xb, Mid w44 w5 wD y := fun y hy => (KB.mids e5 y hy).apart hw7 fD
  have Mp := (op.mid hlp e6).apart hw7 fD
  have Mm := (om.mid hlm e7).apart hw7 fD
  have Mx := (ox.mid hlx eA).apart hw7 fD
  have My := (oy.mid hly fC).apart hw7 fD
  have s1 := f1.size
  have s2 := f2.size
  have s4 := KA.fr.size
  have s5 := KB.fr.size
  have s6 := f6.size
  have s7 := f7.size
  have s9 := o9.2.size
  have sA := fx.size
  have sB := fy.size
  have gD : Fr [] w wD := g7.trans oD.2
  rw [← List.append_assoc] at oD
  obtain ⟨G, t, cap, hvD, hnew, hcA⟩ := apart_lists KA KB Mo Ma Mb Mp Mm Mx My s1 s2 s4 s5 s6 s7 s9 sA sB hka hkb oD
  subst hvD
  have HCA := Hid.mk0 hcA
  have HNW := Hid.mk0 hnew
  have GD := Hid.mk0 gD
  clear hcA hnew gD oD fD Mo Ma Mb Mp Mm Mx My s1 s2 s4 s5 s6 s7 s9 sA sB e7 e6 e5 e4 e2 eA e9 hw7 oC rC oB fC oo oo' op om ox oy KA KB f1 f2 f6 f7 fx fy o9 g2 g4 g5 g6 g7 g9 bo bo4 bo5 bo6 bo7 bo9 boA hwC
  go_wp2_with fail
  refine HCA.out.mono ?_
  rintro e wE ⟨rfl, fE⟩
  go_wp2_with fail
  go_ret
  exact ⟨rfl, GD.out.then (fr_ab fE) (fun i hi hm => by have := (HNW.out i hm).1; omega)⟩

theorem labelApart_long (w : World) (hL : Laid w) (ad : Option Addr) (n c : Nat) (hn : 200 < n) (x : Int) :
    Calls Tryz.prog 5 #[.slice ad n c, .int .i64 x] w fun e w' => e = .returned (.bool true) ∧ Fr [] w w' := by
  have hn' : (200 : Int) < (n : Int) := by omega
  go_enter Tryz.func5, Tryz.ntmps5
  go_wp2_with (go_at_call 6; refine (awake_any _ hL).mono ?_; rintro e w1 ⟨rfl, f1⟩)
  go_ret
  exact ⟨rfl, f1⟩
end Go.Proofs.YtddcilmeignlmaaGreatDoor
