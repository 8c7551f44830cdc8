/-
  The ring of frames: what is ahead, which goes, the hand turned, a frame put in another one's place, or behind all.
-/
import Derived.Test.YtopaeomjndblkaaGreatY18Z
import Derived.Maps.OwnSet
import Derived.BigQuiet
import Derived.Deep.CutRange
namespace Go.Proofs.YtopaeomjndblkaaGreat
open Go.RowKit Go.Maps
open Go.WideElems (Fit rd rg rd_key rg_of)

/-- How a frame's pointer reads, as an element of a map: nil, or the frame's block. -/
def rdPt (v : Value) : Option (DataW (Option Nat) × List MemPlace) :=
  match v with
  | .pointer none => some (.held none, [])
  | .pointer (some ⟨b, 0, none⟩) => some (.held (some b), [])
  | _ => none
def ptV (b : Option Nat) : Value := .pointer (b.map fun x => ⟨x, 0, none⟩)
theorem rdPt_mk (b : Option Nat) : rdPt (ptV b) = some (.held b, []) := by cases b <;> rfl
theorem rdPt_inv {v : Value} {z : DataW (Option Nat) × List MemPlace} (h : rdPt v = some z) : ∃ b, v = ptV b ∧ z = (.held b, []) := by
  unfold rdPt at h
  split at h
  · exact ⟨none, rfl, (Option.some.inj h).symm⟩
  · rename_i b
    exact ⟨some b, rfl, (Option.some.inj h).symm⟩
  · cases h
abbrev PTab := Int → Option Nat
def PTab.put (S : PTab) (k : Int) (b : Nat) : PTab := fun j => if j = k then some b else S j
def PTab.del (S : PTab) (k : Int) : PTab := fun j => if j = k then none else S j
structure PSays (D : DataW (Option Nat)) (S : PTab) : Prop where
  has : ∀ k, Maps.has D (.int .i64 k) = (S k).isSome
  at' : ∀ k b, S k = some b → ∀ z, D.atKey (.int .i64 k) z = .held (some b)
  key : ∀ k b, S k = some b → 0 ≤ k ∧ k < 65536
theorem PSays.none : PSays (.map []) (fun _ => none) := ⟨fun _ => rfl, (fun _ _ h => nomatch h), (fun _ _ h => nomatch h)⟩
theorem PSays.put {D : DataW (Option Nat)} {S : PTab} (h : PSays D S) (hD : IsMap D) {k : Int} {b : Nat} (h0 : 0 ≤ k) (h1 : k < 65536) : PSays (D.put (.int .i64 k) (.held (some b))) (S.put k b) := by
  have hk : WideAt.IsKeyLit (.int .i64 k) := trivial
  refine ⟨fun j => ?_, fun j m hj z => ?_, fun j m hj => ?_⟩
  · by_cases e : j = k
    · subst e; rw [has_put_same hD hk]; simp [PTab.put]
    · rw [has_put_other (by simpa using e), h.has]; simp [PTab.put, e]
  · by_cases e : j = k
    · subst e; rw [atKey_put_same hD hk]; simp [PTab.put] at hj; rw [hj]
    · simp [PTab.put, e] at hj; rw [atKey_put_other (by simpa using e)]; exact h.at' j m hj z
  · by_cases e : j = k
    · subst e; exact ⟨h0, h1⟩
    · simp [PTab.put, e] at hj; exact h.key j m hj
theorem PSays.del {D : DataW (Option Nat)} {S : PTab} (h : PSays D S) {k : Int} : PSays (D.del (.int .i64 k)) (S.del k) := by
  have hk : WideAt.IsKeyLit (.int .i64 k) := trivial
  refine ⟨fun j => ?_, fun j m hj z => ?_, fun j m hj => ?_⟩
  · by_cases e : j = k
    · subst e; rw [has_del_same]; simp [PTab.del]
    · rw [has_del_other (by simpa using e), h.has]; simp [PTab.del, e]
  · by_cases e : j = k
    · subst e; simp [PTab.del] at hj
    · simp [PTab.del, e] at hj; rw [atKey_del_other (by simpa using e)]; exact h.at' j m hj z
  · by_cases e : j = k
    · subst e; simp [PTab.del] at hj
    · simp [PTab.del, e] at hj; exact h.key j m hj
theorem PSays.atKey {D : DataW (Option Nat)} {S : PTab} (h : PSays D S) (k : Int) : D.atKey (.int .i64 k) (.held Option.none) = .held (S k) := by
  cases e : S k with
  | none => exact atKey_of_not_has (by rw [h.has, e]; rfl) _
  | some l => exact h.at' k l e _
def pMap (w : World) (b : Nat) (S : PTab) : Prop := ∃ D, w.ownsMap Tryz.prog 3 rdPt b 65536 D ∧ PSays D S
theorem powns_small {w : World} {b n : Nat} {D : DataW (Option Nat)} {S : PTab} (h : w.ownsMap Tryz.prog 3 rdPt b n D) (hs : PSays D S) : w.ownsMap Tryz.prog 3 rdPt b 65536 D := by
  obtain ⟨D', hti, hpw⟩ := h.tidy Dv.law3
  obtain ⟨es, clock, hb, F, hn, hD⟩ := h
  refine ⟨es, clock, hb, F, ?_, hD⟩
  have hlen : es.size = D'.length := by
    have e1 : D' = ((es.toList.map (rg Tryz.prog 3 rdPt)).foldr DataW.insert []) := by
      rw [hti] at hD; exact DataW.map.inj hD
    rw [e1, length_read]
  rw [hlen]
  have hkeys : ∀ p ∈ D', ∃ x : Int, p.1 = .int .i64 x ∧ 0 ≤ x ∧ x < 65536 := by
    intro p hp
    have e1 : D' = ((es.toList.map (rg Tryz.prog 3 rdPt)).foldr DataW.insert []) := by
      rw [hti] at hD; exact DataW.map.inj hD
    have hp' : p ∈ es.toList.map (rg Tryz.prog 3 rdPt) := (WideShapes.sorted_perm _).mem_iff.1 (e1 ▸ hp)
    obtain ⟨x, hx, rfl⟩ := List.mem_map.1 hp'
    obtain ⟨y, hy⟩ := F.reads x hx
    have hk := rd_key hy
    obtain ⟨n, _, hkn, _⟩ := Maps.keyOf_int_inv Tryz.underlying3 hk
    have hrg : rg Tryz.prog 3 rdPt x = y := rg_of hy
    refine ⟨n, by rw [hrg]; exact hkn, ?_⟩
    have hhas : Maps.has D (.int .i64 n) = true := by
      rw [hti, has_eq, List.any_eq_true]
      exact ⟨_, hp, by rw [hrg, hkn]; simp [Lit.sameKey]⟩
    rw [hs.has] at hhas
    obtain ⟨l, hl⟩ := Option.isSome_iff_exists.1 hhas
    exact hs.key n l hl
  have hnum : ∀ p ∈ D', ∀ q ∈ D', p.1 ≠ q.1 → (match p.1 with | .int _ x => x | _ => 0) ≠ (match q.1 with | .int _ x => x | _ => (0 : Int)) := by
    intro p hp q hq hne
    obtain ⟨x, ex, _⟩ := hkeys p hp
    obtain ⟨y, ey, _⟩ := hkeys q hq
    rw [ex, ey] at hne ⊢
    simpa using hne
  have := Dv.nodup_le 65536 (D'.map fun p => match p.1 with | .int _ x => x | _ => 0) (by
    rw [List.Nodup, List.pairwise_map]
    exact hpw.imp_of_mem (fun hp hq hne => hnum _ hp _ hq hne)) (by
    intro x hx
    obtain ⟨p, hp, rfl⟩ := List.mem_map.1 hx
    obtain ⟨y, ey, h1, h2⟩ := hkeys p hp
    rw [ey]
    exact ⟨h1, by simpa using h2⟩)
  simpa using this
theorem pMap.lt {w : World} {b : Nat} {S : PTab} (h : pMap w b S) : b < w.heap.size := by obtain ⟨D, h, _⟩ := h; exact h.lt
theorem pMap.block {w w' : World} {b : Nat} {S : PTab} (h : pMap w b S) (e : w'.heap[b]? = w.heap[b]?) : pMap w' b S := by
  obtain ⟨D, ⟨es, clock, hb, r⟩, hs⟩ := h
  exact ⟨D, ⟨es, clock, e.trans hb, r⟩, hs⟩
theorem pMap.kept {w w' : World} {b : Nat} {S : PTab} {L : List Nat} (h : pMap w b S) (k : Fr L w w') (hb : b ∉ L) : pMap w' b S := h.block (k.block b h.lt hb)
theorem pMap.made (w : World) : pMap (w.alloc (.map #[] 0)) w.heap.size (fun _ => none) := ⟨_, (World.ownsMap_made w Tryz.prog 3 rdPt).mono (by omega), PSays.none⟩
theorem pMap.notcells {w : World} {b : Nat} {S : PTab} (h : pMap w b S) : ∀ cur t, w.heap[b]? ≠ some (.cells cur t) := by
  intro cur t e
  obtain ⟨D, ⟨es, clock, hb, r⟩, hs⟩ := h
  rw [e] at hb
  cases hb
theorem pzero (w : World) : (zeroValue 159).run Tryz.prog w = .ok (ptV none) w := by kernel_rfl
section
variable {ops : Array Oper} {rest : List Oper} {o : Oper} {a : Act} {w : World} {Q : Exit → Act → World → Prop}
theorem wp_pLook (hgd : o.guard = none) (m x : Operand) (ho : o.op = Op.lookup 146 m x true) (b : Nat) (S : PTab) (k : Int) (hk : (Lit.int .i64 k).wf = true) (hm : a.eval m = .map (some b)) (hx : a.eval x = .int .i64 k) (ht : pMap w b S)
    (h : wpList Tryz.prog ops Q rest (a.put o.dst (.tuple #[ptV (S k), .bool (S k).isSome])) w) : wpList Tryz.prog ops Q (o :: rest) a w := by
  obtain ⟨D, hown, hs⟩ := ht
  refine wpList_lookup_own_ok w hgd m x 146 ho 3 159 Dv.law3 Tryz.underlying146 rdPt (pzero w) (.held none) [] (rdPt_mk none) b 65536 D hm hown _ _ hx (keyOf_int_mk Tryz.underlying3 hk) ?_
  intro v ps hv
  obtain ⟨l, rfl, hz⟩ := rdPt_inv hv
  rw [hs.atKey] at hz
  simp only [Prod.mk.injEq, DataW.held.injEq] at hz
  rw [← hz.1, hs.has]
  exact h
theorem wp_pPut (hgd : o.guard = none) (m x v : Operand) (ho : o.op = Op.mapUpdate 146 m x v) (b : Nat) (S : PTab) (k : Int) (f : Nat) (h0 : 0 ≤ k) (h1 : k < 65536) (hm : a.eval m = .map (some b)) (hx : a.eval x = .int .i64 k) (hv : a.eval v = .pointer (some ⟨f, 0, none⟩)) (ht : pMap w b S)
    (h : ∀ w', pMap w' b (S.put k f) → Fr [b] w w' → wpList Tryz.prog ops Q rest (a.put o.dst undef) w') : wpList Tryz.prog ops Q (o :: rest) a w := by
  obtain ⟨D, hown, hs⟩ := ht
  have hk : (Lit.int .i64 k).wf = true := WalkArith.wf_i64 (by omega)
  refine wpList_mapUpdate_in w hgd m x v 146 ho 3 159 Dv.law3 Tryz.underlying146 _ b 65536 D hm hown (by unfold maxLen; omega) _ _ _ hx hv (keyOf_int_mk Tryz.underlying3 hk) _ [] (rdPt_mk (some f)) ?_
  intro w1 hown1 hturn1
  have hs1 := hs.put hown.isMap (b := f) h0 h1
  exact h w1 ⟨_, powns_small hown1 hs1, hs1⟩ ((Fr.refl _ _).grown hturn1.grown (fun j e _ => by simp at e; simp [e]))
theorem run_pDel {b : Nat} {S : PTab} (ht : pMap w b S) {k : Int} (hk : (Lit.int .i64 k).wf = true) (ty : TypeId) :
    ∃ w', (Builtin.delete_ #[146, 3] ty #[.map (some b), .int .i64 k]).run Tryz.prog w = .ok (.tuple #[]) w' ∧ pMap w' b (S.del k) ∧ Fr [b] w w' := by
  obtain ⟨D, hown, hs⟩ := ht
  obtain ⟨w', hrun, hown', hturn⟩ := hown.drop Dv.law3 Tryz.underlying146 (keyOf_int_mk Tryz.underlying3 hk) ty
  exact ⟨w', hrun, ⟨_, hown', hs.del⟩, (Fr.refl _ _).grown hturn.grown (fun j e _ => by simp at e; simp [e])⟩
/-- The same as a step of a region that draws its order. -/
theorem step_pDel {K : Act → World → Prop} {E : Prop} (hgd : o.guard = none) (m x : Operand) (ho : o.op = Op.call { callee := Callee.builtin Builtin.delete, args := #[m, x], argTypes := #[146, 3] }) (b : Nat) (S : PTab) (k : Int) (hk : (Lit.int .i64 k).wf = true) (hm : a.eval m = .map (some b)) (hx : a.eval x = .int .i64 k) (ht : pMap w b S)
    (h : ∀ w', pMap w' b (S.del k) → Fr [b] w w' → K (a.put o.dst (.tuple #[])) w') :
    if Region.wanted o (yielded ops a.tmps) = true then Oper.wp Tryz.prog o a w K Q else E := by
  have hw : Region.wanted o (yielded ops a.tmps) = true := by simp [Region.wanted, hgd]
  rw [if_pos hw]
  obtain ⟨w', hrun, r1, r2⟩ := run_pDel ht hk o.type
  unfold Oper.wp
  simp [execOp, ho, resolve, invoke, builtin, hm, hx, hrun, Result.andThen]
  exact h w' r1 r2
end
end Go.Proofs.YtopaeomjndblkaaGreat

namespace Go.Proofs.YtopaeomjndblkaaGreat
open Go.RowKit Go.Maps

def slV (fs : List Fm) : List Value := fs.map fun f => .pointer (some ⟨f.b, 0, none⟩)
/-- A ring in memory: its slots, the hand, its frames. -/
structure Rn (w : World) (rp : Nat) (sa : Option Addr) (sc hand : Nat) (fs : List Fm) : Prop where
  ring : w.heap[rp]? = some (.cells #[.slice sa fs.length sc, .int .i64 (hand : Int)] 157)
  slots : w.ownsRow 0 159 1 (.slice sa fs.length sc) fs.length (slV fs)
  frames : ∀ f ∈ fs, FAt w f
  nod : (fs.map (·.b)).Nodup
theorem Rn.r0 {w : World} {rp : Nat} {sa : Option Addr} {sc hand : Nat} {fs : List Fm} (h : Rn w rp sa sc hand fs) : w.cell? ⟨rp, 0, none⟩ = some (.slice sa fs.length sc) := cell_of_row w rp 0 _ _ _ h.ring
theorem Rn.r1 {w : World} {rp : Nat} {sa : Option Addr} {sc hand : Nat} {fs : List Fm} (h : Rn w rp sa sc hand fs) : w.cell? ⟨rp, 1, none⟩ = some (.int .i64 (hand : Int)) := cell_of_row w rp 1 _ _ _ h.ring
theorem Rn.fz {w : World} {rp : Nat} {sa : Option Addr} {sc hand : Nat} {fs : List Fm} (h : Rn w rp sa sc hand fs) (j : Nat) : w.frozen? ⟨rp, j, none⟩ = false := frozen_of_row w rp j _ _ h.ring
/-- The slots' row: where it lies, what it holds. -/
theorem Rn.at {w : World} {rp : Nat} {sa : Option Addr} {sc hand : Nat} {fs : List Fm} (h : Rn w rp sa sc hand fs) (hn : 0 < fs.length) : ∃ g cur, sa = some ⟨g, 0, none⟩ ∧ w.heap[g]? = some (.cells cur 159) ∧ fs.length ≤ sc ∧ sc ≤ maxLen ∧ cur.size = sc ∧ cur.toList.take fs.length = slV fs := by
  rcases h.slots.2 with ⟨_, h0⟩ | ⟨g, cap, cur, hv, hb, hg, hcap, hmx, hsz, htk⟩
  · omega
  · cases hv
    exact ⟨g, cur, rfl, hg, hcap, hmx, by simpa using hsz, by simpa using htk⟩
theorem row_cell {w : World} {g : Nat} {cur : Array Value} {fs : List Fm} (hg : w.heap[g]? = some (.cells cur 159)) (ht : cur.toList.take fs.length = slV fs) {j : Nat} {f : Fm} (hj : fs[j]? = some f) : w.cell? ⟨g, j, none⟩ = some (.pointer (some ⟨f.b, 0, none⟩)) := by
  rw [cell_of_row w g j _ _ _ hg]
  have hj' : j < fs.length := (List.getElem?_eq_some_iff.1 hj).1
  have h2 : (slV fs)[j]? = some (.pointer (some ⟨f.b, 0, none⟩)) := by simp [slV, hj]
  rw [← h2, ← ht, List.getElem?_take]
  simp [hj']
/-- The blocks that are a ring's own. -/
def ownR (rp : Nat) (sa : Option Addr) (fs : List Fm) : List Nat := rp :: ((sa.map (·.block)).toList ++ fs.map (·.b))
theorem Rn.kept {w w' : World} {rp : Nat} {sa : Option Addr} {sc hand : Nat} {fs : List Fm} {L : List Nat} (h : Rn w rp sa sc hand fs) (f : Fr L w w') (hL : ∀ k ∈ ownR rp sa fs, k ∉ L) : Rn w' rp sa sc hand fs := by
  refine ⟨f.same (hL _ (by simp [ownR])) h.ring, ⟨h.slots.1, ?_⟩, fun x hx => (h.frames x hx).kept f (hL _ (by simp [ownR]; exact Or.inr (Or.inr ⟨x, hx, rfl⟩))), h.nod⟩
  rcases h.slots.2 with hn | ⟨g, cap, cur, hv, hb, hg, r⟩
  · exact Or.inl hn
  · cases hv
    exact Or.inr ⟨g, _, cur, rfl, hb, f.same (hL _ (by simp [ownR])) hg, r⟩
theorem Rn.lt {w : World} {rp : Nat} {sa : Option Addr} {sc hand : Nat} {fs : List Fm} (h : Rn w rp sa sc hand fs) : ∀ k ∈ ownR rp sa fs, k < w.heap.size := by
  intro k hk
  simp only [ownR, List.mem_cons, List.mem_append, List.mem_map] at hk
  rcases hk with rfl | hk | ⟨f, hf, rfl⟩
  · exact (Array.getElem?_eq_some_iff.1 h.ring).1
  · rcases h.slots.2 with ⟨e, _⟩ | ⟨g, cap, cur, hv, hb, hg, r⟩
    · simp only [Value.slice.injEq] at e
      rw [e.1] at hk
      simp at hk
    · cases hv
      simp at hk
      subst hk
      exact (Array.getElem?_eq_some_iff.1 hg).1
  · exact (h.frames f hf).lt
/-- Of what types they are. -/
theorem Rn.types {w : World} {rp : Nat} {sa : Option Addr} {sc hand : Nat} {fs : List Fm} (h : Rn w rp sa sc hand fs) : ∀ k ∈ ownR rp sa fs, ∃ cur t, w.heap[k]? = some (.cells cur t) ∧ (t = 157 ∨ t = 159 ∨ t = 162) := by
  intro k hk
  simp only [ownR, List.mem_cons, List.mem_append, List.mem_map] at hk
  rcases hk with rfl | hk | ⟨f, hf, rfl⟩
  · exact ⟨_, _, h.ring, Or.inl rfl⟩
  · rcases h.slots.2 with ⟨e, _⟩ | ⟨g, cap, cur, hv, hb, hg, r⟩
    · simp only [Value.slice.injEq] at e
      rw [e.1] at hk
      simp at hk
    · cases hv
      simp at hk
      subst hk
      exact ⟨_, _, hg, Or.inr (Or.inl rfl)⟩
  · exact ⟨_, _, (h.frames f hf).at', Or.inr (Or.inr rfl)⟩

set_option maxHeartbeats 1000000 in
theorem ahead_any {w : World} {rp : Nat} {sa : Option Addr} {sc hand : Nat} {fs : List Fm} (h : Rn w rp sa sc hand fs) (hn : 0 < fs.length) (hm : fs.length ≤ 1024) (hh : hand ≤ 1024) (k : Nat) (hk : k ≤ 4000) (f : Fm) (hf : fs[(hand + k) % fs.length]? = some f) :
    Calls Tryz.prog 250 #[.pointer (some ⟨rp, 0, none⟩), .int .i64 (k : Int)] w fun e w' => ∃ nq, e = .returned (.pointer (some ⟨f.b, 0, none⟩)) ∧ w' = w.drewN nq := by
  obtain ⟨g, cur, rfl, hg, hsc, hmx, hsz, htk⟩ := h.at hn
  have c0 := h.r0
  have c1 := h.r1
  have cj := row_cell hg htk hf
  obtain ⟨n, HN⟩ : ∃ n, Hid (fs.length = n) := ⟨_, rfl⟩
  rw [HN.out] at c0 hn hm cj hsc
  obtain ⟨j, HJ⟩ : ∃ j, Hid ((hand + k) % n = j) := ⟨_, rfl⟩
  rw [HJ.out] at cj
  have hj : j < n := by rw [← HJ.out]; exact Nat.mod_lt _ hn
  obtain ⟨m, HM⟩ : ∃ m, Hid (hand + k = m) := ⟨_, rfl⟩
  have e1 : IntKind.i64.wrap ((hand : Int) + (k : Int)) = (m : Int) := by rw [← HM.out, Int.natCast_add]; exact wrapI _ (by omega) (by omega)
  have e2 : (m : Int) % (n : Int) = (j : Int) := by rw [← HJ.out, ← HM.out]; rfl
  have hm0 : (0 : Int) ≤ (m : Int) := by omega
  have hn0 : ¬ (n : Int) = 0 := by omega
  have hj0 : (0 : Int) ≤ (j : Int) := by omega
  have hj1 : (j : Int) < (n : Int) := by omega
  clear h hf hg htk hsz
  go_enter Tryz.func250, Tryz.ntmps250
  go_wp2
  go_quiet (fail)
  go_wp2
  go_ret
  exact ⟨_, rfl, rfl⟩

/-- Does a frame go for another one? -/
def goesB (f : Fm) (again : Bool) : Bool := decide (f.hd = 0) && (again || !f.ask)
set_option maxHeartbeats 1000000 in
theorem leaving1_any {w : World} {f : Fm} (h : FAt w f) (again : Bool) : Calls Tryz.prog 247 #[.pointer (some ⟨f.b, 0, none⟩), .bool again] w fun e w' => e = .returned (.bool (goesB f again)) ∧ w' = w := by
  have c2 := h.c2
  have c3 := h.c3
  unfold goesB
  generalize f.ask = k at c3 ⊢
  by_cases h0 : f.hd = 0
  · rw [h0] at c2 ⊢
    cases again
    · go_enter Tryz.func247, Tryz.ntmps247
      go_wp2
      go_ret
      exact ⟨by simp, rfl⟩
    · go_enter Tryz.func247, Tryz.ntmps247
      go_wp2
      go_ret
      exact ⟨by simp, rfl⟩
  · have hb : (f.hd == 0) = false := by simpa using h0
    go_enter Tryz.func247, Tryz.ntmps247
    go_wp2
    go_ret
    exact ⟨by simp [h0], rfl⟩

theorem at_mod {fs : List Fm} (hn : 0 < fs.length) (k : Nat) : ∃ f, fs[k % fs.length]? = some f := ⟨_, List.getElem?_eq_getElem (Nat.mod_lt _ hn)⟩
/-- How far the frame is that goes. -/
def seekTo (fs : List Fm) (hand k : Nat) (b : Bool) : Prop :=
  (b = true ∧ k < 2 * fs.length ∧ (∃ f, fs[(hand + k) % fs.length]? = some f ∧ goesB f (decide (fs.length ≤ k)) = true) ∧ ∀ j, j < k → ∀ f, fs[(hand + j) % fs.length]? = some f → goesB f (decide (fs.length ≤ j)) = false) ∨
  (b = false ∧ k = 0 ∧ ∀ j, j < 2 * fs.length → ∀ f, fs[(hand + j) % fs.length]? = some f → goesB f (decide (fs.length ≤ j)) = false)
set_option maxHeartbeats 1000000 in
theorem seek_any {w : World} {rp : Nat} {sa : Option Addr} {sc hand : Nat} {fs : List Fm} (h : Rn w rp sa sc hand fs) (hn : 0 < fs.length) (hm : fs.length ≤ 1024) (hh : hand ≤ 1024) :
    Calls Tryz.prog 246 #[.pointer (some ⟨rp, 0, none⟩), .func (.func 247) #[] #[]] w fun e w' => ∃ k b, e = .returned (.tuple #[.int .i64 ((k : Nat) : Int), .bool b]) ∧ seekTo fs hand k b ∧ Fr [] w w' := by
  have c0 := h.r0
  obtain ⟨n, HN⟩ : ∃ n, Hid (fs.length = n) := ⟨_, rfl⟩
  have HR := hidI h
  have hn' := hn
  rw [HN.out] at c0 hn' hm
  have e1 : IntKind.i64.wrap (2 * (n : Int)) = 2 * (n : Int) := wrapI _ (by omega) (by omega)
  clear h
  go_enter Tryz.func246, Tryz.ntmps246
  go_wp2
  go_loopw [15] (fun s15 wr => ∃ (i : Nat), i ≤ 2 * n ∧ s15 = .int .i64 (i : Int) ∧ Hid (∀ j, j < i → ∀ f, fs[(hand + j) % fs.length]? = some f → goesB f (decide (fs.length ≤ j)) = false) ∧ Hid (Fr [] w wr)) (fun s15 _ => 2 * n - (intOf s15).toNat)
  case atStart => exact ⟨0, by omega, rfl, hidI (fun j hj => by omega), hidI (Fr.refl _ _)⟩
  case round =>
    obtain ⟨i, hi, rfl, HB, HF⟩ := hrel
    by_cases hlt : i < 2 * n
    · have q1 : (i : Int) < 2 * (n : Int) := by omega
      obtain ⟨f, hf⟩ := at_mod hn (hand + i)
      have R1 := HR.out.kept HF.out (by simp)
      have FF := HF.out
      have hw1 : IntKind.i64.wrap ((i : Int) + 1) = (i : Int) + 1 := wrapI _ (by omega) (by omega)
      go_wp2_with fail
      refine (ahead_any R1 hn (by rw [HN.out]; exact hm) hh i (by omega) f hf).mono ?_
      rintro e w2 ⟨nq, rfl, rfl⟩
      have f2 : Fr [] w (wr.drewN nq) := FF.drewN nq
      have F2 := hidI ((HR.out.kept f2 (by simp)).frames f (List.mem_of_getElem? hf))
      generalize wr.drewN nq = w2 at f2 F2 ⊢
      by_cases hge : n ≤ i
      · have q2 : (n : Int) ≤ (i : Int) := by omega
        cases hfit : goesB f true
        · go_wp2_with (go_at_call 247; refine (leaving1_any F2.out true).mono ?_; rw [hfit]; rintro e w3 ⟨rfl, rfl⟩)
          refine ⟨⟨i + 1, by omega, by go_num, hidI (fun j hj g hg => ?_), hidI f2⟩, by simp [intOf]; omega⟩
          rcases Nat.lt_succ_iff_lt_or_eq.1 hj with h1 | rfl
          · exact HB.out j h1 g hg
          · rw [hf] at hg
            cases hg
            rw [HN.out, decide_eq_true hge]
            exact hfit
        · go_wp2_with (go_at_call 247; refine (leaving1_any F2.out true).mono ?_; rw [hfit]; rintro e w3 ⟨rfl, rfl⟩)
          go_ret2
          exact ⟨i, true, rfl, Or.inl ⟨rfl, by rw [HN.out]; exact hlt, ⟨f, hf, by rw [HN.out, decide_eq_true hge]; exact hfit⟩, HB.out⟩, f2⟩
      · have q2 : ¬ (n : Int) ≤ (i : Int) := by omega
        cases hfit : goesB f false
        · go_wp2_with (go_at_call 247; refine (leaving1_any F2.out false).mono ?_; rw [hfit]; rintro e w3 ⟨rfl, rfl⟩)
          refine ⟨⟨i + 1, by omega, by go_num, hidI (fun j hj g hg => ?_), hidI f2⟩, by simp [intOf]; omega⟩
          rcases Nat.lt_succ_iff_lt_or_eq.1 hj with h1 | rfl
          · exact HB.out j h1 g hg
          · rw [hf] at hg
            cases hg
            rw [HN.out, decide_eq_false hge]
            exact hfit
        · go_wp2_with (go_at_call 247; refine (leaving1_any F2.out false).mono ?_; rw [hfit]; rintro e w3 ⟨rfl, rfl⟩)
          go_ret2
          exact ⟨i, true, rfl, Or.inl ⟨rfl, by rw [HN.out]; exact hlt, ⟨f, hf, by rw [HN.out, decide_eq_false hge]; exact hfit⟩, HB.out⟩, f2⟩
    · have q1 : ¬ (i : Int) < 2 * (n : Int) := by omega
      have FF := HF.out
      go_wp2_with fail
      go_ret2
      exact ⟨0, Or.inl ⟨rfl, Or.inr ⟨rfl, rfl, fun j hj => HB.out j (by rw [HN.out] at hj; omega)⟩, FF⟩⟩
end Go.Proofs.YtopaeomjndblkaaGreat

