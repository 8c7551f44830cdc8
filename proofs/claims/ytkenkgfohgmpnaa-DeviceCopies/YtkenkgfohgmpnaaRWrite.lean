/-
  The document's device: Write.
-/
import Derived.Test.YtkenkgfohgmpnaaRSync
namespace Go.Proofs.Ytkenkgfohgmpnaa
open Go.RowKit Go.Maps

set_option maxHeartbeats 400000 in
theorem rwrite_err {w : World} {r : Nat} {lv : Value} {N a : Int} {off : Bool} {E : List Ent} (h : RDev w r lv N a off E) (k : Int) (s : Value) (hr : reached N k off ≠ 0) :
    Calls Try.prog 34 #[.pointer (some ⟨r, 0, none⟩), .int .i64 k, s] w fun e w' => e = .returned (.int .i64 (reached N k off)) ∧ w = w' := by
  have c0 := h.cell0
  have c3 := h.cell3
  cases off
  · by_cases h0 : k < 0
    · rw [show reached N k false = 6 from by simp [reached, h0]]
      clear hr
      go_enter Try.func34, Try.ntmps34
      go_wp2
      go_ret
      exact ⟨rfl, rfl⟩
    · have h1 : N ≤ k := by
        by_cases h1 : N ≤ k
        · exact h1
        · exact absurd (by simp [reached, h0, h1]) hr
      rw [show reached N k false = 6 from by simp [reached, h1]]
      clear hr
      go_enter Try.func34, Try.ntmps34
      go_wp2
      go_ret
      exact ⟨rfl, rfl⟩
  · rw [show reached N k true = 8 from rfl]
    clear hr
    go_enter Try.func34, Try.ntmps34
    go_wp2
    go_ret
    exact ⟨rfl, rfl⟩

set_option maxHeartbeats 400000 in
theorem rwrite_arg {w : World} {r : Nat} {lv : Value} {N a : Int} {E : List Ent} (h : RDev w r lv N a false E) (k : Int) (h0 : 0 ≤ k) (h1 : k < N) (ad : Option Addr) (m c : Nat) (hm : m ≠ 512) :
    Calls Try.prog 34 #[.pointer (some ⟨r, 0, none⟩), .int .i64 k, .slice ad m c] w fun e w' => e = .returned (.int .i64 2) ∧ w = w' := by
  have c0 := h.cell0
  have c3 := h.cell3
  have n0 : ¬ k < 0 := by omega
  have n1 : ¬ N ≤ k := by omega
  have hb : ((m : Int) == 512) = false := by simp; omega
  go_enter Try.func34, Try.ntmps34
  go_wp2
  go_ret
  exact ⟨rfl, rfl⟩

/-- append([]byte{}, l...) of a block, as one step of a region that draws its order. -/
theorem step_app512 {ops : Array Oper} {o : Oper} {a : Act} {w : World} {K : Act → World → Prop} {Q : Exit → Act → World → Prop} {Ex : Prop} (hgd : o.guard = none) (s x : Operand)
    (ho : o.op = .call { callee := .builtin .append, args := #[s, x], argTypes := #[38, 38] }) (w0 : World) (g0 : Nat) (hs : a.eval s = .slice (some ⟨g0, 0, none⟩) 0 0) (hown : Own w0 w (.slice (some ⟨g0, 0, none⟩) 0 0) 0 [])
    (ad : Option Addr) (c : Nat) (l : List UInt8) (hx : a.eval x = .slice ad 512 c) (hl : l.length = 512) (hsrc : BytesAt w ad l)
    (h : ∀ g c' w', BytesAt w' (some ⟨g, 0, none⟩) l → Fr [] w0 w' → w0.heap.size ≤ g → g < w'.heap.size → K (a.put o.dst (.slice (some ⟨g, 0, none⟩) 512 c')) w') :
    if Region.wanted o (yielded ops a.tmps) = true then Oper.wp Try.prog o a w K Q else Ex := by
  have hw : Region.wanted o (yielded ops a.tmps) = true := by simp [Region.wanted, hgd]
  rw [if_pos hw]
  obtain ⟨v', w', hrun, hown'⟩ := run_app o.type w0 _ 0 [] hown ad 512 c l hl hsrc (by omega) (fun h => absurd h (by omega))
  rw [Nat.zero_add, List.nil_append, ← hl] at hown'
  obtain ⟨g, c', rfl, hb, h1, h2⟩ := hown'.bytes hl
  unfold Oper.wp
  simp [execOp, ho, resolve, invoke, builtin, hs, hx, hrun, Result.andThen]
  exact h g c' w' hb hown'.2 h1 h2

theorem RDev.alloc {w : World} {r : Nat} {lv : Value} {N a : Int} {off : Bool} {E : List Ent} (h : RDev w r lv N a off E) (o : Obj) : RDev (w.alloc o) r lv N a off E := h.kept ((Fr.refl [] w).alloc _) (by simp)

def Ent.write (e : Ent) (g c : Nat) (l : List UInt8) : Ent := { e with lg := g, lc := c, l := l, o := true }

set_option maxHeartbeats 2000000 in
set_option maxRecDepth 100000 in
theorem rwrite_at {w : World} {r : Nat} {lv : Value} {N a : Int} {E : List Ent} (h : RDev w r lv N a false E) (i : Nat) (en : Ent) (hi : E[i]? = some en) (h1 : en.n < N) (ad : Option Addr) (c : Nat) (l : List UInt8) (hl : l.length = 512) (hsrc : BytesAt w ad l) :
    Calls Try.prog 34 #[.pointer (some ⟨r, 0, none⟩), .int .i64 en.n, .slice ad 512 c] w fun e w' => e = .returned (.int .i64 (told (crash a))) ∧
      (∃ g c', RDev w' r lv N (left a) (crash a) (E.set i (en.write g c' l)) ∧ w.heap.size ≤ g) ∧ Fr (r :: lv.ownBlock.toList) w w' := by
  have c0 := h.cell0
  have c1 := h.cell1
  have c3 := h.cell3
  have hilt := (List.getElem?_eq_some_iff.1 hi).1
  have hfew : (E.length : Int) ≤ 65536 := by have := h.few; omega
  have hmem := List.mem_of_getElem? hi
  have ok := h.ents en hmem
  have hi0 : (0 : Int) ≤ (i : Int) := by omega
  have hi1 : (i : Int) < (E.length : Int) := by omega
  have hin : ¬ (i : Int) < 0 := by omega
  have h0 := ok.n0
  have n0 : ¬ en.n < 0 := by omega
  have n1 : ¬ N ≤ en.n := by omega
  obtain ⟨ad0, cap, hlv, hgd⟩ := h.form
  obtain ⟨g, rfl⟩ := hgd (by omega)
  subst hlv
  have ap := h.apart' hmem
  obtain ⟨q0, q1, _, q3⟩ := h.at rfl i en hi
  have z1 := h.frz rfl (i * 4 + 1)
  have dA := h.alloc (.cells #[] 5)
  have c1A := dA.cell1
  obtain ⟨_, q1A, _⟩ := dA.at rfl i en hi
  have zA := dA.frz rfl (i * 4 + 1)
  go_enter Try.func34, Try.ntmps34
  go_wp2_with (first
    | (go_at_call 52; refine (rfind_at h i en hi).mono ?_; rintro e w1 ⟨rfl, rfl⟩)
    | go_in)
  go_region_held3 (fun w' => w'.cell? ⟨r, 1, none⟩ = some (.slice (some ⟨g, 0, none⟩) E.length cap) ∧ w'.frozen? ⟨g, i * 4 + 1, none⟩ = false) (first | exact ⟨c1, z1⟩ | exact ⟨c1A, zA⟩ | exact ⟨c1B, zB⟩ | exact ⟨d5.cell1, d5.frz (by simp) _⟩)
    ((refine step_app512 (by rfl) _ _ (by rfl) w w.heap.size (by rfl) ((own_empty w).kept (Fr.refl [] _).drew) ad c l (by rfl) hl (hsrc.kept ((Fr.refl [] w).alloc _).drew (by simp)) ?_; intro g2 c2 w2 b2 f2 hg2 hlt2; have dB := h.kept f2 (by simp); have c1B := dB.cell1; have q1B := (dB.at rfl i en hi).2.1; have zB := dB.frz rfl (i * 4 + 1); have okB := dB.ents en hmem; have d5 := dB.put rfl i en (en.putL g2 c2 l) hi rfl ⟨hl, okB.s5, b2, okB.sb, okB.n0, okB.n1⟩ ⟨by have := h.lt; show g2 ≠ r; omega, ap.2.1, by have := (h.row.lt g rfl).2; show g ≠ g2; omega, ap.2.2.2⟩ (i * 4 + 1) _ (ecells_putL _ _ _ _ _ _ hi)))
  have f5 : Fr [g] w2 (w2.setCell ⟨g, i * 4 + 1, none⟩ (.slice (some ⟨g2, 0, none⟩) 512 c2)) := (Fr.refl _ _).setCell _ _ (by simp)
  generalize w2.setCell ⟨g, i * 4 + 1, none⟩ (.slice (some ⟨g2, 0, none⟩) 512 c2) = w5 at d5 f5
  have hat5 := set_at hi (en.putL g2 c2 l)
  have ok5 := d5.ents _ (List.mem_of_getElem? hat5)
  have ap5 := d5.apart' (List.mem_of_getElem? hat5)
  have c5 := d5.cell1
  have z5 := d5.frz (by simp) (i * 4 + 3)
  obtain ⟨_, _, _, q5⟩ := d5.at (by simp) i _ hat5
  have d6 := d5.put (by simp) i _ (en.write g2 c2 l) hat5 rfl ⟨ok5.l5, ok5.s5, ok5.lb, ok5.sb, ok5.n0, ok5.n1⟩ ap5 (i * 4 + 3) (.bool true) (ecells_putO _ _ _ _ hat5)
  rw [List.set_set] at d6
  have f6 := (f5.setCell ⟨g, i * 4 + 3, none⟩ (.bool true) (by simp))
  clear c0 c1 c3 q0 q1 q3 z1 dA c1A q1A zA c1B q1B zB okB dB hi hat5
  have fin : ∀ w7, Fr [r] (w5.setCell ⟨g, i * 4 + 3, none⟩ (.bool true)) w7 → Fr (r :: (Value.slice (some ⟨g, 0, none⟩) E.length cap).ownBlock.toList) w w7 := fun w7 f7 =>
    ((f2.mono (M := r :: (Value.slice (some ⟨g, 0, none⟩) E.length cap).ownBlock.toList) (by simp)).then f6 (fun i _ hm => by simp at hm; simp [Value.ownBlock, hm])).then f7 (fun i _ hm => by simp at hm; simp [hm])
  cases hc : crash a
  · go_wp2_with (go_at_call 53; refine (rcrashes d6).mono ?_; rw [hc]; rintro e w7 ⟨rfl, d7, f7⟩)
    go_ret
    exact ⟨by rw [hc]; rfl, ⟨g2, c2, by rw [hc]; exact d7, hg2⟩, fin _ f7⟩
  · go_wp2_with (go_at_call 53; refine (rcrashes d6).mono ?_; rw [hc]; rintro e w7 ⟨rfl, d7, f7⟩)
    go_ret
    exact ⟨by rw [hc]; rfl, ⟨g2, c2, by rw [hc]; exact d7, hg2⟩, fin _ f7⟩

end Go.Proofs.Ytkenkgfohgmpnaa
