/-
  The document's device: Sync.
-/
import Derived.Test.YtkenkgfohgmpnaaFind
namespace Go.Proofs.Ytkenkgfohgmpnaa
open Go.RowKit Go.Maps

def Ent.putL (e : Ent) (g c : Nat) (l : List UInt8) : Ent := { e with lg := g, lc := c, l := l }
def Ent.putS (e : Ent) (g c : Nat) (l : List UInt8) : Ent := { e with sg := g, sc := c, s := l }
def Ent.putO (e : Ent) (b : Bool) : Ent := { e with o := b }

theorem ecells_putL : ∀ (E : List Ent) (i : Nat) (e : Ent) (g c : Nat) (l : List UInt8), E[i]? = some e → (ecells E).set (i * 4 + 1) (.slice (some ⟨g, 0, none⟩) 512 c) = ecells (E.set i (e.putL g c l))
  | [], i, e, g, c, l, h => by simp at h
  | f :: E, 0, e, g, c, l, h => by simp at h; subst h; simp [ecells, ecell, Ent.putL]
  | f :: E, i + 1, e, g, c, l, h => by
    have := ecells_putL E i e g c l (by simpa using h)
    have e1 : (i + 1) * 4 + 1 = i * 4 + 1 + 1 + 1 + 1 + 1 := by omega
    rw [e1]
    simpa [ecells, ecell] using this
theorem ecells_putS : ∀ (E : List Ent) (i : Nat) (e : Ent) (g c : Nat) (l : List UInt8), E[i]? = some e → (ecells E).set (i * 4 + 2) (.slice (some ⟨g, 0, none⟩) 512 c) = ecells (E.set i (e.putS g c l))
  | [], i, e, g, c, l, h => by simp at h
  | f :: E, 0, e, g, c, l, h => by simp at h; subst h; simp [ecells, ecell, Ent.putS]
  | f :: E, i + 1, e, g, c, l, h => by
    have := ecells_putS E i e g c l (by simpa using h)
    have e1 : (i + 1) * 4 + 2 = i * 4 + 2 + 1 + 1 + 1 + 1 := by omega
    rw [e1]
    simpa [ecells, ecell] using this
theorem ecells_putO : ∀ (E : List Ent) (i : Nat) (e : Ent) (b : Bool), E[i]? = some e → (ecells E).set (i * 4 + 3) (.bool b) = ecells (E.set i (e.putO b))
  | [], i, e, b, h => by simp at h
  | f :: E, 0, e, b, h => by simp at h; subst h; simp [ecells, ecell, Ent.putO]
  | f :: E, i + 1, e, b, h => by
    have := ecells_putO E i e b (by simpa using h)
    have e1 : (i + 1) * 4 + 3 = i * 4 + 3 + 1 + 1 + 1 + 1 := by omega
    rw [e1]
    simpa [ecells, ecell] using this

/-- A store into the row. -/
theorem RDev.put {w : World} {r g c m : Nat} {N a : Int} {off : Bool} {E : List Ent} (h : RDev w r (.slice (some ⟨g, 0, none⟩) m c) N a off E) (hm : m = E.length) (i : Nat) (e e' : Ent) (hi : E[i]? = some e) (hn : e'.n = e.n) (ok : EntOk w e')
    (ap : e'.lg ≠ r ∧ e'.sg ≠ r ∧ g ≠ e'.lg ∧ g ≠ e'.sg) (j : Nat) (v : Value) (hset : (ecells E).set j v = ecells (E.set i e')) :
    RDev (w.setCell ⟨g, j, none⟩ v) r (.slice (some ⟨g, 0, none⟩) m c) N a off (E.set i e') := by
  subst hm
  have hlt := (List.getElem?_eq_some_iff.1 hi).1
  have fr : Fr [g] w (w.setCell ⟨g, j, none⟩ v) := (Fr.refl _ _).setCell _ _ (by simp)
  have hgr : g ≠ r := by rintro rfl; exact h.ne rfl
  have hst := (h.row.stored j v).1
  rw [hset] at hst
  have hmem : ∀ x ∈ E.set i e', x ∈ E ∨ x = e' := fun x hx => List.mem_or_eq_of_mem_set hx
  have hmap : (E.set i e').map Ent.n = E.map Ent.n := by
    rw [List.map_set, hn]
    apply List.ext_getElem?
    intro q
    rw [List.getElem?_set]
    split
    · rename_i hq
      subst hq
      rw [List.getElem?_map, hi]
      simp [hlt]
    · rfl
  refine ⟨fr.same (by simpa using hgr.symm) h.cells, by simpa using hst, fun x hx => ?_, fun x hx => ?_, h.ne, by rw [hmap]; exact h.nd, h.n1, h.n2, h.a1, h.a2⟩
  · rcases hmem x hx with hx | rfl
    · exact (h.ents x hx).kept fr (by simp; rintro rfl; exact (h.apart x hx).2.2.1 rfl) (by simp; rintro rfl; exact (h.apart x hx).2.2.2 rfl)
    · exact ok.kept fr (by simpa using Ne.symm ap.2.2.1) (by simpa using Ne.symm ap.2.2.2)
  · rcases hmem x hx with hx | rfl
    · exact h.apart x hx
    · exact ⟨ap.1, ap.2.1, by simpa [Value.ownBlock] using ap.2.2.1, by simpa [Value.ownBlock] using ap.2.2.2⟩

theorem RDev.apart' {w : World} {r g c : Nat} {n : Nat} {N a : Int} {off : Bool} {E : List Ent} (h : RDev w r (.slice (some ⟨g, 0, none⟩) n c) N a off E) {e : Ent} (he : e ∈ E) : e.lg ≠ r ∧ e.sg ≠ r ∧ g ≠ e.lg ∧ g ≠ e.sg := by
  obtain ⟨h1, h2, h3, h4⟩ := h.apart e he
  exact ⟨h1, h2, by simpa [Value.ownBlock] using h3, by simpa [Value.ownBlock] using h4⟩

/-- Behind a Sync of the first i. -/
def Ent.sync (e : Ent) : Ent := { e with sg := e.lg, sc := e.lc, s := e.l, o := false }
def syncTo (E : List Ent) (i : Nat) : List Ent := (E.take i).map Ent.sync ++ E.drop i
theorem syncTo_zero (E : List Ent) : syncTo E 0 = E := by simp [syncTo]
theorem syncTo_all (E : List Ent) : syncTo E E.length = E.map Ent.sync := by simp [syncTo]
theorem syncTo_length (E : List Ent) (i : Nat) : (syncTo E i).length = E.length := by simp [syncTo]; omega
theorem syncTo_at (E : List Ent) (i : Nat) (h : i < E.length) : (syncTo E i)[i]? = some E[i] := by
  have : min i E.length = i := by omega
  rw [syncTo, List.getElem?_append_right (by simp; omega)]
  simp [this, h]
theorem syncTo_succ (E : List Ent) (i : Nat) (h : i < E.length) : syncTo E (i + 1) = (syncTo E i).set i E[i].sync := by
  have hm : min i E.length = i := by omega
  unfold syncTo
  rw [List.set_append_right _ _ (by simp; omega), List.take_add_one, List.getElem?_eq_getElem h]
  rw [List.drop_eq_getElem_cons h]
  simp only [List.map_append, List.length_map, List.length_take, hm, Nat.sub_self, List.set_cons_zero, Option.toList_some, List.map_cons, List.map_nil, List.append_assoc, List.cons_append, List.nil_append]

theorem set_at {E : List Ent} {i : Nat} {e : Ent} (h : E[i]? = some e) (e' : Ent) : (E.set i e')[i]? = some e' := by
  have hlt := (List.getElem?_eq_some_iff.1 h).1
  simp [hlt]
theorem RDev.drew {w : World} {r : Nat} {lv : Value} {N a : Int} {off : Bool} {E : List Ent} (h : RDev w r lv N a off E) : RDev w.drew r lv N a off E := h.kept (Fr.refl [] w).drew (by simp)
theorem RDev.frz {w : World} {r g c m : Nat} {N a : Int} {off : Bool} {E : List Ent} (h : RDev w r (.slice (some ⟨g, 0, none⟩) m c) N a off E) (hm : m = E.length) (j : Nat) : w.frozen? ⟨g, j, none⟩ = false := by
  subst hm
  exact h.row.frozenAt j

set_option maxHeartbeats 400000 in
theorem rsync_down {w : World} {r : Nat} {lv : Value} {N a : Int} {E : List Ent} (h : RDev w r lv N a true E) : Calls Try.prog 37 #[.pointer (some ⟨r, 0, none⟩)] w fun e w' => e = .returned (.int .i64 8) ∧ w = w' := by
  have c3 := h.cell3
  go_enter Try.func37, Try.ntmps37
  go_wp2
  go_ret
  exact ⟨rfl, rfl⟩

set_option maxHeartbeats 400000 in
theorem rsync_crash {w : World} {r : Nat} {lv : Value} {N a : Int} {E : List Ent} (h : RDev w r lv N a false E) (hc : crash a = true) :
    Calls Try.prog 37 #[.pointer (some ⟨r, 0, none⟩)] w fun e w' => e = .returned (.int .i64 8) ∧ RDev w' r lv N (left a) true E ∧ Fr [r] w w' := by
  have c3 := h.cell3
  go_enter Try.func37, Try.ntmps37
  go_wp2_with (go_at_call 53; refine (rcrashes h).mono ?_; rw [hc]; rintro e w1 ⟨rfl, d1, f1⟩)
  go_ret
  exact ⟨rfl, d1, f1⟩

set_option maxHeartbeats 2000000 in
set_option maxRecDepth 100000 in
theorem rsync_dev {w : World} {r : Nat} {lv : Value} {N a : Int} {E : List Ent} (h : RDev w r lv N a false E) (hc : crash a = false) :
    Calls Try.prog 37 #[.pointer (some ⟨r, 0, none⟩)] w fun e w' => e = .returned (.int .i64 0) ∧ RDev w' r lv N (left a) false (E.map Ent.sync) ∧ Fr (r :: lv.ownBlock.toList) w w' := by
  have c3 := h.cell3
  have hfew : (E.length : Int) ≤ 65536 := by have := h.few; omega
  obtain ⟨ad, cap, rfl, hgd⟩ := h.form
  go_enter Try.func37, Try.ntmps37
  go_wp2_with (go_at_call 53; refine (rcrashes h).mono ?_; rw [hc]; rintro e w1 ⟨rfl, d1, f1⟩)
  clear c3 h
  go_loopw [3] (fun i wr => ∃ j : Nat, j ≤ E.length ∧ i = .int .i64 j ∧ RDev wr r (.slice ad E.length cap) N (left a) false (syncTo E j) ∧ Fr (r :: (Value.slice ad E.length cap).ownBlock.toList) w wr) (fun i _ => E.length - (intOf i).toNat)
  case atStart => exact ⟨0, by omega, rfl, by rw [syncTo_zero]; exact d1, f1.mono (fun i _ hm => by simp at hm; simp [hm])⟩
  case round =>
    obtain ⟨j, hj, rfl, dj, fj⟩ := hrel
    have c1 := dj.cell1
    by_cases hlt : j < E.length
    · have hlt' : (j : Int) < (E.length : Int) := by omega
      have hj0 : (0 : Int) ≤ (j : Int) := by omega
      obtain ⟨g, rfl⟩ := hgd (by omega)
      have hat := syncTo_at E j hlt
      have hmem := List.mem_of_getElem? hat
      obtain ⟨q0, q1, _⟩ := dj.at (syncTo_length E j).symm j _ hat
      have z3 := dj.frz (syncTo_length E j).symm (j * 4 + 2)
      have ok := dj.ents _ hmem
      have ap := dj.apart' hmem
      have d5 := (dj.put (syncTo_length E j).symm j E[j] (E[j].putS E[j].lg E[j].lc E[j].l) hat rfl ⟨ok.l5, ok.l5, ok.lb, ok.lb, ok.n0, ok.n1⟩ ⟨ap.1, ap.1, ap.2.2.1, ap.2.2.1⟩ (j * 4 + 2) _ (ecells_putS _ _ _ _ _ _ hat)).drew
      have f5 : Fr [g] wr (wr.setCell ⟨g, j * 4 + 2, none⟩ (.slice (some ⟨E[j].lg, 0, none⟩) 512 E[j].lc)).drew := ((Fr.refl _ _).setCell _ _ (by simp)).drew
      have c1' := d5.cell1
      obtain ⟨_, q1', _, q3'⟩ := d5.at (by simp [syncTo_length]) j _ (set_at hat _)
      have z3' := d5.frz (by simp [syncTo_length]) (j * 4 + 2)
      go_wp2
      go_region_held3 (fun w' => w'.cell? ⟨r, 1, none⟩ = some (.slice (some ⟨g, 0, none⟩) E.length cap) ∧ w'.cell? ⟨g, j * 4 + 1, none⟩ = some (.slice (some ⟨E[j].lg, 0, none⟩) 512 E[j].lc) ∧ w'.frozen? ⟨g, j * 4 + 2, none⟩ = false) (first | exact ⟨c1, q1, z3⟩ | exact ⟨c1', q1', z3'⟩) (fail)
      generalize (wr.setCell ⟨g, j * 4 + 2, none⟩ (.slice (some ⟨E[j].lg, 0, none⟩) 512 E[j].lc)).drew = w5 at d5 c1' f5 q3'
      clear c1 q0 q1 z3 q1' z3'
      have hat5 := set_at hat (E[j].putS E[j].lg E[j].lc E[j].l)
      have z4 := d5.frz (by simp [syncTo_length]) (j * 4 + 3)
      have d6 := d5.put (by simp [syncTo_length]) j _ (E[j].sync) hat5 rfl ⟨ok.l5, ok.l5, ok.lb.kept f5 (fun b off he => by cases he; simpa using ap.2.2.1.symm), ok.lb.kept f5 (fun b off he => by cases he; simpa using ap.2.2.1.symm), ok.n0, ok.n1⟩ ⟨ap.1, ap.1, ap.2.2.1, ap.2.2.1⟩ (j * 4 + 3) (.bool false) (ecells_putO _ _ _ _ hat5)
      have f6 : Fr [g] wr (w5.setCell ⟨g, j * 4 + 3, none⟩ (.bool false)) := f5.setCell _ _ (by simp)
      clear hat hat5
      go_wp2
      refine ⟨⟨j + 1, by omega, by go_num, ?_, fj.trans (f6.mono (fun i _ hm => by simp at hm; simp [Value.ownBlock, hm]))⟩, by simp [intOf]; omega⟩
      rw [syncTo_succ E j hlt]
      rw [List.set_set] at d6
      exact d6
    · obtain rfl : j = E.length := by omega
      rw [syncTo_all] at dj
      go_wp2
      go_ret
      exact ⟨rfl, dj, fj⟩

end Go.Proofs.Ytkenkgfohgmpnaa
