/-
  PageCells: a page is a row of cells.
-/
import Derived.Test.YtlfpoeimgoikkaaGAwake
import Derived.Test.YtlfpoeimgoikkaaGPick
import Derived.Test.YtlfpoeimgoikkaaGRow
import Derived.Test.YtlfpoeimgoikkaaGDos
namespace Go.Proofs.Ytlfpoeimgoikkaa
open Go.RowKit Go.Maps

theorem one_val (w : World) (v : Value) : ValsAt (w.alloc (.cells #[v] 22)) (some ⟨w.heap.size, 0, none⟩) [v] := by
  intro j u hu
  cases j with
  | zero =>
    simp at hu
    subst hu
    exact ⟨_, 0, rfl, cell_of_row _ _ 0 _ _ _ (heap_alloc_new w _)⟩
  | succ j => simp at hu

/-- A cell that was put in, as the law keeps it. -/
structure Ent where
  ad : Option Addr
  n : Nat
  c : Nat
  l : List UInt8
def Ent.val (e : Ent) : Value := .slice e.ad e.n e.c
def Ent.ok (w : World) (e : Ent) : Prop := e.l.length = e.n ∧ BytesAt w e.ad e.l
def cellsE (E : List Ent) : List (List UInt8) := E.map Ent.l
def valsE (E : List Ent) : List Value := E.map Ent.val
theorem cellsE_length (E : List Ent) : (cellsE E).length = E.length := by simp [cellsE]
theorem valsE_length (E : List Ent) : (valsE E).length = E.length := by simp [valsE]
theorem valsE_one (E : List Ent) : ∀ u ∈ valsE E, u.oneCell' = true := by
  intro u hu
  simp [valsE] at hu
  obtain ⟨e, _, rfl⟩ := hu
  rfl
def insE (E : List Ent) (s : Nat) (e : Ent) : List Ent := E.take s ++ e :: E.drop s
def delE (E : List Ent) (s : Nat) : List Ent := E.take s ++ E.drop (s + 1)
theorem insE_cells (E : List Ent) (s : Nat) (e : Ent) : cellsE (insE E s e) = insC (cellsE E) s e.l := by simp [cellsE, insE, insC]
theorem insE_vals (E : List Ent) (s : Nat) (e : Ent) : valsE (insE E s e) = (valsE E).take s ++ [e.val] ++ (valsE E).drop s := by simp [valsE, insE]
theorem delE_cells (E : List Ent) (s : Nat) : cellsE (delE E s) = delC (cellsE E) s := by simp [cellsE, delE, delC]
theorem delE_vals (E : List Ent) (s : Nat) : valsE (delE E s) = (valsE E).take s ++ (valsE E).drop (s + 1) := by simp [valsE, delE]
theorem insE_ok {w : World} {E : List Ent} {s : Nat} {e : Ent} (h : ∀ x ∈ E, x.ok w) (he : e.ok w) : ∀ x ∈ insE E s e, x.ok w := by
  intro x hx
  simp only [insE, List.mem_append, List.mem_cons] at hx
  rcases hx with hx | rfl | hx
  · exact h x (List.mem_of_mem_take hx)
  · exact he
  · exact h x (List.mem_of_mem_drop hx)
theorem delE_ok {w : World} {E : List Ent} {s : Nat} (h : ∀ x ∈ E, x.ok w) : ∀ x ∈ delE E s, x.ok w := by
  intro x hx
  simp only [delE, List.mem_append] at hx
  rcases hx with hx | hx
  · exact h x (List.mem_of_mem_take hx)
  · exact h x (List.mem_of_mem_drop hx)
theorem cellsE_at (E : List Ent) (i : Nat) (h : i < E.length) : (cellsE E)[i]'(by rw [cellsE_length]; exact h) = E[i].l := by simp [cellsE]

/-- A change, in a box. -/
def BoxX (w : World) (b : Nat) (dop dslot dnext : Int) (ca : Option Addr) (cl cc : Nat) : Prop := w.heap[b]? = some (.cells #[.int .i64 dop, .int .i64 dslot, .int .i64 dnext, .slice ca cl cc] 34)
theorem BoxX.kept {w w' : World} {b : Nat} {dop dslot dnext : Int} {ca : Option Addr} {cl cc : Nat} {L : List Nat} (h : BoxX w b dop dslot dnext ca cl cc) (k : Fr L w w') (hb : b ∉ L) : BoxX w' b dop dslot dnext ca cl cc := k.same hb h
theorem BoxX.c0 {w : World} {b : Nat} {dop dslot dnext : Int} {ca : Option Addr} {cl cc : Nat} (h : BoxX w b dop dslot dnext ca cl cc) : w.cell? ⟨b, 0, none⟩ = some (.int .i64 dop) := cell_of_row w b 0 _ _ _ h
theorem BoxX.c1 {w : World} {b : Nat} {dop dslot dnext : Int} {ca : Option Addr} {cl cc : Nat} (h : BoxX w b dop dslot dnext ca cl cc) : w.cell? ⟨b, 1, none⟩ = some (.int .i64 dslot) := cell_of_row w b 1 _ _ _ h
theorem BoxX.c2 {w : World} {b : Nat} {dop dslot dnext : Int} {ca : Option Addr} {cl cc : Nat} (h : BoxX w b dop dslot dnext ca cl cc) : w.cell? ⟨b, 2, none⟩ = some (.int .i64 dnext) := cell_of_row w b 2 _ _ _ h
theorem BoxX.c3 {w : World} {b : Nat} {dop dslot dnext : Int} {ca : Option Addr} {cl cc : Nat} (h : BoxX w b dop dslot dnext ca cl cc) : w.cell? ⟨b, 3, none⟩ = some (.slice ca cl cc) := cell_of_row w b 3 _ _ _ h

/-- What is so behind each step: the page, the row of cells that the law keeps. -/
structure St (w wr : World) (k : UInt8) (g : Nat) (ad : Option Addr) (n cap : Nat) (E : List Ent) (nx : Nat) : Prop where
  page : RowB wr g 512 (pgB k nx (cellsE E))
  fits : elen (cellsE E) ≤ 506
  nx : nx < 4294967296
  own : OwnV 22 w wr ad n cap (valsE E)
  ok : ∀ x ∈ E, x.ok w
  new : w.heap.size ≤ g
theorem St.pg {w wr : World} {k : UInt8} {g : Nat} {ad : Option Addr} {n cap : Nat} {E : List Ent} {nx : Nat} (h : St w wr k g ad n cap E nx) : Pg (pgB k nx (cellsE E)) k nx (cellsE E) := ⟨rfl, h.fits, h.nx⟩
theorem St.len {w wr : World} {k : UInt8} {g : Nat} {ad : Option Addr} {n cap : Nat} {E : List Ent} {nx : Nat} (h : St w wr k g ad n cap E nx) : E.length = n := by have := h.own.len; rw [valsE_length] at this; exact this
theorem St.few {w wr : World} {k : UInt8} {g : Nat} {ad : Option Addr} {n cap : Nat} {E : List Ent} {nx : Nat} (h : St w wr k g ad n cap E nx) : n ≤ 253 := by have := h.pg.few; rw [cellsE_length, h.len] at this; exact this
theorem St.sl {w wr : World} {k : UInt8} {g : Nat} {ad : Option Addr} {n cap : Nat} {E : List Ent} {nx : Nat} (h : St w wr k g ad n cap E nx) : SlAt wr (some ⟨g, 0, none⟩) 512 512 (pgB k nx (cellsE E)) := by
  have := h.page.sl
  rw [h.pg.len] at this
  exact this
theorem St.kept {w wr wt : World} {k : UInt8} {g : Nat} {ad : Option Addr} {n cap : Nat} {E : List Ent} {nx : Nat} (h : St w wr k g ad n cap E nx) (f : Fr [] wr wt) : St w wt k g ad n cap E nx :=
  ⟨h.page.kept f (by simp), h.fits, h.nx, h.own.kept f, h.ok, h.new⟩
/-- No cell's row is the page. -/
theorem St.apart {w wr : World} {k : UInt8} {g : Nat} {ad : Option Addr} {n cap : Nat} {E : List Ent} {nx : Nat} (h : St w wr k g ad n cap E nx) (g2 : Nat) (e : ad = some ⟨g2, 0, none⟩) : g2 ≠ g := by
  intro h0
  subst h0
  obtain ⟨tl, hp, _⟩ := h.page
  rcases h.own.own.2 with ⟨hv, _⟩ | ⟨g', c, cur, hv, _, hg, _⟩
  · rw [e] at hv; cases hv
  · rw [e] at hv
    cases hv
    rw [hp] at hg
    cases hg
/-- The page is written anew: the rest is as it was. -/
theorem St.paged {w wr wt : World} {k : UInt8} {g : Nat} {ad : Option Addr} {n cap : Nat} {E : List Ent} {nx : Nat} (h : St w wr k g ad n cap E nx) (f : Fr [g] wr wt) : OwnV 22 w wt ad n cap (valsE E) ∧ Fr [] w wt := by
  have f0 : Fr [] w wt := h.own.fr.then f (fun i hi hm => by have := h.new; simp at hm; omega)
  exact ⟨h.own.keptL f (fun g2 e hm => h.apart g2 e (by simpa using hm)) f0, f0⟩
theorem St.roomEq {w wr : World} {k : UInt8} {g : Nat} {ad : Option Addr} {n cap : Nat} {E : List Ent} {nx : Nat} (h : St w wr k g ad n cap E nx) : (roomOf (pgB k nx (cellsE E)) : Int) = 506 - elen (cellsE E) := by
  unfold roomOf
  rw [h.pg.ok, h.pg.end]
  have := h.fits
  show ((512 - (6 + elen (cellsE E)) : Nat) : Int) = _
  omega
theorem St.kindEq {w wr : World} {k : UInt8} {g : Nat} {ad : Option Addr} {n cap : Nat} {E : List Ent} {nx : Nat} (h : St w wr k g ad n cap E nx) : kindOf (pgB k nx (cellsE E)) = k.toNat := by
  unfold kindOf
  rw [h.pg.ok, h.pg.kind]
  rfl
theorem St.nextEq {w wr : World} {k : UInt8} {g : Nat} {ad : Option Addr} {n cap : Nat} {E : List Ent} {nx : Nat} (h : St w wr k g ad n cap E nx) : nextOf (pgB k nx (cellsE E)) = nx := by
  unfold nextOf
  rw [h.pg.ok, h.pg.next]
  rfl
theorem St.cellsEq {w wr : World} {k : UInt8} {g : Nat} {ad : Option Addr} {n cap : Nat} {E : List Ent} {nx : Nat} (h : St w wr k g ad n cap E nx) : (cellsOf (pgB k nx (cellsE E))).length = n := by
  rw [cells_some h.pg.page, cellsE_length, h.len]


theorem st_ins {w WA w3 w6 : World} {k : UInt8} {g : Nat} {AD ad6 : Option Addr} {N CAP n6 cap6 NX S : Nat} {E : List Ent} {e : Ent} {xs : List Value} (h : St w WA k g AD N CAP E NX) (f3 : Fr [g] WA w3) (r3 : RowB w3 g 512 (pgB k NX (insC (cellsE E) S e.l)))
    (o6 : OwnV 22 w3 w6 ad6 n6 cap6 xs) (hx : xs = valsE (insE E S e)) (he : e.ok w) (hfit : elen (cellsE E) + 2 + e.n ≤ 506) : St w w6 k g ad6 n6 cap6 (insE E S e) NX := by
  subst hx
  refine ⟨?_, ?_, h.nx, o6.from (h.paged f3).2, insE_ok h.ok he, h.new⟩
  · rw [insE_cells]; exact r3.kept o6.fr (by simp)
  · rw [insE_cells, insC_elen, he.1]; exact hfit
theorem st_del {w WA w3 w6 : World} {k : UInt8} {g : Nat} {AD ad6 : Option Addr} {N CAP n6 cap6 NX S : Nat} {E : List Ent} {xs : List Value} (h : St w WA k g AD N CAP E NX) (f3 : Fr [g] WA w3) (r3 : RowB w3 g 512 (pgB k NX (delC (cellsE E) S)))
    (o6 : OwnV 22 w3 w6 ad6 n6 cap6 xs) (hx : xs = valsE (delE E S)) (hS : S < E.length) : St w w6 k g ad6 n6 cap6 (delE E S) NX := by
  subst hx
  refine ⟨?_, ?_, h.nx, o6.from (h.paged f3).2, delE_ok h.ok, h.new⟩
  · rw [delE_cells]; exact r3.kept o6.fr (by simp)
  · rw [delE_cells]
    have h1 := delC_elen (cellsE E) S (by rw [cellsE_length]; exact hS)
    have := h.fits
    omega
theorem st_next {w WA w3 : World} {k : UInt8} {g : Nat} {AD : Option Addr} {N CAP NX Y : Nat} {E : List Ent} (h : St w WA k g AD N CAP E NX) (f3 : Fr [g] WA w3) (r3 : RowB w3 g 512 (pgB k Y (cellsE E))) (hY : Y < 4294967296) : St w w3 k g AD N CAP E Y :=
  ⟨r3, h.fits, hY, (h.paged f3).1, h.ok, h.new⟩
theorem ValsAt.ifV {w : World} {g k c : Nat} {ys : List Value} (h : ValsAt w (some ⟨g, 0, none⟩) ys) (hc : c = k → ys.drop k = []) : ValsAt w (if c = k then some ⟨g, 0, none⟩ else some ⟨g, k, none⟩) (ys.drop k) := by
  split
  · next e => rw [hc e]; exact ValsAt.nil _ _
  · have := h.drop k
    rw [Nat.zero_add] at this
    exact this
theorem ifV_some {g k c : Nat} {P : Prop} (h : (if c = k then some (⟨g, 0, none⟩ : Addr) else some ⟨g, k, none⟩) = none) : P := by split at h <;> cases h

set_option maxHeartbeats 4000000 in
set_option maxRecDepth 100000 in
theorem cells_any (w : World) (k : UInt8) (X : Int) (hX : X = k.toNat) (ad : Option Addr) (L : List DoV) (len cap : Nat) (hlen : L.length = len) (hshort : len ≤ 120) (hD : DosAt w ad L) :
    Calls Try.prog 7 #[.int .u8 X, .slice ad len cap] w fun e w' => e = .returned (.bool true) ∧ Fr [] w w' := by
  have HX : Hid (X = (k.toNat : Int)) := hX
  have HLn : Hid (L.length = len) := hlen
  clear hX hlen
  have hs' : ¬ (120 : Int) < len := by omega
  go_enter Try.func7, Try.ntmps7
  go_wp2_with fail
  refine (awake_any _).mono ?_
  rintro e w1 ⟨rfl, f1⟩
  go_wp2_with fail
  refine (new_anyI _ k X HX.out).mono ?_
  rintro e w2 ⟨g, rfl, b2, hg2, f2⟩
  go_wp2_with fail
  go_loopw [6, 7, 8, 9] (fun cv rv nv iv wr => ∃ (j : Nat) (AD : Option Addr) (N CAP : Nat) (E : List Ent) (NX : Nat), j ≤ len ∧ iv = .int .i64 j ∧ cv = .slice AD N CAP ∧ rv = .int .i64 (506 - (elen (cellsE E) : Int)) ∧ nv = .int .i64 NX ∧ St w wr k g AD N CAP E NX) (fun _ _ _ iv _ => len - (intOf iv).toNat)
  case atStart => exact ⟨0, none, 0, 0, [], 0, by omega, rfl, rfl, rfl, rfl, ⟨b2.row, by decide, by decide, OwnV.nil (f1.trans f2), (fun x hx => nomatch hx), Nat.le_trans f1.size hg2⟩⟩
  case round =>
    obtain ⟨j, AD, N, CAP, E, NX, hj, rfl, rfl, rfl, rfl, st⟩ := hrel
    have ST : Hid (St w wr k g AD N CAP E NX) := st
    clear st
    by_cases hjl : j < len
    · have hjl' : (j : Int) < len := by omega
      obtain ⟨d, hd⟩ : ∃ d, L[j]? = some d := ⟨_, List.getElem?_eq_getElem (by rw [HLn.out]; exact hjl)⟩
      have hDOK := (hD j d hd).1
      obtain ⟨dok, db, doff, rfl, c0, c1, c2, c3⟩ := (hD.kept ST.out.own.fr) j d hd
      obtain ⟨dop, dslot, dnext, ca, cl, cc, C⟩ := d
      have c0' : wr.cell? ⟨db, doff + j * 4, none⟩ = some (.int .i64 dop) := c0
      have c1' : wr.cell? ⟨db, doff + j * 4 + 1, none⟩ = some (.int .i64 dslot) := c1
      have c2' : wr.cell? ⟨db, doff + j * 4 + 2, none⟩ = some (.int .i64 dnext) := c2
      have c3' : wr.cell? ⟨db, doff + j * 4 + 3, none⟩ = some (.slice ca cl cc) := c3
      clear c0 c1 c2 c3 hd
      have DOK : Hid (DoOk wr ⟨dop, dslot, dnext, ca, cl, cc, C⟩) := dok
      have hcl : cl < 9223372036854775808 := dok.short
      clear dok
      by_cases hbig : 5000 < cl
      · have hbig' : (5000 : Int) < cl := by omega
        go_wp2_with fail
        go_ret
        exact ⟨rfl, ST.out.own.fr.alloc _⟩
      · have hbig' : ¬ (5000 : Int) < cl := by omega
        go_wp2_with fail
        have hop : (Lit.int .i64 dop).wf = true := DOK.out.op
        refine (pick_any _ dop 5 hop (by omega) (by omega)).mono ?_
        rintro e wp ⟨rfl, rfl⟩
        have FA := (Fr.refl [] wr).alloc (.cells #[.int .i64 dop, .int .i64 dslot, .int .i64 dnext, .slice ca cl cc] 34)
        have xb0 := heap_alloc_new wr (.cells #[.int .i64 dop, .int .i64 dslot, .int .i64 dnext, .slice ca cl cc] 34)
        have hgx : g < wr.heap.size := ST.out.page.lt
        generalize wr.alloc (.cells #[.int .i64 dop, .int .i64 dslot, .int .i64 dnext, .slice ca cl cc] 34) = WA at FA xb0 ⊢
        generalize wr.heap.size = xb at xb0 hgx ⊢
        have XB : Hid (BoxX WA xb dop dslot dnext ca cl cc) := xb0
        clear xb0 c0' c1' c2' c3'
        replace ST : Hid (St w WA k g AD N CAP E NX) := ST.out.kept FA
        replace DOK : Hid (DoOk w ⟨dop, dslot, dnext, ca, cl, cc, C⟩) := hDOK
        obtain ⟨M, HM⟩ : ∃ M : Int, Hid (dop % 5 = M) := ⟨_, rfl⟩
        have hM0 : 0 ≤ M := by have := HM.out; omega
        have hM5 : M < 5 := by have := HM.out; omega
        rw [HM.out]
        have hN := ST.out.few
        have x0 := XB.out.c1
        have x1 := XB.out.c2
        have x2 := XB.out.c3
        clear FA
        by_cases hM : M ≤ 2
        · have m3 : ((M == 3) = false) := by simp; omega
          go_wp2_with fail
          all_goals
            as_aux_lemma =>
              have hslot : (Lit.int .i64 dslot).wf = true := DOK.out.slot
              refine (pick_any _ dslot ((N : Int) + 1) hslot (by omega) (by omega)).mono ?_
              rintro e WA ⟨rfl, rfl⟩
              obtain ⟨S, hS, hSN⟩ : ∃ S : Nat, dslot % ((N : Int) + 1) = (S : Int) ∧ S ≤ N := by
                have h1 := Int.emod_nonneg dslot (show ((N : Int) + 1) ≠ 0 by omega)
                have h2 := Int.emod_lt_of_pos dslot (show 0 < ((N : Int) + 1) by omega)
                exact ⟨(dslot % ((N : Int) + 1)).toNat, by omega, by omega⟩
              rw [hS]
              clear hS
              have hfits := ST.out.fits
              have hEl := ST.out.len
              go_wp2_with fail
              by_cases hfit : elen (cellsE E) + 2 + cl ≤ 506
              · refine (insert_ok _ g 512 _ k NX (cellsE E) S ca cl cc C ST.out.page ST.out.pg (by rw [cellsE_length]; omega) DOK.out.cell.len (DOK.out.cell.bytes.kept ST.out.own.fr (by simp)) (by omega)).mono ?_
                rintro e w3 ⟨rfl, r3, f3⟩
                obtain ⟨own3, fr3⟩ := ST.out.paged f3
                have XB3 : Hid (BoxX w3 xb dop dslot dnext ca cl cc) := XB.out.kept f3 (by simp; omega)
                have x3 := XB3.out.c3
                have y1 : (cl : Int) + 2 ≤ 506 - (elen (cellsE E) : Int) := by omega
                have y2 : (N : Int) < 255 := by omega
                clear x0 x1 x2
                have hEok : (Ent.mk ca cl cc C).ok w := ⟨DOK.out.cell.len, DOK.out.cell.bytes⟩
                rcases ST.out.own.shape with ⟨rfl, hN0, hC0, hE0⟩ | ⟨gc, rfl, hNC, hgc0, hgc1⟩
                · subst hN0 hC0
                  obtain rfl : S = 0 := by omega
                  obtain rfl : E = [] := List.eq_nil_of_length_eq_zero hEl
                  clear hE0
                  go_wp2_with (first
                    | (refine wp_appV rfl _ _ rfl w3 none 0 0 [] rfl (OwnV.nil (Fr.refl _ _)) none 0 0 [] rfl rfl (ValsAt.nil _ _) (by simp) (by omega) (fun _ => ⟨rfl, rfl⟩) ?_; intro ad4 cap4 w4 o4; have x4 := (XB3.out.kept o4.fr (by simp)).c3)
                    | (refine wp_appV rfl _ _ rfl w3 ad4 _ cap4 _ rfl (o4.kept ((Fr.refl [] _).alloc _)) _ 1 _ [.slice ca cl cc] rfl rfl (one_val _ _) (by simp [Value.oneCell']) (by omega) (fun e => nomatch e) ?_; intro ad5 cap5 w5 o5)
                    | (refine wp_appV rfl _ _ rfl w3 ad5 _ cap5 _ rfl o5 none 0 0 [] rfl rfl (ValsAt.nil _ _) (by simp) (by omega) (fun _ => ⟨rfl, rfl⟩) ?_; intro ad6 cap6 w6 o6; have x6 := (XB3.out.kept o6.fr (by simp)).c3)
                    | fail)
                  obtain ⟨R, HR0⟩ : ∃ R : Int, Hid (506 - (elen (cellsE []) : Int) - 2 - cl = R) := ⟨_, rfl⟩
                  rw [HR0.out]
                  obtain ⟨E2, HE2⟩ : ∃ E2, Hid (insE [] 0 ⟨ca, cl, cc, C⟩ = E2) := ⟨_, rfl⟩
                  obtain ⟨N2, HN2⟩ : ∃ N2 : Nat, Hid (1 = N2) := ⟨_, rfl⟩
                  rw [HN2.out]
                  have ST2 : Hid (St w w6 k g ad6 N2 cap6 E2 NX) := by
                    have := st_ins (S := 0) (e := ⟨ca, cl, cc, C⟩) ST.out f3 r3 o6 rfl hEok hfit
                    rw [HE2.out] at this
                    rw [← HN2.out]
                    exact this
                  have HR : Hid (R = 506 - (elen (cellsE E2) : Int)) := by
                    show R = _
                    rw [← HR0.out, ← HE2.out, insE_cells, insC_elen]
                    have h1 : C.length = cl := DOK.out.cell.len
                    show (506 - (elen (cellsE []) : Int) - 2 - cl) = 506 - ((elen (cellsE []) + 2 + C.length : Nat) : Int)
                    omega
                  clear x3 x4 x6 o4 o5 o6 HR0 HE2 HN2 y1 y2 own3 fr3 r3 f3 XB3 XB hEok hfit ST
                  as_aux_lemma =>
                    have sT := ST2.out
                    have kb : (((kindOf (pgB k NX (cellsE E2)) : Nat) : Int) != X) = false := by rw [sT.kindEq, HX.out]; simp
                    have cb : ((((cellsOf (pgB k NX (cellsE E2))).length : Nat) : Int) != (N2 : Int)) = false := by rw [sT.cellsEq]; simp
                    have rb : (((roomOf (pgB k NX (cellsE E2)) : Nat) : Int) != R) = false := by rw [sT.roomEq, HR.out]; simp
                    have nb : (((nextOf (pgB k NX (cellsE E2)) : Nat) : Int) != (NX : Int)) = false := by rw [sT.nextEq]; simp
                    have hsl := sT.sl
                    have hok := sT.pg.ok
                    refine (check_any _ _ _ _ _ hsl).mono ?_
                    rintro e w6 ⟨rfl, rfl⟩
                    rw [hok]
                    go_wp2_with fail
                    refine (kind_any _ _ _ _ _ hsl).mono ?_
                    rintro e w6 ⟨rfl, rfl⟩
                    go_wp2_with fail
                    refine (count_any _ _ _ _ _ hsl).mono ?_
                    rintro e w6 ⟨rfl, rfl⟩
                    go_wp2_with fail
                    refine (room_any _ _ _ _ _ hsl).mono ?_
                    rintro e w6 ⟨rfl, rfl⟩
                    go_wp2_with fail
                    refine (next_any _ _ _ _ _ hsl).mono ?_
                    rintro e w6 ⟨rfl, rfl⟩
                    go_wp2_with fail
                    clear kb cb rb nb hok hsl
                    have hN := sT.few
                    clear sT
                    go_loopw [16] (fun i wr => ∃ t : Nat, t ≤ N2 ∧ i = .int .i64 t ∧ Fr [] w6 wr) (fun i _ => N2 - (intOf i).toNat)
                    case atStart => exact ⟨0, by omega, rfl, Fr.refl _ _⟩
                    case round =>
                      obtain ⟨t, ht, rfl, fi⟩ := hrel
                      by_cases hlt : t < N2
                      · have hlt' : (t : Int) < N2 := by omega
                        have s2 := ST2.out.kept fi
                        have hEl := s2.len
                        have hte : t < E2.length := by omega
                        obtain ⟨ba, bo, hAD, hcell⟩ := s2.own.vals t E2[t].val (by simp [valsE, hte])
                        have hbe := s2.ok E2[t] (List.getElem_mem _)
                        have hc1 := cellsE_at E2 t hte
                        clear s2 hEl
                        generalize E2[t] = e at hcell hbe hc1
                        obtain ⟨ea, en, ec, el⟩ := e
                        subst hAD
                        have hcell' : wr.cell? ⟨ba, bo + t, none⟩ = some (.slice ea en ec) := hcell
                        clear hcell
                        obtain ⟨hen, heb⟩ := hbe
                        have hen' : el.length = en := hen
                        have heb' : BytesAt w ea el := heb
                        have HEN : Hid (el.length = en) := hen'
                        clear hen heb hen'
                        have hm3 : en ≤ 506 := by
                          have h1 := ST2.out.fits
                          have h2 := delC_elen (cellsE E2) t (by rw [cellsE_length]; exact hte)
                          rw [hc1] at h2
                          have := HEN.out
                          have h3 : (({ ad := ea, n := en, c := ec, l := el } : Ent).l).length = el.length := rfl
                          omega
                        go_wp2_with fail
                        refine (get_yesI _ g 0 512 t t rfl _ k NX (cellsE E2) el en (ST2.out.kept fi).pg ⟨(ST2.out.kept fi).pg.len, (ST2.out.kept fi).page.bytes, by omega⟩ (by rw [cellsE_length]; exact hte) hc1 HEN.out).mono ?_
                        rintro e w5 ⟨b, rfl, b5, hb5, f5⟩
                        have q5 := (World.cell?_of_block (f5.block ba (block_lt_of_cell hcell') (by simp))).trans hcell'
                        clear hcell' hc1
                        go_wp2_with fail
                        refine (same_any _ _ _ el el en _ _ b5.bytes (heb'.kept ((ST2.out.own.fr.trans fi).trans f5) (by simp)) HEN.out HEN.out (by omega)).mono ?_
                        rintro e w6 ⟨rfl, f6⟩
                        rw [show (el == el) = true by simp]
                        go_wp2_with fail
                        exact ⟨⟨t + 1, by omega, by go_num, (fi.trans f5).trans f6⟩, by simp [intOf]; omega⟩
                      · obtain rfl : t = N2 := by omega
                        go_wp2_with fail
                        refine ⟨⟨j + 1, ad6, t, cap6, E2, NX, by omega, by go_num, rfl, ?_, rfl, ST2.out.kept fi⟩, by simp [intOf]; omega⟩
                        rw [HR.out]
                · have z1 : (S : Int) ≤ CAP := by omega
                  have z2 : (S : Int) ≤ N := by omega
                  have hvl := valsE_length E
                  obtain ⟨dp, hdp, HDP⟩ : ∃ dp : Option Addr, (if CAP = S then some (⟨gc, 0, none⟩ : Addr) else some ⟨gc, S, none⟩) = dp ∧ Hid (ValsAt w3 dp ((valsE E).drop S) ∧ (dp = none → False)) := by
                    refine ⟨_, rfl, own3.vals.ifV (fun e => List.eq_nil_of_length_eq_zero (by rw [List.length_drop, hvl]; omega)), fun e => ifV_some e⟩
                  go_wp2_with (first
                    | (refine wp_appV rfl _ _ rfl w3 none 0 0 [] rfl (OwnV.nil (Fr.refl _ _)) _ S _ ((valsE E).take S) rfl (by rw [List.length_take, hvl]; omega) (own3.vals.take S) (fun u hu => valsE_one E u (List.mem_of_mem_take hu)) (by omega) (fun e => nomatch e) ?_; intro ad4 cap4 w4 o4; rw [Nat.zero_add, List.nil_append] at o4; have x4 := (XB3.out.kept o4.fr (by simp)).c3)
                    | (refine wp_appV rfl _ _ rfl w3 ad4 _ cap4 _ rfl (o4.kept ((Fr.refl [] _).alloc _)) _ 1 _ [.slice ca cl cc] rfl rfl (one_val _ _) (by simp [Value.oneCell']) (by omega) (fun e => nomatch e) ?_; intro ad5 cap5 w5 o5)
                    | (refine wp_appV rfl _ _ rfl w3 ad5 _ cap5 _ rfl o5 _ (N - S) _ ((valsE E).drop S) rfl (by rw [List.length_drop, hvl]; omega) (HDP.out.1.kept o5.fr (by simp)) (fun u hu => valsE_one E u (List.mem_of_mem_drop hu)) (by omega) (fun e => absurd e HDP.out.2) ?_; intro ad6 cap6 w6 o6; have x6 := (XB3.out.kept o6.fr (by simp)).c3)
                    | fail)
                  obtain ⟨R, HR0⟩ : ∃ R : Int, Hid (506 - (elen (cellsE E) : Int) - 2 - cl = R) := ⟨_, rfl⟩
                  rw [HR0.out]
                  obtain ⟨E2, HE2⟩ : ∃ E2, Hid (insE E S ⟨ca, cl, cc, C⟩ = E2) := ⟨_, rfl⟩
                  obtain ⟨N2, HN2⟩ : ∃ N2 : Nat, Hid (S + 1 + (N - S) = N2) := ⟨_, rfl⟩
                  rw [HN2.out]
                  have ST2 : Hid (St w w6 k g ad6 N2 cap6 E2 NX) := by
                    have := st_ins (S := S) (e := ⟨ca, cl, cc, C⟩) ST.out f3 r3 o6 (by rw [insE_vals]; rfl) hEok hfit
                    rw [HE2.out] at this
                    rw [← HN2.out]
                    exact this
                  have HR : Hid (R = 506 - (elen (cellsE E2) : Int)) := by
                    show R = _
                    rw [← HR0.out, ← HE2.out, insE_cells, insC_elen]
                    have h1 : C.length = cl := DOK.out.cell.len
                    show (506 - (elen (cellsE E) : Int) - 2 - cl) = 506 - ((elen (cellsE E) + 2 + C.length : Nat) : Int)
                    omega
                  clear hdp HDP x3 x4 x6 o4 o5 o6 HR0 HE2 HN2 y1 y2 z1 z2 hvl own3 fr3 r3 f3 XB3 XB hEok hfit ST hNC hgc0 hgc1 hEl hfits hSN
                  as_aux_lemma =>
                    have sT := ST2.out
                    have kb : (((kindOf (pgB k NX (cellsE E2)) : Nat) : Int) != X) = false := by rw [sT.kindEq, HX.out]; simp
                    have cb : ((((cellsOf (pgB k NX (cellsE E2))).length : Nat) : Int) != (N2 : Int)) = false := by rw [sT.cellsEq]; simp
                    have rb : (((roomOf (pgB k NX (cellsE E2)) : Nat) : Int) != R) = false := by rw [sT.roomEq, HR.out]; simp
                    have nb : (((nextOf (pgB k NX (cellsE E2)) : Nat) : Int) != (NX : Int)) = false := by rw [sT.nextEq]; simp
                    have hsl := sT.sl
                    have hok := sT.pg.ok
                    refine (check_any _ _ _ _ _ hsl).mono ?_
                    rintro e w6 ⟨rfl, rfl⟩
                    rw [hok]
                    go_wp2_with fail
                    refine (kind_any _ _ _ _ _ hsl).mono ?_
                    rintro e w6 ⟨rfl, rfl⟩
                    go_wp2_with fail
                    refine (count_any _ _ _ _ _ hsl).mono ?_
                    rintro e w6 ⟨rfl, rfl⟩
                    go_wp2_with fail
                    refine (room_any _ _ _ _ _ hsl).mono ?_
                    rintro e w6 ⟨rfl, rfl⟩
                    go_wp2_with fail
                    refine (next_any _ _ _ _ _ hsl).mono ?_
                    rintro e w6 ⟨rfl, rfl⟩
                    go_wp2_with fail
                    clear kb cb rb nb hok hsl
                    have hN := sT.few
                    clear sT
                    go_loopw [16] (fun i wr => ∃ t : Nat, t ≤ N2 ∧ i = .int .i64 t ∧ Fr [] w6 wr) (fun i _ => N2 - (intOf i).toNat)
                    case atStart => exact ⟨0, by omega, rfl, Fr.refl _ _⟩
                    case round =>
                      obtain ⟨t, ht, rfl, fi⟩ := hrel
                      by_cases hlt : t < N2
                      · have hlt' : (t : Int) < N2 := by omega
                        have s2 := ST2.out.kept fi
                        have hEl := s2.len
                        have hte : t < E2.length := by omega
                        obtain ⟨ba, bo, hAD, hcell⟩ := s2.own.vals t E2[t].val (by simp [valsE, hte])
                        have hbe := s2.ok E2[t] (List.getElem_mem _)
                        have hc1 := cellsE_at E2 t hte
                        clear s2 hEl
                        generalize E2[t] = e at hcell hbe hc1
                        obtain ⟨ea, en, ec, el⟩ := e
                        subst hAD
                        have hcell' : wr.cell? ⟨ba, bo + t, none⟩ = some (.slice ea en ec) := hcell
                        clear hcell
                        obtain ⟨hen, heb⟩ := hbe
                        have hen' : el.length = en := hen
                        have heb' : BytesAt w ea el := heb
                        have HEN : Hid (el.length = en) := hen'
                        clear hen heb hen'
                        have hm3 : en ≤ 506 := by
                          have h1 := ST2.out.fits
                          have h2 := delC_elen (cellsE E2) t (by rw [cellsE_length]; exact hte)
                          rw [hc1] at h2
                          have := HEN.out
                          have h3 : (({ ad := ea, n := en, c := ec, l := el } : Ent).l).length = el.length := rfl
                          omega
                        go_wp2_with fail
                        refine (get_yesI _ g 0 512 t t rfl _ k NX (cellsE E2) el en (ST2.out.kept fi).pg ⟨(ST2.out.kept fi).pg.len, (ST2.out.kept fi).page.bytes, by omega⟩ (by rw [cellsE_length]; exact hte) hc1 HEN.out).mono ?_
                        rintro e w5 ⟨b, rfl, b5, hb5, f5⟩
                        have q5 := (World.cell?_of_block (f5.block ba (block_lt_of_cell hcell') (by simp))).trans hcell'
                        clear hcell' hc1
                        go_wp2_with fail
                        refine (same_any _ _ _ el el en _ _ b5.bytes (heb'.kept ((ST2.out.own.fr.trans fi).trans f5) (by simp)) HEN.out HEN.out (by omega)).mono ?_
                        rintro e w6 ⟨rfl, f6⟩
                        rw [show (el == el) = true by simp]
                        go_wp2_with fail
                        exact ⟨⟨t + 1, by omega, by go_num, (fi.trans f5).trans f6⟩, by simp [intOf]; omega⟩
                      · obtain rfl : t = N2 := by omega
                        go_wp2_with fail
                        refine ⟨⟨j + 1, ad6, t, cap6, E2, NX, by omega, by go_num, rfl, ?_, rfl, ST2.out.kept fi⟩, by simp [intOf]; omega⟩
                        rw [HR.out]
              · refine (insert_full _ g 512 _ k NX (cellsE E) S ca cl cc ST.out.page ST.out.pg (by rw [cellsE_length]; omega) (by omega) (by omega)).mono ?_
                rintro e w6 ⟨rfl, rfl⟩
                have x3 := XB.out.c3
                have y1 : ¬ (cl : Int) + 2 ≤ 506 - (elen (cellsE E) : Int) := by omega
                go_wp2_with fail
                obtain ⟨R, HR0⟩ : ∃ R : Int, Hid (506 - (elen (cellsE E) : Int) = R) := ⟨_, rfl⟩
                rw [HR0.out]
                have HR : Hid (R = 506 - (elen (cellsE E) : Int)) := HR0.out.symm
                clear x3 y1 x0 x1 x2 HR0 XB
                as_aux_lemma =>
                  have sT := ST.out
                  have kb : (((kindOf (pgB k NX (cellsE E)) : Nat) : Int) != X) = false := by rw [sT.kindEq, HX.out]; simp
                  have cb : ((((cellsOf (pgB k NX (cellsE E))).length : Nat) : Int) != (N : Int)) = false := by rw [sT.cellsEq]; simp
                  have rb : (((roomOf (pgB k NX (cellsE E)) : Nat) : Int) != R) = false := by rw [sT.roomEq, HR.out]; simp
                  have nb : (((nextOf (pgB k NX (cellsE E)) : Nat) : Int) != (NX : Int)) = false := by rw [sT.nextEq]; simp
                  have hsl := sT.sl
                  have hok := sT.pg.ok
                  refine (check_any _ _ _ _ _ hsl).mono ?_
                  rintro e w6 ⟨rfl, rfl⟩
                  rw [hok]
                  go_wp2_with fail
                  refine (kind_any _ _ _ _ _ hsl).mono ?_
                  rintro e w6 ⟨rfl, rfl⟩
                  go_wp2_with fail
                  refine (count_any _ _ _ _ _ hsl).mono ?_
                  rintro e w6 ⟨rfl, rfl⟩
                  go_wp2_with fail
                  refine (room_any _ _ _ _ _ hsl).mono ?_
                  rintro e w6 ⟨rfl, rfl⟩
                  go_wp2_with fail
                  refine (next_any _ _ _ _ _ hsl).mono ?_
                  rintro e w6 ⟨rfl, rfl⟩
                  go_wp2_with fail
                  clear kb cb rb nb hok hsl
                  have hN := sT.few
                  clear sT
                  go_loopw [16] (fun i wr => ∃ t : Nat, t ≤ N ∧ i = .int .i64 t ∧ Fr [] w6 wr) (fun i _ => N - (intOf i).toNat)
                  case atStart => exact ⟨0, by omega, rfl, Fr.refl _ _⟩
                  case round =>
                    obtain ⟨t, ht, rfl, fi⟩ := hrel
                    by_cases hlt : t < N
                    · have hlt' : (t : Int) < N := by omega
                      have s2 := ST.out.kept fi
                      have hEl := s2.len
                      have hte : t < E.length := by omega
                      obtain ⟨ba, bo, hAD, hcell⟩ := s2.own.vals t E[t].val (by simp [valsE, hte])
                      have hbe := s2.ok E[t] (List.getElem_mem _)
                      have hc1 := cellsE_at E t hte
                      clear s2 hEl
                      generalize E[t] = e at hcell hbe hc1
                      obtain ⟨ea, en, ec, el⟩ := e
                      subst hAD
                      have hcell' : wr.cell? ⟨ba, bo + t, none⟩ = some (.slice ea en ec) := hcell
                      clear hcell
                      obtain ⟨hen, heb⟩ := hbe
                      have hen' : el.length = en := hen
                      have heb' : BytesAt w ea el := heb
                      have HEN : Hid (el.length = en) := hen'
                      clear hen heb hen'
                      have hm3 : en ≤ 506 := by
                        have h1 := ST.out.fits
                        have h2 := delC_elen (cellsE E) t (by rw [cellsE_length]; exact hte)
                        rw [hc1] at h2
                        have := HEN.out
                        have h3 : (({ ad := ea, n := en, c := ec, l := el } : Ent).l).length = el.length := rfl
                        omega
                      go_wp2_with fail
                      refine (get_yesI _ g 0 512 t t rfl _ k NX (cellsE E) el en (ST.out.kept fi).pg ⟨(ST.out.kept fi).pg.len, (ST.out.kept fi).page.bytes, by omega⟩ (by rw [cellsE_length]; exact hte) hc1 HEN.out).mono ?_
                      rintro e w5 ⟨b, rfl, b5, hb5, f5⟩
                      have q5 := (World.cell?_of_block (f5.block ba (block_lt_of_cell hcell') (by simp))).trans hcell'
                      clear hcell' hc1
                      go_wp2_with fail
                      refine (same_any _ _ _ el el en _ _ b5.bytes (heb'.kept ((ST.out.own.fr.trans fi).trans f5) (by simp)) HEN.out HEN.out (by omega)).mono ?_
                      rintro e w6 ⟨rfl, f6⟩
                      rw [show (el == el) = true by simp]
                      go_wp2_with fail
                      exact ⟨⟨t + 1, by omega, by go_num, (fi.trans f5).trans f6⟩, by simp [intOf]; omega⟩
                    · obtain rfl : t = N := by omega
                      go_wp2_with fail
                      refine ⟨⟨j + 1, AD, t, CAP, E, NX, by omega, by go_num, rfl, ?_, rfl, ST.out.kept fi⟩, by simp [intOf]; omega⟩
                      rw [HR.out]
        · have m0 : ((M == 0) = false) := by simp; omega
          have m1 : ((M == 1) = false) := by simp; omega
          have m2 : ((M == 2) = false) := by simp; omega
          by_cases hM3 : M = 3
          · have m3 : ((M == 3) = true) := by simp; omega
            clear hM3
            as_aux_lemma =>
              have hfits := ST.out.fits
              have hEl := ST.out.len
              by_cases hds : 0 ≤ dslot ∧ dslot < N
              · obtain ⟨hd0, hd1⟩ := hds
                obtain ⟨S, rfl⟩ := Int.eq_ofNat_of_zero_le hd0
                have hSN : S < N := by omega
                go_wp2_with fail
                refine (delete_ok _ g 512 _ k NX (cellsE E) S ST.out.page ST.out.pg (by rw [cellsE_length]; omega)).mono ?_
                rintro e w3 ⟨rfl, r3, f3⟩
                obtain ⟨own3, fr3⟩ := ST.out.paged f3
                have XB3 : Hid (BoxX w3 xb dop S dnext ca cl cc) := XB.out.kept f3 (by simp; omega)
                have x3 := XB3.out.c1
                have hde := delC_elen (cellsE E) S (by rw [cellsE_length]; omega)
                have hte : S < E.length := by omega
                have hc1 := cellsE_at E S hte
                rw [hc1] at hde
                have hbe := (ST.out.ok E[S] (List.getElem_mem _)).1
                rcases ST.out.own.shape with ⟨rfl, hN0, hC0, hE0⟩ | ⟨gc, rfl, hNC, hgc0, hgc1⟩
                · omega
                · obtain ⟨ba, bo, hAD, hcell⟩ := own3.vals S E[S].val (by simp [valsE, hte])
                  cases hAD
                  rw [Nat.zero_add] at hcell
                  clear x0 x1 x2 hc1
                  generalize E[S] = e at hcell hde hbe
                  obtain ⟨ea, en, ec, el⟩ := e
                  have hcell' : w3.cell? ⟨gc, S, none⟩ = some (.slice ea en ec) := hcell
                  have hen : el.length = en := hbe
                  have hde' : elen (delC (cellsE E) S) + 2 + en = elen (cellsE E) := by rw [← hen]; exact hde
                  have HDE : Hid (elen (delC (cellsE E) S) + 2 + en = elen (cellsE E)) := hde'
                  have hen2 : en ≤ 506 := by omega
                  have hvl := valsE_length E
                  clear hcell hde hbe hen hde'
                  obtain ⟨dp, hdp, HDP⟩ : ∃ dp : Option Addr, (if CAP = S + 1 then some (⟨gc, 0, none⟩ : Addr) else some ⟨gc, S + 1, none⟩) = dp ∧ Hid (ValsAt w3 dp ((valsE E).drop (S + 1)) ∧ (dp = none → False)) := by
                    refine ⟨_, rfl, own3.vals.ifV (fun e => List.eq_nil_of_length_eq_zero (by rw [List.length_drop, hvl]; omega)), fun e => ifV_some e⟩
                  have z1 : (S : Int) ≤ CAP := by omega
                  have z2 : (S : Int) + 1 ≤ N := by omega
                  have z3 : (S : Int) + 1 ≤ CAP := by omega
                  go_wp2_with (first
                    | (refine wp_appV rfl _ _ rfl w3 none 0 0 [] rfl (OwnV.nil (Fr.refl _ _)) _ S _ ((valsE E).take S) rfl (by rw [List.length_take, hvl]; omega) (own3.vals.take S) (fun u hu => valsE_one E u (List.mem_of_mem_take hu)) (by omega) (fun e => nomatch e) ?_; intro ad4 cap4 w4 o4; rw [Nat.zero_add, List.nil_append] at o4; have x4 := (XB3.out.kept o4.fr (by simp)).c1)
                    | (refine wp_appV rfl _ _ rfl w3 ad4 _ cap4 _ rfl o4 _ (N - (S + 1)) _ ((valsE E).drop (S + 1)) rfl (by rw [List.length_drop, hvl]; omega) (HDP.out.1.kept o4.fr (by simp)) (fun u hu => valsE_one E u (List.mem_of_mem_drop hu)) (by omega) (fun e => absurd e HDP.out.2) ?_; intro ad6 cap6 w6 o6)
                    | fail)
                  obtain ⟨R, HR0⟩ : ∃ R : Int, Hid (506 - (elen (cellsE E) : Int) + 2 + en = R) := ⟨_, rfl⟩
                  rw [HR0.out]
                  obtain ⟨E2, HE2⟩ : ∃ E2, Hid (delE E S = E2) := ⟨_, rfl⟩
                  obtain ⟨N2, HN2⟩ : ∃ N2 : Nat, Hid (S + (N - (S + 1)) = N2) := ⟨_, rfl⟩
                  rw [HN2.out]
                  have ST2 : Hid (St w w6 k g ad6 N2 cap6 E2 NX) := by
                    have := st_del (S := S) ST.out f3 r3 o6 (by rw [delE_vals]) hte
                    rw [HE2.out] at this
                    rw [← HN2.out]
                    exact this
                  have HR : Hid (R = 506 - (elen (cellsE E2) : Int)) := by
                    show R = _
                    rw [← HR0.out, ← HE2.out, delE_cells]
                    have h1 := HDE.out
                    omega
                  clear hdp HDP x3 x4 o4 o6 HR0 HE2 HN2 z1 z2 z3 hvl own3 fr3 r3 f3 XB3 XB ST hNC hgc0 hgc1 hEl hfits hSN hd0 hd1 hcell' HDE
                  as_aux_lemma =>
                    have sT := ST2.out
                    have kb : (((kindOf (pgB k NX (cellsE E2)) : Nat) : Int) != X) = false := by rw [sT.kindEq, HX.out]; simp
                    have cb : ((((cellsOf (pgB k NX (cellsE E2))).length : Nat) : Int) != (N2 : Int)) = false := by rw [sT.cellsEq]; simp
                    have rb : (((roomOf (pgB k NX (cellsE E2)) : Nat) : Int) != R) = false := by rw [sT.roomEq, HR.out]; simp
                    have nb : (((nextOf (pgB k NX (cellsE E2)) : Nat) : Int) != (NX : Int)) = false := by rw [sT.nextEq]; simp
                    have hsl := sT.sl
                    have hok := sT.pg.ok
                    refine (check_any _ _ _ _ _ hsl).mono ?_
                    rintro e w6 ⟨rfl, rfl⟩
                    rw [hok]
                    go_wp2_with fail
                    refine (kind_any _ _ _ _ _ hsl).mono ?_
                    rintro e w6 ⟨rfl, rfl⟩
                    go_wp2_with fail
                    refine (count_any _ _ _ _ _ hsl).mono ?_
                    rintro e w6 ⟨rfl, rfl⟩
                    go_wp2_with fail
                    refine (room_any _ _ _ _ _ hsl).mono ?_
                    rintro e w6 ⟨rfl, rfl⟩
                    go_wp2_with fail
                    refine (next_any _ _ _ _ _ hsl).mono ?_
                    rintro e w6 ⟨rfl, rfl⟩
                    go_wp2_with fail
                    clear kb cb rb nb hok hsl
                    have hN := sT.few
                    clear sT
                    go_loopw [16] (fun i wr => ∃ t : Nat, t ≤ N2 ∧ i = .int .i64 t ∧ Fr [] w6 wr) (fun i _ => N2 - (intOf i).toNat)
                    case atStart => exact ⟨0, by omega, rfl, Fr.refl _ _⟩
                    case round =>
                      obtain ⟨t, ht, rfl, fi⟩ := hrel
                      by_cases hlt : t < N2
                      · have hlt' : (t : Int) < N2 := by omega
                        have s2 := ST2.out.kept fi
                        have hEl := s2.len
                        have hte : t < E2.length := by omega
                        obtain ⟨ba, bo, hAD, hcell⟩ := s2.own.vals t E2[t].val (by simp [valsE, hte])
                        have hbe := s2.ok E2[t] (List.getElem_mem _)
                        have hc1 := cellsE_at E2 t hte
                        clear s2 hEl
                        generalize E2[t] = e at hcell hbe hc1
                        obtain ⟨ea, en, ec, el⟩ := e
                        subst hAD
                        have hcell' : wr.cell? ⟨ba, bo + t, none⟩ = some (.slice ea en ec) := hcell
                        clear hcell
                        obtain ⟨hen, heb⟩ := hbe
                        have hen' : el.length = en := hen
                        have heb' : BytesAt w ea el := heb
                        have HEN : Hid (el.length = en) := hen'
                        clear hen heb hen'
                        have hm3 : en ≤ 506 := by
                          have h1 := ST2.out.fits
                          have h2 := delC_elen (cellsE E2) t (by rw [cellsE_length]; exact hte)
                          rw [hc1] at h2
                          have := HEN.out
                          have h3 : (({ ad := ea, n := en, c := ec, l := el } : Ent).l).length = el.length := rfl
                          omega
                        go_wp2_with fail
                        refine (get_yesI _ g 0 512 t t rfl _ k NX (cellsE E2) el en (ST2.out.kept fi).pg ⟨(ST2.out.kept fi).pg.len, (ST2.out.kept fi).page.bytes, by omega⟩ (by rw [cellsE_length]; exact hte) hc1 HEN.out).mono ?_
                        rintro e w5 ⟨b, rfl, b5, hb5, f5⟩
                        have q5 := (World.cell?_of_block (f5.block ba (block_lt_of_cell hcell') (by simp))).trans hcell'
                        clear hcell' hc1
                        go_wp2_with fail
                        refine (same_any _ _ _ el el en _ _ b5.bytes (heb'.kept ((ST2.out.own.fr.trans fi).trans f5) (by simp)) HEN.out HEN.out (by omega)).mono ?_
                        rintro e w6 ⟨rfl, f6⟩
                        rw [show (el == el) = true by simp]
                        go_wp2_with fail
                        exact ⟨⟨t + 1, by omega, by go_num, (fi.trans f5).trans f6⟩, by simp [intOf]; omega⟩
                      · obtain rfl : t = N2 := by omega
                        go_wp2_with fail
                        refine ⟨⟨j + 1, ad6, t, cap6, E2, NX, by omega, by go_num, rfl, ?_, rfl, ST2.out.kept fi⟩, by simp [intOf]; omega⟩
                        rw [HR.out]
              · have y1 : Hid ((decide (0 ≤ dslot) && decide (dslot < (N : Int))) = false) := by
                  show _ = false
                  simp only [Bool.and_eq_false_iff, decide_eq_false_iff_not]
                  omega
                go_wp2_with fail
                refine (delete_no _ g 512 _ k NX (cellsE E) dslot ST.out.page ST.out.pg (by rw [cellsE_length]; omega)).mono ?_
                rintro e w6 ⟨rfl, rfl⟩
                by_cases hd0 : 0 ≤ dslot
                · have hd1 : ¬ dslot < N := by omega
                  clear hds y1
                  go_wp2_with fail
                  obtain ⟨R, HR0⟩ : ∃ R : Int, Hid (506 - (elen (cellsE E) : Int) = R) := ⟨_, rfl⟩
                  rw [HR0.out]
                  have HR : Hid (R = 506 - (elen (cellsE E) : Int)) := HR0.out.symm
                  clear hd0 hd1 x0 x1 x2 HR0 XB
                  as_aux_lemma =>
                    have sT := ST.out
                    have kb : (((kindOf (pgB k NX (cellsE E)) : Nat) : Int) != X) = false := by rw [sT.kindEq, HX.out]; simp
                    have cb : ((((cellsOf (pgB k NX (cellsE E))).length : Nat) : Int) != (N : Int)) = false := by rw [sT.cellsEq]; simp
                    have rb : (((roomOf (pgB k NX (cellsE E)) : Nat) : Int) != R) = false := by rw [sT.roomEq, HR.out]; simp
                    have nb : (((nextOf (pgB k NX (cellsE E)) : Nat) : Int) != (NX : Int)) = false := by rw [sT.nextEq]; simp
                    have hsl := sT.sl
                    have hok := sT.pg.ok
                    refine (check_any _ _ _ _ _ hsl).mono ?_
                    rintro e w6 ⟨rfl, rfl⟩
                    rw [hok]
                    go_wp2_with fail
                    refine (kind_any _ _ _ _ _ hsl).mono ?_
                    rintro e w6 ⟨rfl, rfl⟩
                    go_wp2_with fail
                    refine (count_any _ _ _ _ _ hsl).mono ?_
                    rintro e w6 ⟨rfl, rfl⟩
                    go_wp2_with fail
                    refine (room_any _ _ _ _ _ hsl).mono ?_
                    rintro e w6 ⟨rfl, rfl⟩
                    go_wp2_with fail
                    refine (next_any _ _ _ _ _ hsl).mono ?_
                    rintro e w6 ⟨rfl, rfl⟩
                    go_wp2_with fail
                    clear kb cb rb nb hok hsl
                    have hN := sT.few
                    clear sT
                    go_loopw [16] (fun i wr => ∃ t : Nat, t ≤ N ∧ i = .int .i64 t ∧ Fr [] w6 wr) (fun i _ => N - (intOf i).toNat)
                    case atStart => exact ⟨0, by omega, rfl, Fr.refl _ _⟩
                    case round =>
                      obtain ⟨t, ht, rfl, fi⟩ := hrel
                      by_cases hlt : t < N
                      · have hlt' : (t : Int) < N := by omega
                        have s2 := ST.out.kept fi
                        have hEl := s2.len
                        have hte : t < E.length := by omega
                        obtain ⟨ba, bo, hAD, hcell⟩ := s2.own.vals t E[t].val (by simp [valsE, hte])
                        have hbe := s2.ok E[t] (List.getElem_mem _)
                        have hc1 := cellsE_at E t hte
                        clear s2 hEl
                        generalize E[t] = e at hcell hbe hc1
                        obtain ⟨ea, en, ec, el⟩ := e
                        subst hAD
                        have hcell' : wr.cell? ⟨ba, bo + t, none⟩ = some (.slice ea en ec) := hcell
                        clear hcell
                        obtain ⟨hen, heb⟩ := hbe
                        have hen' : el.length = en := hen
                        have heb' : BytesAt w ea el := heb
                        have HEN : Hid (el.length = en) := hen'
                        clear hen heb hen'
                        have hm3 : en ≤ 506 := by
                          have h1 := ST.out.fits
                          have h2 := delC_elen (cellsE E) t (by rw [cellsE_length]; exact hte)
                          rw [hc1] at h2
                          have := HEN.out
                          have h3 : (({ ad := ea, n := en, c := ec, l := el } : Ent).l).length = el.length := rfl
                          omega
                        go_wp2_with fail
                        refine (get_yesI _ g 0 512 t t rfl _ k NX (cellsE E) el en (ST.out.kept fi).pg ⟨(ST.out.kept fi).pg.len, (ST.out.kept fi).page.bytes, by omega⟩ (by rw [cellsE_length]; exact hte) hc1 HEN.out).mono ?_
                        rintro e w5 ⟨b, rfl, b5, hb5, f5⟩
                        have q5 := (World.cell?_of_block (f5.block ba (block_lt_of_cell hcell') (by simp))).trans hcell'
                        clear hcell' hc1
                        go_wp2_with fail
                        refine (same_any _ _ _ el el en _ _ b5.bytes (heb'.kept ((ST.out.own.fr.trans fi).trans f5) (by simp)) HEN.out HEN.out (by omega)).mono ?_
                        rintro e w6 ⟨rfl, f6⟩
                        rw [show (el == el) = true by simp]
                        go_wp2_with fail
                        exact ⟨⟨t + 1, by omega, by go_num, (fi.trans f5).trans f6⟩, by simp [intOf]; omega⟩
                      · obtain rfl : t = N := by omega
                        go_wp2_with fail
                        refine ⟨⟨j + 1, AD, t, CAP, E, NX, by omega, by go_num, rfl, ?_, rfl, ST.out.kept fi⟩, by simp [intOf]; omega⟩
                        rw [HR.out]
                · clear hds y1
                  go_wp2_with fail
                  obtain ⟨R, HR0⟩ : ∃ R : Int, Hid (506 - (elen (cellsE E) : Int) = R) := ⟨_, rfl⟩
                  rw [HR0.out]
                  have HR : Hid (R = 506 - (elen (cellsE E) : Int)) := HR0.out.symm
                  clear hd0 x0 x1 x2 HR0 XB
                  as_aux_lemma =>
                    have sT := ST.out
                    have kb : (((kindOf (pgB k NX (cellsE E)) : Nat) : Int) != X) = false := by rw [sT.kindEq, HX.out]; simp
                    have cb : ((((cellsOf (pgB k NX (cellsE E))).length : Nat) : Int) != (N : Int)) = false := by rw [sT.cellsEq]; simp
                    have rb : (((roomOf (pgB k NX (cellsE E)) : Nat) : Int) != R) = false := by rw [sT.roomEq, HR.out]; simp
                    have nb : (((nextOf (pgB k NX (cellsE E)) : Nat) : Int) != (NX : Int)) = false := by rw [sT.nextEq]; simp
                    have hsl := sT.sl
                    have hok := sT.pg.ok
                    refine (check_any _ _ _ _ _ hsl).mono ?_
                    rintro e w6 ⟨rfl, rfl⟩
                    rw [hok]
                    go_wp2_with fail
                    refine (kind_any _ _ _ _ _ hsl).mono ?_
                    rintro e w6 ⟨rfl, rfl⟩
                    go_wp2_with fail
                    refine (count_any _ _ _ _ _ hsl).mono ?_
                    rintro e w6 ⟨rfl, rfl⟩
                    go_wp2_with fail
                    refine (room_any _ _ _ _ _ hsl).mono ?_
                    rintro e w6 ⟨rfl, rfl⟩
                    go_wp2_with fail
                    refine (next_any _ _ _ _ _ hsl).mono ?_
                    rintro e w6 ⟨rfl, rfl⟩
                    go_wp2_with fail
                    clear kb cb rb nb hok hsl
                    have hN := sT.few
                    clear sT
                    go_loopw [16] (fun i wr => ∃ t : Nat, t ≤ N ∧ i = .int .i64 t ∧ Fr [] w6 wr) (fun i _ => N - (intOf i).toNat)
                    case atStart => exact ⟨0, by omega, rfl, Fr.refl _ _⟩
                    case round =>
                      obtain ⟨t, ht, rfl, fi⟩ := hrel
                      by_cases hlt : t < N
                      · have hlt' : (t : Int) < N := by omega
                        have s2 := ST.out.kept fi
                        have hEl := s2.len
                        have hte : t < E.length := by omega
                        obtain ⟨ba, bo, hAD, hcell⟩ := s2.own.vals t E[t].val (by simp [valsE, hte])
                        have hbe := s2.ok E[t] (List.getElem_mem _)
                        have hc1 := cellsE_at E t hte
                        clear s2 hEl
                        generalize E[t] = e at hcell hbe hc1
                        obtain ⟨ea, en, ec, el⟩ := e
                        subst hAD
                        have hcell' : wr.cell? ⟨ba, bo + t, none⟩ = some (.slice ea en ec) := hcell
                        clear hcell
                        obtain ⟨hen, heb⟩ := hbe
                        have hen' : el.length = en := hen
                        have heb' : BytesAt w ea el := heb
                        have HEN : Hid (el.length = en) := hen'
                        clear hen heb hen'
                        have hm3 : en ≤ 506 := by
                          have h1 := ST.out.fits
                          have h2 := delC_elen (cellsE E) t (by rw [cellsE_length]; exact hte)
                          rw [hc1] at h2
                          have := HEN.out
                          have h3 : (({ ad := ea, n := en, c := ec, l := el } : Ent).l).length = el.length := rfl
                          omega
                        go_wp2_with fail
                        refine (get_yesI _ g 0 512 t t rfl _ k NX (cellsE E) el en (ST.out.kept fi).pg ⟨(ST.out.kept fi).pg.len, (ST.out.kept fi).page.bytes, by omega⟩ (by rw [cellsE_length]; exact hte) hc1 HEN.out).mono ?_
                        rintro e w5 ⟨b, rfl, b5, hb5, f5⟩
                        have q5 := (World.cell?_of_block (f5.block ba (block_lt_of_cell hcell') (by simp))).trans hcell'
                        clear hcell' hc1
                        go_wp2_with fail
                        refine (same_any _ _ _ el el en _ _ b5.bytes (heb'.kept ((ST.out.own.fr.trans fi).trans f5) (by simp)) HEN.out HEN.out (by omega)).mono ?_
                        rintro e w6 ⟨rfl, f6⟩
                        rw [show (el == el) = true by simp]
                        go_wp2_with fail
                        exact ⟨⟨t + 1, by omega, by go_num, (fi.trans f5).trans f6⟩, by simp [intOf]; omega⟩
                      · obtain rfl : t = N := by omega
                        go_wp2_with fail
                        refine ⟨⟨j + 1, AD, t, CAP, E, NX, by omega, by go_num, rfl, ?_, rfl, ST.out.kept fi⟩, by simp [intOf]; omega⟩
                        rw [HR.out]
          · have m3 : ((M == 3) = false) := by simp; omega
            clear hM3
            as_aux_lemma =>
              have hfits := ST.out.fits
              go_wp2_with fail
              by_cases hds : 0 ≤ dnext ∧ dnext ≤ 4294967295
              · obtain ⟨hd0, hd1⟩ := hds
                obtain ⟨Y, rfl⟩ := Int.eq_ofNat_of_zero_le hd0
                have hY : Y < 4294967296 := by omega
                refine (setNext_yes _ g 512 _ k NX Y (cellsE E) ST.out.page ST.out.pg hY).mono ?_
                rintro e w6 ⟨rfl, r3, f3⟩
                have x3 := (XB.out.kept f3 (by simp; omega)).c2
                have ST2 : Hid (St w w6 k g AD N CAP E Y) := st_next ST.out f3 r3 hY
                go_wp2_with fail
                obtain ⟨R, HR0⟩ : ∃ R : Int, Hid (506 - (elen (cellsE E) : Int) = R) := ⟨_, rfl⟩
                rw [HR0.out]
                have HR : Hid (R = 506 - (elen (cellsE E) : Int)) := HR0.out.symm
                clear hd0 hd1 x0 x1 x2 x3 HR0 XB r3 f3 ST
                as_aux_lemma =>
                  have sT := ST2.out
                  have kb : (((kindOf (pgB k Y (cellsE E)) : Nat) : Int) != X) = false := by rw [sT.kindEq, HX.out]; simp
                  have cb : ((((cellsOf (pgB k Y (cellsE E))).length : Nat) : Int) != (N : Int)) = false := by rw [sT.cellsEq]; simp
                  have rb : (((roomOf (pgB k Y (cellsE E)) : Nat) : Int) != R) = false := by rw [sT.roomEq, HR.out]; simp
                  have nb : (((nextOf (pgB k Y (cellsE E)) : Nat) : Int) != (Y : Int)) = false := by rw [sT.nextEq]; simp
                  have hsl := sT.sl
                  have hok := sT.pg.ok
                  refine (check_any _ _ _ _ _ hsl).mono ?_
                  rintro e w6 ⟨rfl, rfl⟩
                  rw [hok]
                  go_wp2_with fail
                  refine (kind_any _ _ _ _ _ hsl).mono ?_
                  rintro e w6 ⟨rfl, rfl⟩
                  go_wp2_with fail
                  refine (count_any _ _ _ _ _ hsl).mono ?_
                  rintro e w6 ⟨rfl, rfl⟩
                  go_wp2_with fail
                  refine (room_any _ _ _ _ _ hsl).mono ?_
                  rintro e w6 ⟨rfl, rfl⟩
                  go_wp2_with fail
                  refine (next_any _ _ _ _ _ hsl).mono ?_
                  rintro e w6 ⟨rfl, rfl⟩
                  go_wp2_with fail
                  clear kb cb rb nb hok hsl
                  have hN := sT.few
                  clear sT
                  go_loopw [16] (fun i wr => ∃ t : Nat, t ≤ N ∧ i = .int .i64 t ∧ Fr [] w6 wr) (fun i _ => N - (intOf i).toNat)
                  case atStart => exact ⟨0, by omega, rfl, Fr.refl _ _⟩
                  case round =>
                    obtain ⟨t, ht, rfl, fi⟩ := hrel
                    by_cases hlt : t < N
                    · have hlt' : (t : Int) < N := by omega
                      have s2 := ST2.out.kept fi
                      have hEl := s2.len
                      have hte : t < E.length := by omega
                      obtain ⟨ba, bo, hAD, hcell⟩ := s2.own.vals t E[t].val (by simp [valsE, hte])
                      have hbe := s2.ok E[t] (List.getElem_mem _)
                      have hc1 := cellsE_at E t hte
                      clear s2 hEl
                      generalize E[t] = e at hcell hbe hc1
                      obtain ⟨ea, en, ec, el⟩ := e
                      subst hAD
                      have hcell' : wr.cell? ⟨ba, bo + t, none⟩ = some (.slice ea en ec) := hcell
                      clear hcell
                      obtain ⟨hen, heb⟩ := hbe
                      have hen' : el.length = en := hen
                      have heb' : BytesAt w ea el := heb
                      have HEN : Hid (el.length = en) := hen'
                      clear hen heb hen'
                      have hm3 : en ≤ 506 := by
                        have h1 := ST2.out.fits
                        have h2 := delC_elen (cellsE E) t (by rw [cellsE_length]; exact hte)
                        rw [hc1] at h2
                        have := HEN.out
                        have h3 : (({ ad := ea, n := en, c := ec, l := el } : Ent).l).length = el.length := rfl
                        omega
                      go_wp2_with fail
                      refine (get_yesI _ g 0 512 t t rfl _ k Y (cellsE E) el en (ST2.out.kept fi).pg ⟨(ST2.out.kept fi).pg.len, (ST2.out.kept fi).page.bytes, by omega⟩ (by rw [cellsE_length]; exact hte) hc1 HEN.out).mono ?_
                      rintro e w5 ⟨b, rfl, b5, hb5, f5⟩
                      have q5 := (World.cell?_of_block (f5.block ba (block_lt_of_cell hcell') (by simp))).trans hcell'
                      clear hcell' hc1
                      go_wp2_with fail
                      refine (same_any _ _ _ el el en _ _ b5.bytes (heb'.kept ((ST2.out.own.fr.trans fi).trans f5) (by simp)) HEN.out HEN.out (by omega)).mono ?_
                      rintro e w6 ⟨rfl, f6⟩
                      rw [show (el == el) = true by simp]
                      go_wp2_with fail
                      exact ⟨⟨t + 1, by omega, by go_num, (fi.trans f5).trans f6⟩, by simp [intOf]; omega⟩
                    · obtain rfl : t = N := by omega
                      go_wp2_with fail
                      refine ⟨⟨j + 1, AD, t, CAP, E, Y, by omega, by go_num, rfl, ?_, rfl, ST2.out.kept fi⟩, by simp [intOf]; omega⟩
                      rw [HR.out]
              · refine (setNext_no _ _ _ _ _ dnext ST.out.sl (Or.inr (by omega))).mono ?_
                rintro e w6 ⟨rfl, rfl⟩
                go_wp2_with fail
                obtain ⟨R, HR0⟩ : ∃ R : Int, Hid (506 - (elen (cellsE E) : Int) = R) := ⟨_, rfl⟩
                rw [HR0.out]
                have HR : Hid (R = 506 - (elen (cellsE E) : Int)) := HR0.out.symm
                clear hds x0 x1 x2 HR0 XB
                as_aux_lemma =>
                  have sT := ST.out
                  have kb : (((kindOf (pgB k NX (cellsE E)) : Nat) : Int) != X) = false := by rw [sT.kindEq, HX.out]; simp
                  have cb : ((((cellsOf (pgB k NX (cellsE E))).length : Nat) : Int) != (N : Int)) = false := by rw [sT.cellsEq]; simp
                  have rb : (((roomOf (pgB k NX (cellsE E)) : Nat) : Int) != R) = false := by rw [sT.roomEq, HR.out]; simp
                  have nb : (((nextOf (pgB k NX (cellsE E)) : Nat) : Int) != (NX : Int)) = false := by rw [sT.nextEq]; simp
                  have hsl := sT.sl
                  have hok := sT.pg.ok
                  refine (check_any _ _ _ _ _ hsl).mono ?_
                  rintro e w6 ⟨rfl, rfl⟩
                  rw [hok]
                  go_wp2_with fail
                  refine (kind_any _ _ _ _ _ hsl).mono ?_
                  rintro e w6 ⟨rfl, rfl⟩
                  go_wp2_with fail
                  refine (count_any _ _ _ _ _ hsl).mono ?_
                  rintro e w6 ⟨rfl, rfl⟩
                  go_wp2_with fail
                  refine (room_any _ _ _ _ _ hsl).mono ?_
                  rintro e w6 ⟨rfl, rfl⟩
                  go_wp2_with fail
                  refine (next_any _ _ _ _ _ hsl).mono ?_
                  rintro e w6 ⟨rfl, rfl⟩
                  go_wp2_with fail
                  clear kb cb rb nb hok hsl
                  have hN := sT.few
                  clear sT
                  go_loopw [16] (fun i wr => ∃ t : Nat, t ≤ N ∧ i = .int .i64 t ∧ Fr [] w6 wr) (fun i _ => N - (intOf i).toNat)
                  case atStart => exact ⟨0, by omega, rfl, Fr.refl _ _⟩
                  case round =>
                    obtain ⟨t, ht, rfl, fi⟩ := hrel
                    by_cases hlt : t < N
                    · have hlt' : (t : Int) < N := by omega
                      have s2 := ST.out.kept fi
                      have hEl := s2.len
                      have hte : t < E.length := by omega
                      obtain ⟨ba, bo, hAD, hcell⟩ := s2.own.vals t E[t].val (by simp [valsE, hte])
                      have hbe := s2.ok E[t] (List.getElem_mem _)
                      have hc1 := cellsE_at E t hte
                      clear s2 hEl
                      generalize E[t] = e at hcell hbe hc1
                      obtain ⟨ea, en, ec, el⟩ := e
                      subst hAD
                      have hcell' : wr.cell? ⟨ba, bo + t, none⟩ = some (.slice ea en ec) := hcell
                      clear hcell
                      obtain ⟨hen, heb⟩ := hbe
                      have hen' : el.length = en := hen
                      have heb' : BytesAt w ea el := heb
                      have HEN : Hid (el.length = en) := hen'
                      clear hen heb hen'
                      have hm3 : en ≤ 506 := by
                        have h1 := ST.out.fits
                        have h2 := delC_elen (cellsE E) t (by rw [cellsE_length]; exact hte)
                        rw [hc1] at h2
                        have := HEN.out
                        have h3 : (({ ad := ea, n := en, c := ec, l := el } : Ent).l).length = el.length := rfl
                        omega
                      go_wp2_with fail
                      refine (get_yesI _ g 0 512 t t rfl _ k NX (cellsE E) el en (ST.out.kept fi).pg ⟨(ST.out.kept fi).pg.len, (ST.out.kept fi).page.bytes, by omega⟩ (by rw [cellsE_length]; exact hte) hc1 HEN.out).mono ?_
                      rintro e w5 ⟨b, rfl, b5, hb5, f5⟩
                      have q5 := (World.cell?_of_block (f5.block ba (block_lt_of_cell hcell') (by simp))).trans hcell'
                      clear hcell' hc1
                      go_wp2_with fail
                      refine (same_any _ _ _ el el en _ _ b5.bytes (heb'.kept ((ST.out.own.fr.trans fi).trans f5) (by simp)) HEN.out HEN.out (by omega)).mono ?_
                      rintro e w6 ⟨rfl, f6⟩
                      rw [show (el == el) = true by simp]
                      go_wp2_with fail
                      exact ⟨⟨t + 1, by omega, by go_num, (fi.trans f5).trans f6⟩, by simp [intOf]; omega⟩
                    · obtain rfl : t = N := by omega
                      go_wp2_with fail
                      refine ⟨⟨j + 1, AD, t, CAP, E, NX, by omega, by go_num, rfl, ?_, rfl, ST.out.kept fi⟩, by simp [intOf]; omega⟩
                      rw [HR.out]
    · obtain rfl : j = len := by omega
      go_wp2_with fail
      go_ret
      exact ⟨rfl, ST.out.own.fr⟩
end Go.Proofs.Ytlfpoeimgoikkaa
