/-
  The book's Point: all pages stand, a master says so, and the log begins anew.
-/
import Derived.Test.YthajipigppndgaaGreatY27Z
import Derived.Test.YthajipigppndgaaGreatY20Z
import Derived.Test.YthajipigppndgaaGreatY21Z
namespace Go.Proofs.YthajipigppndgaaGreat
open Go.RowKit Go.Maps
open Pg (SpE diffS)

/-- A book in a transaction: its changes, its pages. -/
structure InTx (b : Bk) (H : List Ch) (V : Pages) : Prop where
  st : b.t.st = 1
  und : b.t.und = 0
  num : placeB b.t.num = true
  kept : b.t.kept = keptOf H
  next : b.t.next = nextOf H
  last : b.t.last = nextOf H
  nx : 0 ≤ nextOf H ∧ nextOf H ≤ (b.x.y.E : Int)
  chain : Chain b.x.y b.t.num H
  sh : Shows b.x V
  t0 : 1 ≤ b.x.y.T
  t1 : b.x.y.T ≤ 2147483647
  c0 : 0 ≤ b.t.chg
  c1 : b.t.chg ≤ (b.x.y.E : Int)
  k1 : 5 * keptOf H ≤ 6 * (b.x.y.E : Int)
  room : keptOf H + 35 ≤ 408 * (b.x.y.count - 1) - ((b.x.y.E : Int) - (b.x.y.A : Int))
  pgs : ∀ c ∈ H, c.pg < b.x.pages
theorem LsOk.kin {y y' : Lo} (h : LsOk y) (k : Kin y y') : LsOk y' := ⟨by rw [k.ls]; exact h.rise, by rw [k.ls, k.A, k.E]; exact h.le⟩
theorem InTx.kin {b : Bk} {H : List Ch} {V : Pages} (h : InTx b H V) {x' : Po} (k : Kin b.x.y x'.y) (al : Alike b.x x') : InTx { b with x := x' } H V :=
  ⟨h.st, h.und, h.num, h.kept, h.next, h.last, by show 0 ≤ nextOf H ∧ nextOf H ≤ (x'.y.E : Int); rw [k.E]; exact h.nx, h.chain.kin k, h.sh.alike al, by show 1 ≤ x'.y.T; rw [k.T]; exact h.t0, by show x'.y.T ≤ _; rw [k.T]; exact h.t1, h.c0, by show b.t.chg ≤ (x'.y.E : Int); rw [k.E]; exact h.c1, by show 5 * keptOf H ≤ 6 * (x'.y.E : Int); rw [k.E]; exact h.k1, by show keptOf H + 35 ≤ 408 * (x'.y.count - 1) - ((x'.y.E : Int) - (x'.y.A : Int)); rw [k.count, k.E, k.A]; exact h.room, fun c hc => by show c.pg < x'.pages; rw [al.2.1]; exact h.pgs c hc⟩
/-- What is behind a page that was read. -/
structure BRead (w w' : World) (b : Bk) (x' : Po) (page g : Nat) (l : List UInt8) : Prop where
  blk : Blk w' g l
  new : w.heap.size ≤ g
  out : g ∉ x'.own
  val : Val b.x page l
  al : Alike b.x x'
  kin : Kin b.x.y x'.y
  st : BStep w w' b { b with x := x' }
theorem bread_any {w : World} {b : Bk} (h : BkAt w b) {page : Nat} (hp : page < b.x.pages) :
    Calls Tryz.prog 83 #[.pointer (some ⟨b.x.pp, 0, none⟩), .int .i64 (page : Int)] w fun e w' => ∃ g, e = .returned (.tuple #[.slice (some ⟨g, 0, none⟩) 512 512, .int .i64 0]) ∧ ∃ x' l, BRead w w' b x' page g l := by
  refine (read_any h.po hp).mono ?_
  rintro e w' (⟨rfl, hbz, _⟩ | ⟨f, x', j, g, rfl, st, hf, hj, hb, hg, hgo⟩)
  · exact (hbz.no h.hd0 h.po.m0).elim
  · obtain ⟨al, hv, _⟩ := hf.alike h.po.nod
    exact ⟨g, rfl, x', f.l, hb, hg, hgo, hv, al, hf.kin, BStep.pool h st hf.kin.d hf.kin.p al.2.2.2.1 (hf.hd0 h.hd0).1 (h.ls.kin hf.kin)⟩
/-- Room as the book asks for it. -/
def Bk.room (b : Bk) : Int := 408 * (b.x.y.count - 1) - ((b.x.y.E : Int) - (b.x.y.A : Int))
theorem broom_any {w : World} {b : Bk} (h : BkAt w b) : Calls Tryz.prog 59 #[.pointer (some ⟨b.x.y.p, 0, none⟩)] w fun e w' => e = .returned (.int .i64 b.room) ∧ Fr [] w w' := by
  have n2 := h.po.lo.dev.n2
  have f0 := h.po.lo.f0
  have f1 := h.po.lo.f1
  have hE := h.po.lo.hE
  have hAE := h.po.lo.hAE
  refine (room_any w b.x.y.p b.x.y.d b.x.y.lg h.po.lo.box rfl h.po.lo.c0 (by show b.x.y.count ≤ 65536; omega) (by show (1 : Int) ≤ (b.x.y.A : Int) + 1; omega) (by show (b.x.y.A : Int) + 1 ≤ (b.x.y.E : Int) + 1; omega) (by show (b.x.y.E : Int) + 1 ≤ 4611686018427387904; omega)).mono ?_
  rintro e w' ⟨nq, rfl, hw⟩
  refine ⟨?_, by rw [hw]; exact (Fr.refl [] w).drewN nq⟩
  show Ending.returned (.int .i64 (408 * (b.x.y.count - 1) - (((b.x.y.E : Int) + 1) - ((b.x.y.A : Int) + 1)))) = _
  unfold Bk.room
  rw [show ((b.x.y.E : Int) + 1) - ((b.x.y.A : Int) + 1) = (b.x.y.E : Int) - (b.x.y.A : Int) by omega]
/-- A page that was put: its spans; the book behind it. -/
structure PutOk (w w' : World) (b : Bk) (H : List Ch) (V : Pages) (page : Nat) (data : List UInt8) (S : List SpE) (b' : Bk) (H' : List Ch) : Prop where
  st : BStep w w' b b'
  tr : Tr b b'
  tx : InTx b' H' (setPg V page data)
  un : undoAll H' (setPg V page data) = undoAll H V
  chg : b'.t.chg = b.t.chg + (S.length : Int)
  E : b'.x.y.E = b.x.y.E + logN S
  num : b'.t.num = b.t.num
  keq : keptOf H' = keptOf H + undN S
structure PutNo (w w' : World) (b : Bk) (H : List Ch) (V : Pages) (b' : Bk) : Prop where
  st : BStep w w' b b'
  tr : Tr b b'
  tx : InTx b' H V
  t : b'.t = b.t
  E : b'.x.y.E = b.x.y.E
def PutTo (w w' : World) (b : Bk) (H : List Ch) (V : Pages) (page : Nat) (data : List UInt8) (S : List SpE) (c : Int) : Prop :=
  (c = 5 ∧ b.room < keptOf H + 35 + sumN S ∧ ∃ b', PutNo w w' b H V b') ∨ (c = 0 ∧ keptOf H + 35 + sumN S ≤ b.room ∧ ∃ b' H', PutOk w w' b H V page data S b' H')
theorem k1_step {H H' : List Ch} {S : List SpE} {E : Nat} (h : 5 * keptOf H ≤ 6 * (E : Int)) (hq : keptOf H' = keptOf H + undN S) (hn : ∀ e ∈ S, 1 ≤ e.n) : 5 * keptOf H' ≤ 6 * ((E + logN S : Nat) : Int) := by
  have key : ∀ S : List SpE, (∀ e ∈ S, 1 ≤ e.n) → 5 * undN S ≤ 6 * (logN S : Int) := by
    intro S
    induction S with
    | nil => simp [undN, logN]
    | cons e S ih =>
      intro hS
      have h1 := ih (fun x hx => hS x (List.mem_cons_of_mem _ hx))
      have h2 := hS e List.mem_cons_self
      simp only [undN, logN]
      omega
  have := key S hn
  rw [hq]
  omega
theorem chg_step {S : List SpE} : S.length ≤ logN S := by
  induction S with
  | nil => simp [logN]
  | cons e S ih => simp only [logN, List.length_cons]; omega
def lenN : List SpE → Nat
  | [] => 0
  | e :: S => e.n + lenN S
theorem lenN_app (S T : List SpE) : lenN (S ++ T) = lenN S + lenN T := by
  induction S with
  | nil => simp [lenN]
  | cons e S ih => simp [lenN, ih]; omega
theorem logN_len : ∀ S : List SpE, logN S = 43 * S.length + 2 * lenN S
  | [] => by simp [logN, lenN]
  | e :: S => by
    have := logN_len S
    simp only [logN, lenN, List.length_cons]
    omega
theorem len_last {la lb : List UInt8} {S : List SpE} (hS : S.map (fun e => (e.off, e.off + e.n)) = diffS la lb) : ∀ k, k ≤ S.length → lenN (S.take k) ≤ Pg.lastE (diffS la lb) k
  | 0, _ => by simp [lenN]
  | k + 1, hk => by
    have ih := len_last hS k (by omega)
    have he : S[k]? = some S[k] := List.getElem?_eq_getElem (by omega)
    have hkd : k < (diffS la lb).length := by rw [← hS, List.length_map]; omega
    have hde : (diffS la lb)[k]'hkd = (S[k].off, S[k].off + S[k].n) := by
      have h1 : (diffS la lb)[k]? = some (S[k].off, S[k].off + S[k].n) := by rw [← hS, List.getElem?_map, he]; rfl
      exact (List.getElem?_eq_some_iff.1 h1).2
    have ok := Pg.diff_tok la lb k hkd
    rw [hde] at ok
    have h3 := ok.gap
    rw [Pg.lastE_succ _ k hkd, hde, List.take_add_one, he, lenN_app]
    simp [lenN]
    dsimp only at h3
    omega
theorem logN_bound {la lb : List UInt8} {S : List SpE} (hS : S.map (fun e => (e.off, e.off + e.n)) = diffS la lb) : logN S ≤ 3475 := by
  have h1 := len_last hS S.length (Nat.le_refl _)
  rw [List.take_length] at h1
  have h2 := diff_few la lb
  have h3 : S.length = (diffS la lb).length := by rw [← hS, List.length_map]
  have h4 : Pg.lastE (diffS la lb) S.length ≤ 512 := by
    unfold Pg.lastE
    split
    · omega
    · have hl : S.length - 1 < (diffS la lb).length := by omega
      rw [List.getD_eq_getElem?_getD, List.getElem?_eq_getElem hl]
      exact Pg.diff_ends la lb _ (List.getElem_mem hl)
  rw [logN_len]
  omega
theorem setPg_self {V : Pages} {q : Nat} {l : List UInt8} (h : V q = l) : setPg V q l = V := by
  funext k
  unfold setPg
  by_cases e : k = q
  · rw [if_pos e, e, h]
  · rw [if_neg e]
theorem Spans.kept {w0 w w' : World} {la lb : List UInt8} {pg : Int} {AD : Option Addr} {N CAP : Nat} {S : List SpE} (h : Spans w0 w la lb pg AD N CAP S) (f : Fr [] w w') : Spans w0 w' la lb pg AD N CAP S :=
  ⟨h.eq, h.len, h.few, h.cap, h.row.imp id (fun ⟨g', h7, h8, h9⟩ => ⟨g', h7, h8, h9.kept f (by simp)⟩), fun e he => ⟨f.same (by simp) (h.blk e he).1, f.same (by simp) (h.blk e he).2⟩, h.new⟩
theorem winv_zero {w : World} {b : Bk} (h : BkAt w b) {H : List Ch} {V : Pages} (tx : InTx b H V) {pg : Nat} {la lb : List UInt8} (hla : V pg = la) (S : List SpE) : WInv w b H V pg la lb S 0 0 w b H := by
  have e1 : setPg V pg (mixK la lb 0) = V := by rw [mixK_zero]; exact setPg_self hla
  refine ⟨BStep.quiet h (Fr.refl [] w), Tr.refl b, rfl, rfl, rfl, by simp, by simp [logN], tx.kept, by simp [undN], tx.next, tx.last, tx.nx, tx.chain, ?_, ?_, fun e => absurd e (by omega), tx.pgs⟩
  · rw [e1]
    exact tx.sh
  · rw [e1]
theorem winv_end {w wr : World} {b b' : Bk} {H H' : List Ch} {V : Pages} (tx : InTx b H V) {pg : Nat} {la lb : List UInt8} {S : List SpE} (ha : la.length = 512) (hb : lb.length = 512) (hS : S.map (fun e => (e.off, e.off + e.n)) = diffS la lb) (hn : ∀ e ∈ S, 1 ≤ e.n) (hroom : keptOf H + 35 + sumN S ≤ b.room) (h : WInv w b H V pg la lb S S.length S.length wr b' H') : PutOk w wr b H V pg lb S b' H' := by
  have e0 : mixK la lb S.length = lb := by
    have h1 := mixK_all ha hb
    rw [← hS, List.length_map] at h1
    exact h1
  have e1 : S.take S.length = S := List.take_length
  have hE := h.E
  have hkeq := h.keq
  have hsh := h.sh
  have hun := h.un
  rw [e1] at hE hkeq
  rw [e0] at hsh hun
  have hse := sumN_eq S
  have hcs := chg_step (S := S)
  have hc1 := tx.c1
  have hc0 := tx.c0
  refine ⟨h.st, h.tr, ⟨h.ss.trans tx.st, h.und.trans tx.und, by rw [h.num]; exact tx.num, h.kept, h.next, h.last, h.nx, by rw [h.num]; exact h.chain, hsh, by rw [h.tr.T]; exact tx.t0, by rw [h.tr.T]; exact tx.t1, by rw [h.chg]; omega, by rw [h.chg, hE]; omega, ?_, ?_, fun c hc => by rw [h.tr.pages]; exact h.pgs c hc⟩, hun, h.chg, hE, h.num, hkeq⟩
  · rw [hE]
    exact k1_step tx.k1 hkeq hn
  · unfold Bk.room at hroom
    rw [h.tr.count, h.tr.A, hE, hkeq]
    omega
set_option maxHeartbeats 2000000 in
set_option maxRecDepth 100000 in
theorem put_in {w : World} {b : Bk} (h : BkAt w b) {H : List Ch} {V : Pages} (tx : InTx b H V) {page : Nat} (hp : page < b.x.pages) (hp2 : b.x.pages ≤ 65536) {g o c : Nat} {data : List UInt8} (hd : data.length = 512) (hc : 512 ≤ c) (hb : BytesAt w (some ⟨g, o, none⟩) data) (hgo : g ∉ b.dp :: b.x.own) (hE : b.x.y.E ≤ 390000) :
    Calls Tryz.prog 37 #[.pointer (some ⟨b.bp, 0, none⟩), .int .i64 (page : Int), .slice (some ⟨g, o, none⟩) 512 c] w fun e w' => ∃ r : Int, e = .returned (.int .i64 r) ∧ ∃ S : List SpE, S.map (fun e => (e.off, e.off + e.n)) = diffS (V page) data ∧ PutTo w w' b H V page data S r := by
  have HH := hidI h
  have HT := hidI tx
  have fa : Fr [] w (w.alloc (.cells #[.int .i64 1] 86)) := (Fr.refl [] w).alloc _
  have hst := heap_alloc_new w (.cells #[.int .i64 1] 86)
  obtain ⟨w1, hw1⟩ : ∃ w1, w.alloc (.cells #[.int .i64 1] 86) = w1 := ⟨_, rfl⟩
  rw [hw1] at fa hst
  have H1 := hidI (h.quiet fa)
  have c2 : w1.cell? ⟨b.bp, 2, none⟩ = some (.pointer (some ⟨b.x.pp, 0, none⟩)) := H1.out.box.c2
  have HS1 := hidI (cell_of_row w1 w.heap.size 0 _ _ _ hst)
  have q0 : ¬ (page : Int) < 0 := by omega
  have q1 : ¬ (b.x.pages : Int) ≤ (page : Int) := by omega
  clear h tx hst
  go_enter Tryz.func37, Tryz.ntmps37
  go_wp2_with (first
    | (go_at_call 44; refine (within_in H1.out.box H1.out.dl HT.out.st w.heap.size 1 1 (by omega) HS1.out).mono ?_; rintro e wz ⟨rfl, hz⟩; rw [hz]; clear hz)
    | (go_at_call 43; refine (pages_any H1.out.po.box).mono ?_; rw [show b.x.pf.pages = b.x.pages from rfl]; rintro e wz ⟨rfl, hz⟩; rw [hz]; clear hz))
  refine (bread_any H1.out hp).mono ?_
  rintro e w2 ⟨g2, rfl, x2, la, R2⟩
  have hla : V page = la := (HT.out.sh page hp |>.uniq H1.out.po.nod R2.val)
  have TX2 := hidI (HT.out.kin R2.kin R2.al)
  have HR2 := hidI R2
  have hla5 : la.length = 512 := R2.val.len H1.out.po
  have A1 : Pg.At512 w2 g2 0 512 la := ⟨hla5, Blk.bytes R2.blk, by omega⟩
  have hbd : BytesAt w2 (some ⟨g, o, none⟩) data := (hb.kept fa (by simp)).kept R2.st.fr (fun b' o' e => by cases e; exact hgo)
  have A2 : Pg.At512 w2 g o c data := ⟨hd, hbd, hc⟩
  have HA1 := hidI A1
  have HA2 := hidI A2
  clear R2 A1 A2 c2
  go_wp2_with fail
  refine (differing_any w2 page g2 0 512 g o c la data HA1.out HA2.out).mono ?_
  rintro e w3 ⟨AD, N, CAP, rfl, ⟨S, SP⟩, f3⟩
  have HSP := hidI SP
  have B3 := hidI (HR2.out.st.at'.quiet f3)
  have c3 : w3.cell? ⟨b.bp, 3, none⟩ = some (.pointer (some ⟨b.dp, 0, none⟩)) := B3.out.box.c3
  have c1 : w3.cell? ⟨b.bp, 1, none⟩ = some (.pointer (some ⟨x2.y.p, 0, none⟩)) := B3.out.box.c1
  clear SP
  have SK : Hid (∀ w', Fr [] w3 w' → (w'.cell? ⟨b.bp, 3, none⟩ = some (.pointer (some ⟨b.dp, 0, none⟩)) ∧ w'.cell? ⟨b.bp, 1, none⟩ = some (.pointer (some ⟨x2.y.p, 0, none⟩)))) := hidI (fun w' f => ⟨(B3.out.quiet f).box.c3, (B3.out.quiet f).box.c1⟩)
  have hkq := TX2.out.k1
  have hkE : (x2.y.E : Int) = (b.x.y.E : Int) := by rw [HR2.out.kin.E]
  have hk1 : keptOf H ≤ 500000 := by
    have e1 : 5 * keptOf H ≤ 6 * (x2.y.E : Int) := hkq
    omega
  have hsn : ∀ e ∈ S, e.n ≤ 512 ∧ 1 ≤ e.n := fun e he => by
    obtain ⟨q, hq⟩ := List.mem_iff_getElem?.1 he
    have h5 := spOk hla5 hd HSP.out.eq hq
    have := h5.fit
    have := h5.n0
    omega
  have HND : Hid (∀ w', Fr [] w3 w' → Calls Tryz.prog 85 #[.pointer (some ⟨b.dp, 0, none⟩), .slice AD N CAP] w' fun e w'' => e = .returned (.int .i64 (keptOf H + 35 + sumN S)) ∧ Fr [] w' w'') := hidI (fun w' f => by
    have hd' := (B3.out.quiet f).dl
    have e1 : b.t.kept = keptOf H := TX2.out.kept
    have h6 := needs_any hd' (by rw [e1]; exact keptOf_nonneg H) (by rw [e1]; omega) (w0 := w2) (la := la) (lb := data) (pg := (page : Int)) (AD := AD) (N := N) (CAP := CAP) (S := S) ⟨HSP.out.eq, HSP.out.len, HSP.out.few, HSP.out.cap, HSP.out.row.imp id (fun ⟨g', h7, h8, h9⟩ => ⟨g', h7, h8, h9.kept f (by simp)⟩), fun e he => ⟨f.same (by simp) (HSP.out.blk e he).1, f.same (by simp) (HSP.out.blk e he).2⟩, HSP.out.new⟩ (fun e he => (hsn e he).1)
    rw [e1] at h6
    exact h6)
  have HRO : Hid (∀ w', Fr [] w3 w' → Calls Tryz.prog 59 #[.pointer (some ⟨x2.y.p, 0, none⟩)] w' fun e w'' => e = .returned (.int .i64 ({ b with x := x2 } : Bk).room) ∧ Fr [] w' w'') := hidI (fun w' f => broom_any (B3.out.quiet f))
  obtain ⟨RM, HRM⟩ : ∃ RM : Int, Hid (({ b with x := x2 } : Bk).room = RM) := ⟨_, rfl⟩
  rw [HRM.out] at HRO
  obtain ⟨ND, HNDE⟩ : ∃ ND : Int, Hid (keptOf H + 35 + sumN S = ND) := ⟨_, rfl⟩
  rw [HNDE.out] at HND
  have gg : Fr [] w3 w3.drew := (Fr.refl [] w3).drew
  clear c1 c3
  dsimp only
  go_wp2_with fail
  go_region_held3 (fun w' => w'.cell? ⟨b.bp, 3, none⟩ = some (.pointer (some ⟨b.dp, 0, none⟩)) ∧ w'.cell? ⟨b.bp, 1, none⟩ = some (.pointer (some ⟨x2.y.p, 0, none⟩))) (exact SK.out _ gg) ((first
    | (go_at_call 85; refine (HND.out _ gg).mono ?_; rintro e w4 ⟨rfl, f4⟩; replace gg := gg.trans f4)
    | (go_at_call 59; refine (HRO.out _ gg).mono ?_; rintro e w4 ⟨rfl, f4⟩; replace gg := gg.trans f4)))
  all_goals
    have BS3 := ((BStep.quiet HH.out fa).trans HR2.out.st).trans (BStep.quiet HR2.out.st.at' (f3.trans gg))
    have TR3 : Tr b { b with x := x2 } := Tr.pool (t' := b.t) HR2.out.kin HR2.out.al.2.1 HR2.out.al.1 HR2.out.al.2.2.1
    have hrm : ({ b with x := x2 } : Bk).room = b.room := by
      unfold Bk.room
      show 408 * (x2.y.count - 1) - ((x2.y.E : Int) - (x2.y.A : Int)) = _
      rw [HR2.out.kin.count, HR2.out.kin.E, HR2.out.kin.A]
    by_cases hfull : RM < ND
    · go_wp2_with fail
      go_ret
      refine ⟨5, rfl, S, by rw [hla]; exact HSP.out.eq, Or.inl ⟨rfl, ?_, _, BS3, TR3, TX2.out, rfl, HR2.out.kin.E⟩⟩
      rw [HNDE.out, ← hrm, HRM.out]
      exact hfull
    · go_wp2_with fail
      have hlE : b.x.y.E + logN S ≤ 400000 := by
        have h4 := logN_bound HSP.out.eq
        omega
      refine (write_any BS3.at' (H := H) (V := V) (pg := page) (HSP.out.kept gg) hla5 hd (by show page < x2.pages; rw [HR2.out.al.2.1]; exact hp) (by omega) (fun k hk => HR2.out.st.at'.lt k (by rcases List.mem_cons.1 hk with e | e <;> simp [e])) (winv_zero BS3.at' TX2.out hla S) TX2.out.num TX2.out.t0 TX2.out.t1 ?_ ?_ TX2.out.c0 ?_ (by omega)).mono ?_
      · have h9 : keptOf H + 35 + sumN S ≤ ({ b with x := x2 } : Bk).room := by rw [HNDE.out, HRM.out]; omega
        exact h9
      · show x2.y.E + logN S ≤ 400000
        rw [HR2.out.kin.E]
        exact hlE
      · have h9 := TX2.out.c1
        have h8 : b.t.chg ≤ (x2.y.E : Int) := h9
        show b.t.chg ≤ 900000
        omega
      · rintro e w9 ⟨rfl, b', H', h9⟩
        go_wp2_with fail
        go_ret
        have hlen := HSP.out.len
        rw [← hlen] at h9
        have P9 := winv_end TX2.out hla5 hd HSP.out.eq (fun e he => (hsn e he).2) (by rw [HNDE.out, HRM.out]; omega) h9
        exact ⟨0, rfl, S, by rw [hla]; exact HSP.out.eq, Or.inr ⟨rfl, by rw [HNDE.out, ← hrm, HRM.out]; omega, b', H', BS3.trans P9.st, TR3.trans P9.tr, P9.tx, P9.un, P9.chg, by rw [P9.E]; show x2.y.E + _ = _; rw [HR2.out.kin.E], P9.num, P9.keq⟩⟩
end Go.Proofs.YthajipigppndgaaGreat

namespace Go.Proofs.YthajipigppndgaaGreat
open Go.RowKit Go.Maps

set_option maxHeartbeats 1000000 in
set_option maxRecDepth 100000 in
theorem following_any {w : World} {b : Bk} (h : BkAt w b) {m : Mst} (hm : Mas b.x.y.S b.x.y.O m) (hn : 2 ≤ b.x.y.nb) (hs : m.seq ≤ 1000000) :
    Calls Tryz.prog 111 #[.pointer (some ⟨b.bp, 0, none⟩)] w fun e w' => e = .returned (.tuple #[.agg (mV ⟨m.seq + 1, m.turn, (b.x.y.E : Int) + 1⟩), .int .i64 0]) ∧ Fr [] w w' := by
  have hE := h.po.lo.hE
  have s0 : 1 ≤ m.seq := by obtain ⟨_, _, _, _, _, hk⟩ := hm; exact hk.s0
  obtain ⟨p, q, r⟩ := m
  dsimp only at hs s0 ⊢
  have q1 : ¬ 2305843009213693952 ≤ p := by omega
  obtain ⟨EE, hEE⟩ : ∃ EE : Int, (b.x.y.E : Int) + 1 = EE := ⟨_, rfl⟩
  have q2 : ¬ 2305843009213693952 < EE := by omega
  rw [hEE]
  have HEN : Hid (∀ w', BkAt w' b → Calls Tryz.prog 62 #[.pointer (some ⟨b.x.y.p, 0, none⟩)] w' fun e w'' => e = .returned (.int .i64 EE) ∧ w'' = w') := hidI (fun w' h' => by rw [← hEE]; exact lo_end h'.po.lo)
  clear hEE hE
  have q3 : IntKind.i64.wrap (p + 1) = p + 1 := wrapI _ (by omega) (by omega)
  have q4 : decide (2305843009213693952 ≤ p) = false := decide_eq_false q1
  have q5 : decide (p ≥ 2305843009213693952) = false := decide_eq_false q1
  have q6 : p < 2305843009213693952 := by omega
  have f1 : Fr [] w (w.alloc (.cells #[.int .i64 0, .int .i64 0, .int .i64 0] 159)) := (Fr.refl [] w).alloc _
  have hM := heap_alloc_new w (.cells #[.int .i64 0, .int .i64 0, .int .i64 0] 159)
  obtain ⟨w1, hw1⟩ : ∃ w1, w.alloc (.cells #[.int .i64 0, .int .i64 0, .int .i64 0] 159) = w1 := ⟨_, rfl⟩
  rw [hw1] at f1 hM
  have B1 := hidI (h.quiet f1)
  have c0 := B1.out.box.c0
  have HM := hidI hm
  clear h hm
  go_enter Tryz.func111, Tryz.ntmps111
  go_wp2_with fail
  refine (mas_read B1.out.po.lo.dev hn HM.out).mono ?_
  unfold mV
  rintro e w2 ⟨rfl, f2⟩
  have f3 : Fr [] w2 (w2.alloc (.cells #[.int .i64 p, .int .i64 q, .int .i64 r] 159)) := (Fr.refl [] w2).alloc _
  have hN := heap_alloc_new w2 (.cells #[.int .i64 p, .int .i64 q, .int .i64 r] 159)
  obtain ⟨w3, hw3⟩ : ∃ w3, w2.alloc (.cells #[.int .i64 p, .int .i64 q, .int .i64 r] 159) = w3 := ⟨_, rfl⟩
  rw [hw3] at f3 hN
  have B3 := hidI (B1.out.quiet (f2.trans f3))
  have d1 := B3.out.box.c1
  have x0 := cell_of_row _ w2.heap.size 0 _ _ _ hN
  have x1 := cell_of_row _ w2.heap.size 1 _ _ _ hN
  have hM3 := (f2.trans f3).same (by simp) hM
  dsimp only
  go_wp2_with (first
    | (go_at_call 62; refine (HEN.out _ B3.out).mono ?_; rintro e w9 ⟨rfl, hz⟩; rw [hz]; clear hz)
    | (refine wp_storeM rfl _ _ rfl w.heap.size ⟨0, 0, 0⟩ ⟨p + 1, q, EE⟩ rfl rfl hM3 ?_; intro w7 r7 f7))
  exact bodyPost_ret (resM2 Tryz.results111 _ _ _ ⟨p + 1, q, EE⟩ rfl r7) rfl ⟨rfl, (f1.trans (f2.trans f3)).then f7 (fun i hi e => by simp at e; omega)⟩
/-- A book behind a checkpoint: its pages stand on the device, its log is empty. -/
structure Pntd (b b' : Bk) (m : Mst) : Prop where
  al : Alike b.x b'.x
  t : b'.t = b.t
  nb : b'.x.y.nb = b.x.y.nb
  first : b'.x.y.first = b.x.y.first
  count : b'.x.y.count = b.x.y.count
  T : b'.x.y.T = b.x.y.T
  A : b'.x.y.A = b.x.y.E
  E : b'.x.y.E = b.x.y.E
  lw : b'.x.y.lw = b.x.y.lw
  mas : Mas b'.x.y.S b'.x.y.O ⟨m.seq + 1, m.turn, (b.x.y.E : Int) + 1⟩
  on : ∀ q, q < b.x.pages → ∀ l, Val b.x q l → pgD b.x.start b'.x.y q = l
section
variable {w : World} {b : Bk} {B : Nat} (hB : w.heap[B]? = some (.cells #[.pointer (some ⟨b.bp, 0, none⟩)] 32))
include hB
theorem pn1 (h : BkAt w b) : Calls Tryz.prog 112 #[.pointer (some ⟨B, 0, none⟩)] w fun e w' => e = .returned (.int .i64 0) ∧ ∃ x', Flushed b.x x' ∧ BStep w w' b { b with x := x' } := by
  have c0 := cell_of_row w B 0 _ _ _ hB
  have c2 := h.box.c2
  have HC := hidI (flush_any h.po)
  have HH := hidI h
  clear h hB
  go_enter Tryz.func112, Tryz.ntmps112
  go_wp2_with fail
  refine HC.out.mono ?_
  rintro e w2 ⟨rfl, x', st, fl⟩
  have S2 := BStep.pool HH.out st fl.kin.d fl.kin.p fl.al.2.2.2.1 (by
    rw [fl.fs]
    intro f hf
    obtain ⟨g, hg, rfl⟩ := List.mem_map.1 hf
    exact HH.out.hd0 g hg) (HH.out.ls.kin fl.kin)
  have S2' := hidI S2
  clear S2 st
  go_wp2_with fail
  go_ret
  exact ⟨rfl, x', fl, S2'.out⟩
end
/-- The device is turned, none of the pages. -/
theorem BStep.dev {w w' : World} {b : Bk} (h : BkAt w b) {S' O' : Dv.Tab} (hd : Dv.Dev w' b.x.y.d b.x.y.bs b.x.y.bo b.x.y.nb 0 false S' O') (f : Fr [b.x.y.d, b.x.y.bs, b.x.y.bo] w w') (hpg : ∀ k : Int, 2 ≤ k → Dv.latest S' O' k = Dv.latest b.x.y.S b.x.y.O k) (hst : 2 ≤ b.x.start) :
    BStep w w' b { b with x := { b.x with y := { b.x.y with S := S', O := O' } } } := by
  have L2 := h.po.lo
  have hty : ∀ (t : TypeId), t ≠ 168 → ∀ g ∈ [b.x.y.d, b.x.y.bs, b.x.y.bo], ∀ cur t', w.heap[g]? = some (.cells cur t') → t' ≠ t := by
    intro t h1 g hg cur t' e et
    subst et
    simp only [List.mem_cons, List.not_mem_nil, or_false] at hg
    rcases hg with rfl | rfl | rfl
    · rw [L2.dev.cells] at e
      cases e
      exact h1 rfl
    · obtain ⟨D', ⟨es, clock, hb, _⟩, _⟩ := L2.dev.safe
      rw [hb] at e
      cases e
    · obtain ⟨D', ⟨es, clock, hb, _⟩, _⟩ := L2.dev.opn
      rw [hb] at e
      cases e
  have nin : ∀ k cur t, w.heap[k]? = some (.cells cur t) → t ≠ 168 → k ∉ [b.x.y.d, b.x.y.bs, b.x.y.bo] := fun k cur t hc h1 hk => hty t h1 k hk cur t hc rfl
  have LO : LoAt w' { b.x.y with S := S', O := O' } :=
    { L2 with
      dev := hd
      box := L2.box.kept f (nin _ _ _ L2.box (by decide))
      bsA := own0_kept L2.bsA f (hty 5 (by decide))
      lsA := own0_kept L2.lsA f (hty 2 (by decide)) }
  have st : Step w w' b.x { b.x with y := { b.x.y with S := S', O := O' } } := Step.lower h.po LO f (fun k hk => by simp only [List.mem_cons, List.not_mem_nil, or_false] at hk; simp only [Lo.own, List.mem_append, List.mem_cons, List.not_mem_nil, or_false]; rcases hk with e | e | e <;> simp [e]) (fun k hk => Or.inl hk) rfl rfl rfl rfl rfl rfl rfl (Nat.le_refl _) (fun q hq => hpg _ (by omega)) rfl
  exact BStep.pool h st rfl rfl rfl h.hd0 ⟨h.ls.rise, h.ls.le⟩
theorem LsAt.len {w : World} {ad : Option Addr} {n c : Nat} {ls : List Int} (h : LsAt w ad n c ls) : ls.length = n := by
  have h1 := h.1
  simpa [lsV] using h1
theorem bin_end {ls : List Int} {k : Int} {i : Nat} (h : BinAt ls k i) (hl : ∀ v ∈ ls, v < k) : i = ls.length := by
  have h1 := h.le
  by_cases e : i = ls.length
  · exact e
  · have hv := List.getElem?_eq_getElem (l := ls) (i := i) (by omega)
    have h2 := h.hi _ hv
    have h3 := hl _ (List.mem_of_getElem? hv)
    omega
theorem LsOk.bin {y : Lo} (h : LsOk y) {i : Nat} (hb : BinAt y.ls ((y.E : Int) + 1) i) : y.ls.drop i = [] := by
  rw [bin_end hb (fun v hv => by have := (h.le v hv).2; omega)]
  exact List.drop_length
section
variable {w : World} {b : Bk} {B M : Nat} (hB : w.heap[B]? = some (.cells #[.pointer (some ⟨b.bp, 0, none⟩)] 32)) {m : Mst} (hM : MBox w M m)
include hB hM
set_option maxHeartbeats 1000000 in
set_option maxRecDepth 100000 in
theorem pn2 (h : BkAt w b) (hm : MOk m) (hn : 24 ≤ b.x.y.nb) (hst : 2 ≤ b.x.start) : Calls Tryz.prog 114 #[.pointer (some ⟨B, 0, none⟩), .pointer (some ⟨M, 0, none⟩)] w fun e w' => e = .returned (.int .i64 0) ∧ BStep w w' b { b with x := { b.x with y := { b.x.y with S := Dv.over b.x.y.S (b.x.y.O.put (m.seq % 2) (mBytes m)), O := Dv.Tab.none } } } := by
  have c0 := cell_of_row w B 0 _ _ _ hB
  have e0 := h.box.c0
  have m0 := cell_of_row w M 0 _ _ _ hM
  have m1 := cell_of_row w M 1 _ _ _ hM
  have m2 := cell_of_row w M 2 _ _ _ hM
  have HC : Hid (∀ w', Fr [] w w' → Calls Tryz.prog 115 #[.pointer (some ⟨b.x.y.d, 0, none⟩), .agg #[.int .i64 m.seq, .int .i64 m.turn, .int .i64 m.old]] w' fun e w'' => e = .returned (.int .i64 0) ∧ BStep w w'' b { b with x := { b.x with y := { b.x.y with S := Dv.over b.x.y.S (b.x.y.O.put (m.seq % 2) (mBytes m)), O := Dv.Tab.none } } }) := hidI (fun w' f => by
    have B1 := h.quiet f
    refine (mw_any w' _ _ _ _ _ _ B1.po.lo.dev hn m hm).mono ?_
    rintro e w'' ⟨he, hd, hf⟩
    refine ⟨he, (BStep.quiet h f).trans (BStep.dev B1 hd hf (fun k hk => ?_) hst)⟩
    rw [latest_sync, latest_put, if_neg (by omega)])
  clear h hB hM hm
  go_enter Tryz.func114, Tryz.ntmps114
  go_wp2_with fail
  go_region_law ((go_simp; go_at_call 115; refine (HC.out _ (Fr.refl [] w).drew).mono ?_; rintro e w2 ⟨rfl, h2⟩))
  all_goals
    go_wp2_with fail
    go_ret
    exact ⟨rfl, h2⟩
set_option maxHeartbeats 1000000 in
set_option maxRecDepth 100000 in
theorem pn3 (h : BkAt w b) (hm : m.old = (b.x.y.E : Int) + 1) : Calls Tryz.prog 116 #[.pointer (some ⟨B, 0, none⟩), .pointer (some ⟨M, 0, none⟩)] w fun e w' => e = .returned (.int .i64 0) ∧ ∃ y', Trimd b.x.y y' b.x.y.E ∧ BStep w w' b { b with x := { b.x with y := y' } } := by
  have c0 := cell_of_row w B 0 _ _ _ hB
  have e1 := h.box.c1
  have m2 := cell_of_row w M 2 _ _ _ hM
  rw [show (#[Value.int .i64 m.seq, .int .i64 m.turn, .int .i64 m.old] : Array Value)[2]? = some (.int .i64 ((b.x.y.E : Int) + 1)) by rw [← hm]; rfl] at m2
  have HC : Hid (∀ w', Fr [] w w' → Calls Tryz.prog 117 #[.pointer (some ⟨b.x.y.p, 0, none⟩), .int .i64 ((b.x.y.E : Int) + 1)] w' fun e w'' => e = .returned (.int .i64 0) ∧ ∃ y', Trimd b.x.y y' b.x.y.E ∧ BStep w w'' b { b with x := { b.x with y := y' } }) := hidI (fun w' f => by
    have B1 := h.quiet f
    refine (lo_trim B1.po.lo B1.po.lo.lsA.len b.x.y.E B1.po.lo.hAE (Nat.le_refl _) (fun i _ => Or.inr rfl)).mono ?_
    rintro e w'' ⟨he, y', i, L, tr, bi, hls, _, how, hf⟩
    refine ⟨he, y', tr, (BStep.quiet h f).trans ?_⟩
    have st : Step w' w'' b.x { b.x with y := y' } := Step.lower B1.po L hf (fun k hk => by simp only [List.mem_cons, List.not_mem_nil, or_false] at hk; simp [Lo.own, hk]) how tr.d tr.p tr.bs tr.bo tr.nb tr.first tr.count (by rw [tr.E]; exact Nat.le_refl _) (fun q hq => by unfold pgD; rw [tr.S, tr.O]) tr.lw
    refine BStep.pool B1 st tr.d tr.p rfl B1.hd0 ⟨?_, ?_⟩
    · show y'.ls.Pairwise _
      rw [hls, B1.ls.bin bi]
      exact List.Pairwise.nil
    · show ∀ v ∈ y'.ls, _
      rw [hls, B1.ls.bin bi]
      exact fun v hv => nomatch hv)
  clear h hB hM hm
  go_enter Tryz.func116, Tryz.ntmps116
  go_wp2_with fail
  go_region_law ((go_simp; go_at_call 117; refine (HC.out _ (Fr.refl [] w).drew).mono ?_; rintro e w2 ⟨rfl, h2⟩))
  all_goals
    go_wp2_with fail
    go_ret
    exact ⟨rfl, h2⟩
end
def flP (B M : Nat) : List (FuncId × List Value) := [(112, [.pointer (some ⟨B, 0, none⟩)]), (114, [.pointer (some ⟨B, 0, none⟩), .pointer (some ⟨M, 0, none⟩)]), (116, [.pointer (some ⟨B, 0, none⟩), .pointer (some ⟨M, 0, none⟩)])]
theorem enP (w : World) (B M : Nat) : ∀ (i : Nat) (p : FuncId × List Value), (flP B M)[i]? = some p → (callFunc p.1 p.2.toArray).run Tryz.prog w = .ok (.enter p.1 p.2.toArray) w
  | 0, p, h => by cases h; go_simp
  | 1, p, h => by cases h; go_simp
  | 2, p, h => by cases h; go_simp
  | n + 3, p, h => by simp [flP] at h
/-- What a book is behind the first step of Point, and behind the second. -/
structure Pn1 (b b' : Bk) : Prop where
  fl : Flushed b.x b'.x
  t : b'.t = b.t
structure Pn2 (b b' : Bk) (m' : Mst) : Prop where
  al : Alike b.x b'.x
  t : b'.t = b.t
  nb : b'.x.y.nb = b.x.y.nb
  first : b'.x.y.first = b.x.y.first
  count : b'.x.y.count = b.x.y.count
  T : b'.x.y.T = b.x.y.T
  E : b'.x.y.E = b.x.y.E
  lw : b'.x.y.lw = b.x.y.lw
  mas : Mas b'.x.y.S b'.x.y.O m'
  on : ∀ q, q < b.x.pages → ∀ l, Val b.x q l → pgD b.x.start b'.x.y q = l
def PnI (wt : World) (b : Bk) (m : Mst) : Nat → World → Prop
  | 0, wr => BStep wt wr b b
  | 1, wr => ∃ b', BStep wt wr b b' ∧ Pn1 b b'
  | 2, wr => ∃ b', BStep wt wr b b' ∧ Pn2 b b' ⟨m.seq + 1, m.turn, (b.x.y.E : Int) + 1⟩
  | _, wr => ∃ b', BStep wt wr b b' ∧ Pntd b b' m
theorem PnI.st {wt : World} {b : Bk} {m : Mst} {i : Nat} {wr : World} (h : PnI wt b m i wr) : ∃ b', BStep wt wr b b' := by
  match i, h with
  | 0, h => exact ⟨_, h⟩
  | 1, ⟨b', h, _⟩ => exact ⟨b', h⟩
  | 2, ⟨b', h, _⟩ => exact ⟨b', h⟩
  | n + 3, ⟨b', h, _⟩ => exact ⟨b', h⟩
theorem Pn1.then {b b' : Bk} {m : Mst} (h : Pn1 b b') (hlw : 2 ≤ b.x.y.lw) (hst : 2 ≤ b.x.start) (hm : Mas b.x.y.S b.x.y.O m) {m' : Mst} (hk : MOk m') (hs : m'.seq = m.seq + 1) : Pn2 b { b' with x := { b'.x with y := { b'.x.y with S := Dv.over b'.x.y.S (b'.x.y.O.put (m'.seq % 2) (mBytes m')), O := Dv.Tab.none } } } m' := by
  have k := h.fl.kin
  have hl : ∀ j : Int, 2 ≤ j → Dv.latest (Dv.over b'.x.y.S (b'.x.y.O.put (m'.seq % 2) (mBytes m'))) Dv.Tab.none j = Dv.latest b'.x.y.S b'.x.y.O j := fun j hj => by rw [latest_sync, latest_put, if_neg (by omega)]
  have e1 := h.fl.al.1
  refine ⟨h.fl.al.trans (val_y (fun q _ => hl _ (by rw [e1]; omega))), h.t, k.nb, k.first, k.count, k.T, k.E, k.lw, ?_, fun q hq l hv => ?_⟩
  · have m1 : Mas b'.x.y.S b'.x.y.O m := hm.like (fun j hj => k.low j (by omega))
    exact (m1.put hk hs).like (fun j _ => latest_sync _ _ j)
  · show Dv.latest _ _ _ = l
    rw [hl _ (by omega)]
    exact h.fl.on q hq l hv
theorem Pn2.then {b b' : Bk} {m : Mst} (h : Pn2 b b' ⟨m.seq + 1, m.turn, (b.x.y.E : Int) + 1⟩) {y' : Lo} (tr : Trimd b'.x.y y' b'.x.y.E) : Pntd b { b' with x := { b'.x with y := y' } } m :=
  ⟨h.al.trans (val_y (fun q _ => by unfold pgD; rw [tr.S, tr.O])), h.t, tr.nb.trans h.nb, tr.first.trans h.first, tr.count.trans h.count, tr.T.trans h.T, tr.A.trans h.E, tr.E.trans h.E, tr.lw.trans h.lw, by
    show Mas y'.S y'.O _
    rw [tr.S, tr.O]
    exact h.mas, fun q hq l hv => by
    show Dv.latest y'.S y'.O _ = l
    rw [tr.S, tr.O]
    exact h.on q hq l hv⟩
set_option maxHeartbeats 2000000 in
set_option maxRecDepth 100000 in
theorem point_any {w : World} {b : Bk} (h : BkAt w b) (ht : b.t = dl0) {m : Mst} (hm : Mas b.x.y.S b.x.y.O m) (hn : 24 ≤ b.x.y.nb) (hs : m.seq ≤ 1000000) (hst : 2 ≤ b.x.start) (hlw : 2 ≤ b.x.y.lw) :
    Calls Tryz.prog 61 #[.pointer (some ⟨b.bp, 0, none⟩)] w fun e w' => e = .returned (.int .i64 0) ∧ ∃ b', BStep w w' b b' ∧ Pntd b b' m := by
  have HH := hidI h
  have HM := hidI hm
  have h0 : b.t.st = 0 := by rw [ht]; rfl
  have hlt := hidI h.lt
  have hE := h.po.lo.hE
  have HK : Hid (MOk ⟨m.seq + 1, m.turn, (b.x.y.E : Int) + 1⟩) := hidI (by
    obtain ⟨_, _, _, _, _, hk⟩ := hm
    have h1 := hk.s0
    exact ⟨by show 1 ≤ m.seq + 1; omega, by show m.seq + 1 < _; omega, hk.t0, hk.t1, by show 1 ≤ (b.x.y.E : Int) + 1; omega, by show (b.x.y.E : Int) + 1 ≤ _; omega⟩)
  have fa : Fr [] w (w.alloc (.cells #[.pointer (some ⟨b.bp, 0, none⟩)] 32)) := (Fr.refl [] w).alloc _
  have hB := heap_alloc_new w (.cells #[.pointer (some ⟨b.bp, 0, none⟩)] 32)
  have hs1 : (w.alloc (.cells #[.pointer (some ⟨b.bp, 0, none⟩)] 32)).heap.size = w.heap.size + 1 := by simp
  obtain ⟨w1, hw1⟩ : ∃ w1, w.alloc (.cells #[.pointer (some ⟨b.bp, 0, none⟩)] 32) = w1 := ⟨_, rfl⟩
  rw [hw1] at fa hB hs1
  have c0 := cell_of_row w1 w.heap.size 0 _ _ _ hB
  have B1 := hidI (h.quiet fa)
  clear h hm
  go_enter Tryz.func61, Tryz.ntmps61
  go_wp2_with (go_at_call 58; refine (idle_out B1.out.box B1.out.dl h0).mono ?_; rintro e wz ⟨rfl, hz⟩; rw [hz]; clear hz)
  refine (following_any B1.out HM.out (by omega) hs).mono ?_
  unfold mV
  rintro e w2 ⟨rfl, f2⟩
  dsimp only
  have f3 : Fr [] w2 (w2.alloc (.cells #[.int .i64 (m.seq + 1), .int .i64 m.turn, .int .i64 ((b.x.y.E : Int) + 1)] 159)) := (Fr.refl [] w2).alloc _
  have hN := heap_alloc_new w2 (.cells #[.int .i64 (m.seq + 1), .int .i64 m.turn, .int .i64 ((b.x.y.E : Int) + 1)] 159)
  have hs3 : (w2.alloc (.cells #[.int .i64 (m.seq + 1), .int .i64 m.turn, .int .i64 ((b.x.y.E : Int) + 1)] 159)).heap.size = w2.heap.size + 1 := by simp
  obtain ⟨w3, hw3⟩ : ∃ w3, w2.alloc (.cells #[.int .i64 (m.seq + 1), .int .i64 m.turn, .int .i64 ((b.x.y.E : Int) + 1)] 159) = w3 := ⟨_, rfl⟩
  rw [hw3] at f3 hN hs3
  go_wp2_with fail
  have fc : Fr [] w3 (w3.alloc (.cells #[.func (.func 112) #[] #[.pointer (some ⟨w.heap.size, 0, none⟩)], .func (.func 114) #[] #[.pointer (some ⟨w.heap.size, 0, none⟩), .pointer (some ⟨w2.heap.size, 0, none⟩)], .func (.func 116) #[] #[.pointer (some ⟨w.heap.size, 0, none⟩), .pointer (some ⟨w2.heap.size, 0, none⟩)]] 53)) := (Fr.refl [] w3).alloc _
  have hfl := heap_alloc_new w3 (.cells #[.func (.func 112) #[] #[.pointer (some ⟨w.heap.size, 0, none⟩)], .func (.func 114) #[] #[.pointer (some ⟨w.heap.size, 0, none⟩), .pointer (some ⟨w2.heap.size, 0, none⟩)], .func (.func 116) #[] #[.pointer (some ⟨w.heap.size, 0, none⟩), .pointer (some ⟨w2.heap.size, 0, none⟩)]] 53)
  rw [hs3] at hfl
  generalize (w3.alloc (.cells #[.func (.func 112) #[] #[.pointer (some ⟨w.heap.size, 0, none⟩)], .func (.func 114) #[] #[.pointer (some ⟨w.heap.size, 0, none⟩), .pointer (some ⟨w2.heap.size, 0, none⟩)], .func (.func 116) #[] #[.pointer (some ⟨w.heap.size, 0, none⟩), .pointer (some ⟨w2.heap.size, 0, none⟩)]] 53)) = wt at fc hfl ⊢
  have hBt := fc.same (by simp) (f3.same (by simp) (f2.same (by simp) hB))
  have hNt : MBox wt w2.heap.size ⟨m.seq + 1, m.turn, (b.x.y.E : Int) + 1⟩ := fc.same (by simp) hN
  have ft := fa.trans (f2.trans (f3.trans fc))
  have BT := HH.out.quiet ft
  have le2 : w.heap.size ≤ w2.heap.size := (fa.trans f2).size
  have hout : ∀ j, w.heap.size ≤ j → j ∉ b.dp :: b.x.own := fun j hj hm => by
    have := hlt.out j (by rcases List.mem_cons.1 hm with e | e <;> simp [e])
    omega
  refine (inTurn_ok wt (some ⟨w2.heap.size + 1, 0, none⟩) 3 3 (flP w.heap.size w2.heap.size) rfl (by omega) (PnI wt b m) (BStep.quiet BT (Fr.refl [] wt)) ?_ (fun i p hp w' => enP w' _ _ i p hp) ?_).mono ?_
  · intro i w' hI j p hp
    obtain ⟨b', st⟩ := hI.st
    have h3 := st.fr.same (hout (w2.heap.size + 1) (by omega)) hfl
    refine ⟨_, rfl, ?_⟩
    rw [cell_of_row w' _ j _ _ _ h3]
    match j, hp with
    | 0, hp => cases hp; rfl
    | 1, hp => cases hp; rfl
    | 2, hp => cases hp; rfl
    | n + 3, hp => simp [flP] at hp
  · intro i p hp w' hI
    have hbox : ∀ b', BStep wt w' b b' → w'.heap[w.heap.size]? = some (.cells #[.pointer (some ⟨b'.bp, 0, none⟩)] 32) := fun b' st => by
      rw [st.bp]
      exact st.fr.same (hout _ (Nat.le_refl _)) hBt
    have hmb : ∀ b', BStep wt w' b b' → MBox w' w2.heap.size ⟨m.seq + 1, m.turn, (b.x.y.E : Int) + 1⟩ := fun b' st => st.fr.same (hout _ le2) hNt
    match i, hp, hI with
    | 0, hp, hI =>
      cases hp
      refine (pn1 (hbox _ hI) hI.at').mono ?_
      rintro e w9 ⟨rfl, x', fl, st⟩
      exact ⟨rfl, _, hI.trans st, fl, rfl⟩
    | 1, hp, ⟨b', st, ct⟩ =>
      cases hp
      refine (pn2 (hbox _ st) (hmb _ st) st.at' HK.out (by rw [ct.fl.kin.nb]; exact hn) (by rw [ct.fl.al.1]; exact hst)).mono ?_
      rintro e w9 ⟨rfl, st2⟩
      exact ⟨rfl, _, st.trans st2, ct.then hlw hst HM.out HK.out rfl⟩
    | 2, hp, ⟨b', st, ct⟩ =>
      cases hp
      refine (pn3 (hbox _ st) (hmb _ st) st.at' (by rw [ct.E])).mono ?_
      rintro e w9 ⟨rfl, y', tr, st2⟩
      exact ⟨rfl, _, st.trans st2, ct.then tr⟩
    | n + 3, hp, _ => simp [flP] at hp
  · rintro e w9 ⟨rfl, b', st, ct⟩
    go_wp2_with fail
    go_ret
    exact ⟨rfl, b', (BStep.quiet HH.out ft).trans st, ct⟩
end Go.Proofs.YthajipigppndgaaGreat

