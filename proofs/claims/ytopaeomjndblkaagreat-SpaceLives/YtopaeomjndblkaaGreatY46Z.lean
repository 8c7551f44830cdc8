/-
  The free pages, one behind the other: as mathematics; what is done with each.
-/
import Derived.Test.YtopaeomjndblkaaGreatY45Z
import Derived.Deep.LoopGhost
import Derived.WalkMore
namespace Go.Proofs.YtopaeomjndblkaaGreat
open Go.RowKit Go.Maps
open Pg (SpE diffS byteAt)

/-- b' is b, but for frames. -/
structure Rd (w0 w' : World) (bp : Nat) (K : List (Nat × Obj)) (b b' : Bk) : Prop where
  ab : Ab w0 w' bp b' K
  tr : Tr b b'
  t : b'.t = b.t
  E : b'.x.y.E = b.x.y.E
  sh : ∀ V, Shows b.x V → Shows b'.x V
  tx : ∀ H V, InTx b H V → InTx b' H V
section
variable {w0 w w' : World} {bp : Nat} {K : List (Nat × Obj)} {b b1 b' : Bk}
theorem Rd.refl (h : Ab w0 w bp b K) : Rd w0 w bp K b b := ⟨h, Tr.refl b, rfl, rfl, fun _ h => h, fun _ _ h => h⟩
theorem Rd.trans {K1 : List (Nat × Obj)} (h : Rd w0 w bp K1 b b1) (k : Rd w0 w' bp K b1 b') : Rd w0 w' bp K b b' := ⟨k.ab, h.tr.trans k.tr, k.t.trans h.t, k.E.trans h.E, fun V hs => k.sh V (h.sh V hs), fun H V ht => k.tx H V (h.tx H V ht)⟩
theorem Rd.on {K1 : List (Nat × Obj)} (h : Rd w0 w bp K b b') (k : Ab w0 w' bp b' K1) : Rd w0 w' bp K1 b b' := ⟨k, h.tr, h.t, h.E, h.sh, h.tx⟩
theorem Rd.quiet (h : Rd w0 w bp K b b') (f : Fr [] w w') : Rd w0 w' bp K b b' := h.on (h.ab.quiet f)
theorem Rd.of {l : List UInt8} {g : Nat} {w2 w1 : World} (h : Ab w0 w' bp b' K) (P : PgTo w2 w1 b l g b') : Rd w0 w' bp K b b' := ⟨h, P.tr, P.t, P.E, P.sh, P.tx⟩
theorem Rd.idle (h : Rd w0 w bp K b b') {V : Pages} (hi : Idle b V) : Idle b' V := ⟨h.t.trans hi.t, h.sh V hi.sh, by rw [h.tr.T]; exact hi.t0, by rw [h.tr.T]; exact hi.t1⟩
theorem Ab.len (h : Ab w0 w bp b K) {V : Pages} (hv : Shows b.x V) {q : Nat} (hq : q < b.x.pages) : (V q).length = 512 := (hv q hq).len h.bk.po
theorem Ab.fresh (h : Ab w0 w bp b K) {g : Nat} (hg : w.heap.size ≤ g) : w0.heap.size ≤ g ∧ g ∉ b.dp :: b.x.own ∧ ∀ p ∈ K, p.1 ≠ g := by
  refine ⟨Nat.le_trans h.fr.size hg, fun hm => ?_, fun p hp e => ?_⟩
  · have := h.bk.lt g (by rcases List.mem_cons.1 hm with e | e <;> simp [e])
    omega
  · have h1 := (Array.getElem?_eq_some_iff.1 (h.kp p hp).1).1
    omega
end
section
variable {w0 w : World} {bp : Nat} {b : Bk} {K : List (Nat × Obj)} (h : Ab w0 w bp b K)
include h
theorem rd_page {V : Pages} (hv : Shows b.x V) {page : Nat} (hp : page < b.x.pages) :
    Calls Tryz.prog 28 #[.pointer (some ⟨bp, 0, none⟩), .int .i64 (page : Int)] w fun e w' => ∃ g b', e = .returned (.tuple #[.slice (some ⟨g, 0, none⟩) 512 512, .int .i64 0]) ∧ Hid (Rd w0 w' bp K b b' ∧ Blk w' g (V page) ∧ g ∉ b'.dp :: b'.x.own ∧ w.heap.size ≤ g) := by
  refine (ab_page h hv hp).mono ?_
  rintro e w' ⟨g, b', he, P⟩
  exact ⟨g, b', he, hidI ⟨Rd.of P.out.1 P.out.2, P.out.2.blk, P.out.2.out, P.out.2.new⟩⟩
theorem rd_head {V : Pages} (hv : Shows b.x V) (hp : 0 < b.x.pages) (hp2 : b.x.pages ≤ 1000000) (hd : IsHd b.x.pages (V 0)) :
    Calls Tryz.prog 151 #[.pointer (some ⟨bp, 0, none⟩)] w fun e w' => ∃ g b', e = .returned (.tuple #[.slice (some ⟨g, 0, none⟩) 512 512, .int .i64 0]) ∧ Hid (Rd w0 w' bp K b b' ∧ Blk w' g (V 0) ∧ g ∉ b'.dp :: b'.x.own ∧ w.heap.size ≤ g) := by
  refine (shead_yes h hv hp hp2 (h.len hv hp) hd).mono ?_
  rintro e w' ⟨g, b', he, P⟩
  obtain ⟨A, B, w1, Q, _⟩ := P.out
  exact ⟨g, b', he, hidI ⟨Rd.of A Q, B, Q.out, Q.new⟩⟩
theorem rd_headNo {V : Pages} (hv : Shows b.x V) (hp : 0 < b.x.pages) (hp2 : b.x.pages ≤ 1000000) (hd : ¬ IsHd b.x.pages (V 0)) :
    Calls Tryz.prog 151 #[.pointer (some ⟨bp, 0, none⟩)] w fun e w' => ∃ b', e = .returned (.tuple #[.slice none 0 0, .int .i64 4]) ∧ Hid (Rd w0 w' bp K b b') := by
  refine (shead_not h hv hp hp2 (h.len hv hp) hd).mono ?_
  rintro e w' ⟨b', he, P⟩
  obtain ⟨A, g, w1, Q, _⟩ := P.out
  exact ⟨b', he, hidI (Rd.of A Q)⟩
theorem rd_taken {V : Pages} (hv : Shows b.x V) (hp : 3 ≤ b.x.pages) (hp2 : b.x.pages ≤ 1000000) (hd : IsHd b.x.pages (V 0)) (k : Nat) (hk : k < b.x.pages) :
    Calls Tryz.prog 147 #[.pointer (some ⟨bp, 0, none⟩), .int .i64 (k : Int)] w fun e w' => ∃ b', e = .returned (.tuple #[.bool (MkB V k), .int .i64 0]) ∧ Hid (Rd w0 w' bp K b b') := by
  refine (staken_in h hv hp hp2 (fun q hq => h.len hv hq) hd (fun w1 g b' P => P.sh V hv) k hk).mono ?_
  rintro e w' ⟨b'', he, P⟩
  obtain ⟨g, w1, b', w2, g2, w3, A, Q, _, _, Q2⟩ := P.out
  exact ⟨b'', he, hidI ⟨A, Q.tr.trans Q2.tr, Q2.t.trans Q.t, Q2.E.trans Q.E, fun V hs => Q2.sh V (Q.sh V hs), fun H V ht => Q2.tx H V (Q.tx H V ht)⟩⟩
theorem rd_takenOut {V : Pages} (hv : Shows b.x V) (hp : 3 ≤ b.x.pages) (hp2 : b.x.pages ≤ 1000000) (hd : IsHd b.x.pages (V 0)) (k : Int) (hk : k < 0 ∨ (b.x.pages : Int) ≤ k) :
    Calls Tryz.prog 147 #[.pointer (some ⟨bp, 0, none⟩), .int .i64 k] w fun e w' => ∃ b', e = .returned (.tuple #[.bool false, .int .i64 0]) ∧ Hid (Rd w0 w' bp K b b') := by
  refine (staken_out h hv hp hp2 (h.len hv (by omega)) hd k hk).mono ?_
  rintro e w' ⟨b', he, P⟩
  obtain ⟨g, w1, A, Q, _⟩ := P.out
  exact ⟨b', he, hidI (Rd.of A Q)⟩
theorem rd_takenNo {V : Pages} (hv : Shows b.x V) (hp : 0 < b.x.pages) (hp2 : b.x.pages ≤ 1000000) (hd : ¬ IsHd b.x.pages (V 0)) (k : Int) :
    Calls Tryz.prog 147 #[.pointer (some ⟨bp, 0, none⟩), .int .i64 k] w fun e w' => ∃ b', e = .returned (.tuple #[.bool false, .int .i64 4]) ∧ Hid (Rd w0 w' bp K b b') := by
  refine (staken_not h hv hp hp2 (h.len hv hp) hd k).mono ?_
  rintro e w' ⟨b', he, P⟩
  obtain ⟨A, g, w1, Q, _⟩ := P.out
  exact ⟨b', he, hidI (Rd.of A Q)⟩
theorem rd_root {V : Pages} (hv : Shows b.x V) (hp : 0 < b.x.pages) (hp2 : b.x.pages ≤ 1000000) (hd : IsHd b.x.pages (V 0)) (k : Nat) (hk : k < 8) :
    Calls Tryz.prog 65 #[.pointer (some ⟨bp, 0, none⟩), .int .i64 (k : Int)] w fun e w' => ∃ b', e = .returned (.tuple #[.int .i64 (numAt (V 0) (8 + 4 * k) : Int), .int .i64 0]) ∧ Hid (Rd w0 w' bp K b b') := by
  refine (sroot_yes h hv hp hp2 (h.len hv hp) hd k hk).mono ?_
  rintro e w' ⟨b', he, P⟩
  obtain ⟨g, w1, A, Q, _⟩ := P.out
  exact ⟨b', he, hidI (Rd.of A Q)⟩
end
/-- A book in a transaction of a law. U: its pages as the transaction began. -/
structure In (w0 w : World) (bp : Nat) (K : List (Nat × Obj)) (nb : Nat) (m : Mst) (U : Pages) (b : Bk) (H : List Ch) (V : Pages) : Prop where
  ab : Ab w0 w bp b K
  env : Env b nb m
  tx : InTx b H V
  un : undoAll H V = U
/-- How much of the log a transaction has taken, and will take. -/
def phN (b : Bk) (H : List Ch) : Int := (b.x.y.E : Int) + keptOf H
def capN (b : Bk) : Int := 408 * (b.x.y.count - 1) + (b.x.y.A : Int)
/-- A call that went through, or not at all: what is behind it. -/
structure Did (w0 w' : World) (bp : Nat) (K : List (Nat × Obj)) (nb : Nat) (m : Mst) (U : Pages) (b : Bk) (H : List Ch) (V' : Pages) (c : Int) (b' : Bk) (H' : List Ch) : Prop where
  i : In w0 w' bp K nb m U b' H' V'
  tr : Tr b b'
  ph : phN b' H' ≤ phN b H + c
section
variable {w0 w w' w2 : World} {bp : Nat} {K : List (Nat × Obj)} {nb : Nat} {m : Mst} {U : Pages} {b b' b2 : Bk} {H H' H2 : List Ch} {V V' V2 : Pages} {c d : Int}
theorem In.rd {K1 : List (Nat × Obj)} (h : In w0 w bp K nb m U b H V) (r : Rd w0 w' bp K1 b b') : In w0 w' bp K1 nb m U b' H V := ⟨r.ab, h.env.tr r.tr, r.tx H V h.tx, h.un⟩
theorem In.quiet (h : In w0 w bp K nb m U b H V) (f : Fr [] w w') : In w0 w' bp K nb m U b H V := ⟨h.ab.quiet f, h.env, h.tx, h.un⟩
theorem In.on {K1 : List (Nat × Obj)} (h : In w0 w bp K nb m U b H V) (k : Ab w0 w' bp b K1) : In w0 w' bp K1 nb m U b H V := ⟨k, h.env, h.tx, h.un⟩
theorem In.did (h : In w0 w bp K nb m U b H V) : Did w0 w bp K nb m U b H V 0 b H := ⟨h, Tr.refl b, by omega⟩
theorem Rd.did (r : Rd w0 w' bp K b b') (h : In w0 w bp K nb m U b H V) : Did w0 w' bp K nb m U b H V 0 b' H := ⟨h.rd r, r.tr, by unfold phN; rw [r.E]; omega⟩
theorem Did.trans (h : Did w0 w bp K nb m U b H V c b' H') (k : Did w0 w' bp K nb m U b' H' V2 d b2 H2) : Did w0 w' bp K nb m U b H V2 (c + d) b2 H2 := ⟨k.i, h.tr.trans k.tr, by have := h.ph; have := k.ph; omega⟩
theorem Did.le (h : Did w0 w bp K nb m U b H V c b' H') (hc : c ≤ d) : Did w0 w bp K nb m U b H V d b' H' := ⟨h.i, h.tr, by have := h.ph; omega⟩
theorem Did.quiet (h : Did w0 w bp K nb m U b H V c b' H') (f : Fr [] w w') : Did w0 w' bp K nb m U b H V c b' H' := ⟨h.i.quiet f, h.tr, h.ph⟩
theorem Did.rd (h : Did w0 w bp K nb m U b H V c b' H') (r : Rd w0 w' bp K b' b2) : Did w0 w' bp K nb m U b H V c b2 H' := ⟨h.i.rd r, h.tr.trans r.tr, by have := h.ph; unfold phN at *; rw [r.E]; omega⟩
theorem Tr.cap (h : Tr b b') : capN b' = capN b := by unfold capN; rw [h.count, h.A]
theorem In.pg (h : In w0 w bp K nb m U b H V) : (b.x.pages : Int) = (nb : Int) - 2 - (nb : Int) / 2 := h.env.pages
theorem In.pg3 (h : In w0 w bp K nb m U b H V) : 10 ≤ b.x.pages ∧ b.x.pages ≤ 65536 := by
  have h1 := h.env.pages
  have h2 := h.env.n0
  have h3 := h.env.n1
  omega
theorem In.E (_h : In w0 w bp K nb m U b H V) : (b.x.y.E : Int) ≤ phN b H := by
  have := keptOf_nonneg H
  unfold phN
  omega
theorem In.len (h : In w0 w bp K nb m U b H V) {q : Nat} (hq : q < b.x.pages) : (V q).length = 512 := h.ab.len h.tx.sh hq
theorem In.capn (h : In w0 w bp K nb m U b H V) : capN b = 408 * ((nb : Int) / 2 - 1) + (b.x.y.A : Int) := by
  unfold capN
  rw [h.env.count]
theorem In.top (h : In w0 w bp K nb m U b H V) : phN b H + 35 ≤ capN b := by
  have := h.tx.room
  unfold phN capN
  omega
theorem PutOk.did {S : List SpE} {page : Nat} {data : List UInt8} (h : In w0 w bp K nb m U b H V) {w1 : World} (ab : Ab w0 w' bp b' K) (ok : PutOk w1 w' b H V page data S b' H') (hc : sumN S ≤ c) : Did w0 w' bp K nb m U b H (setPg V page data) c b' H' := by
  refine ⟨⟨ab, ok.env h.env, ok.tx, ok.un.trans h.un⟩, ok.tr, ?_⟩
  have h1 := ok.E
  have h2 := ok.keq
  have h3 := sumN_eq S
  unfold phN
  omega
theorem PutNo.did (h : In w0 w bp K nb m U b H V) {w1 : World} (ab : Ab w0 w' bp b' K) (no : PutNo w1 w' b H V b') : Did w0 w' bp K nb m U b H V 0 b' H := by
  refine ⟨⟨ab, h.env.tr no.tr, no.tx, h.un⟩, no.tr, ?_⟩
  have h1 := no.E
  unfold phN
  omega
/-- A Put, and what it costs. -/
theorem in_put (h : In w0 w bp K nb m U b H V) {page : Nat} (hp : page < b.x.pages) {g k : Nat} {data : List UInt8} (hd : data.length = 512) (hk : 512 ≤ k) (hb : BytesAt w (some ⟨g, 0, none⟩) data) (hgo : g ∉ b.dp :: b.x.own) (hP : phN b H ≤ 380000) (hc : ∀ S : List SpE, S.map (fun e => (e.off, e.off + e.n)) = diffS (V page) data → sumN S ≤ c) :
    Calls Tryz.prog 31 #[.pointer (some ⟨bp, 0, none⟩), .int .i64 (page : Int), .slice (some ⟨g, 0, none⟩) 512 k] w fun e w' => ∃ r : Int, e = .returned (.int .i64 r) ∧ Hid ((r = 5 ∧ capN b < phN b H + 35 + c ∧ ∃ b', Did w0 w' bp K nb m U b H V 0 b' H) ∨ (r = 0 ∧ ∃ b' H', Did w0 w' bp K nb m U b H (setPg V page data) c b' H')) := by
  have hE := h.E
  refine (ab_put h.ab h.env h.tx hp hd hk hb hgo (by omega)).mono ?_
  rintro e w' ⟨r, he, P⟩
  obtain ⟨S, hS, hq⟩ := P.out
  have hs := hc S hS
  refine ⟨r, he, hidI ?_⟩
  rcases hq with ⟨h1, h2, b', h3, no⟩ | ⟨h1, h2, b', H', h3, ok⟩
  · refine Or.inl ⟨h1, ?_, b', PutNo.did h h3 no⟩
    unfold Bk.room at h2
    unfold capN phN
    omega
  · exact Or.inr ⟨h1, b', H', PutOk.did h h3 ok hs⟩
theorem byteAt_set_ne {l : List UInt8} {q k : Nat} (x : UInt8) (h : k ≠ q) : byteAt (l.set q x) k = byteAt l k := by
  unfold byteAt
  rw [List.getD_eq_getElem?_getD, List.getD_eq_getElem?_getD, List.getElem?_set_ne (by omega)]
theorem cost_set {l : List UInt8} {q : Nat} {x : UInt8} {S : List SpE} (hS : S.map (fun e => (e.off, e.off + e.n)) = diffS l (l.set q x)) : sumN S ≤ 97 := by
  have h := sum_within (i := q) (j := q + 1) (fun k _ hk => (byteAt_set_ne x (by omega)).symm) hS
  omega
theorem sremap_did {k : Nat} {z : UInt8} (h : In w0 w bp K nb m U b H V) {r : Int} (P : (∃ g b' w1 w2 w3, Fr [] w w1 ∧ PgTo w1 w2 b (V (1 + k / 4096)) g b' ∧ Fr [g] w2 w3 ∧ Ab w0 w3 bp b' K ∧ ∃ S : List SpE, S.map (fun e => (e.off, e.off + e.n)) = diffS (V (1 + k / 4096)) ((V (1 + k / 4096)).set (k % 4096 / 8) z) ∧ ((r = 5 ∧ b'.room < keptOf H + 35 + sumN S ∧ ∃ b'', Ab w0 w' bp b'' K ∧ PutNo w3 w' b' H V b'') ∨ (r = 0 ∧ keptOf H + 35 + sumN S ≤ b'.room ∧ ∃ b'' H', Ab w0 w' bp b'' K ∧ PutOk w3 w' b' H V (1 + k / 4096) ((V (1 + k / 4096)).set (k % 4096 / 8) z) S b'' H')))) :
    (r = 5 ∧ capN b < phN b H + 35 + 97 ∧ ∃ b', Did w0 w' bp K nb m U b H V 0 b' H) ∨ (r = 0 ∧ ∃ b' H', Did w0 w' bp K nb m U b H (setPg V (1 + k / 4096) ((V (1 + k / 4096)).set (k % 4096 / 8) z)) 97 b' H') := by
  obtain ⟨g, b', w1, w2, w3, _, Q, _, A3, S, hS, hq⟩ := P
  have r3 : Rd w0 w3 bp K b b' := Rd.of A3 Q
  have d3 := r3.did h
  have hs := cost_set hS
  rcases hq with ⟨h1, h2, b'', h3, no⟩ | ⟨h1, h2, b'', H', h3, ok⟩
  · refine Or.inl ⟨h1, ?_, b'', ((d3.trans (PutNo.did d3.i h3 no)).le (by omega))⟩
    have e1 := d3.tr.cap
    have e2 := d3.ph
    unfold Bk.room at h2
    unfold capN phN at *
    omega
  · exact Or.inr ⟨h1, b'', H', (d3.trans (PutOk.did d3.i h3 ok hs)).le (by omega)⟩
end
theorem in_remapTake {w0 w : World} {bp : Nat} {K : List (Nat × Obj)} {nb : Nat} {m : Mst} {U : Pages} {b : Bk} {H : List Ch} {V : Pages} (h : In w0 w bp K nb m U b H V) (hP : phN b H ≤ 380000) (k : Nat) (hk : k < b.x.pages) :
    Calls Tryz.prog 156 #[.pointer (some ⟨bp, 0, none⟩), .int .i64 (k : Int), .func (.func 157) #[] #[]] w fun e w' => ∃ r : Int, e = .returned (.int .i64 r) ∧ Hid ((r = 5 ∧ capN b < phN b H + 35 + 97 ∧ ∃ b', Did w0 w' bp K nb m U b H V 0 b' H) ∨ (r = 0 ∧ ∃ b' H', Did w0 w' bp K nb m U b H (setPg V (1 + k / 4096) ((V (1 + k / 4096)).set (k % 4096 / 8) (setB (byteAt (V (1 + k / 4096)) (k % 4096 / 8)) (k % 8)))) 97 b' H')) := by
  have hE := h.E
  have h3 := h.pg3
  have hq : 1 + k / 4096 < b.x.pages := by omega
  refine (sremap_take h.ab h.env h.tx (by omega) k hq (by omega) (h.len hq)).mono ?_
  rintro e w' ⟨r, he, P⟩
  exact ⟨r, he, hidI (sremap_did h P.out)⟩
theorem in_remapGive {w0 w : World} {bp : Nat} {K : List (Nat × Obj)} {nb : Nat} {m : Mst} {U : Pages} {b : Bk} {H : List Ch} {V : Pages} (h : In w0 w bp K nb m U b H V) (hP : phN b H ≤ 380000) (k : Nat) (hk : k < b.x.pages) :
    Calls Tryz.prog 156 #[.pointer (some ⟨bp, 0, none⟩), .int .i64 (k : Int), .func (.func 159) #[] #[]] w fun e w' => ∃ r : Int, e = .returned (.int .i64 r) ∧ Hid ((r = 5 ∧ capN b < phN b H + 35 + 97 ∧ ∃ b', Did w0 w' bp K nb m U b H V 0 b' H) ∨ (r = 0 ∧ ∃ b' H', Did w0 w' bp K nb m U b H (setPg V (1 + k / 4096) ((V (1 + k / 4096)).set (k % 4096 / 8) (clrB (byteAt (V (1 + k / 4096)) (k % 4096 / 8)) (k % 8)))) 97 b' H')) := by
  have hE := h.E
  have h3 := h.pg3
  have hq : 1 + k / 4096 < b.x.pages := by omega
  refine (sremap_give h.ab h.env h.tx (by omega) k hq (by omega) (h.len hq)).mono ?_
  rintro e w' ⟨r, he, P⟩
  exact ⟨r, he, hidI (sremap_did h P.out)⟩
/-- A root is set, or the log is full. -/
theorem in_setRoot {w0 w : World} {bp : Nat} {K : List (Nat × Obj)} {nb : Nat} {m : Mst} {U : Pages} {b : Bk} {H : List Ch} {V : Pages} (h : In w0 w bp K nb m U b H V) (hP : phN b H ≤ 380000) (hd : IsHd b.x.pages (V 0)) (k n : Nat) (hk : k < 8) (hn : n < b.x.pages) :
    Calls Tryz.prog 64 #[.pointer (some ⟨bp, 0, none⟩), .int .i64 (k : Int), .int .i64 (n : Int)] w fun e w' => ∃ r : Int, e = .returned (.int .i64 r) ∧ Hid ((r = 5 ∧ capN b < phN b H + 35 + 132 ∧ ∃ b', Did w0 w' bp K nb m U b H V 0 b' H) ∨ (r = 0 ∧ ∃ b' H', Did w0 w' bp K nb m U b H (setPg V 0 (putAt (V 0) (8 + 4 * k) n)) 132 b' H')) := by
  have hE := h.E
  have h3 := h.pg3
  have hl := h.len (q := 0) (by omega)
  refine (ssetRoot_in h.ab h.env h.tx (by omega) (by omega) hl hd k n hk hn).mono ?_
  rintro e w' ⟨r, he, P⟩
  refine ⟨r, he, hidI ?_⟩
  obtain ⟨g, b', w1, w2, w3, Q, _, _, A3, S, hS, hq⟩ := P.out
  have r3 : Rd w0 w3 bp K b b' := Rd.of A3 Q
  have d3 := r3.did h
  have hs : sumN S ≤ 132 := by
    have h1 := sum9 (i := 8 + 4 * k) (j := 8 + 4 * k + 4) (fun i hi hio => ?_) hS
    · omega
    · unfold byteAt putAt
      rw [List.getD_eq_getElem?_getD, List.getD_eq_getElem?_getD]
      have hb4 := be_length 4 n
      have ht : ((V 0).take (8 + 4 * k)).length = 8 + 4 * k := by rw [List.length_take]; omega
      rcases hio with hio | hio
      · rw [List.append_assoc, List.getElem?_append_left (by omega), List.getElem?_take, if_pos hio]
      · rw [List.getElem?_append_right (by rw [List.length_append]; omega), List.getElem?_drop, List.length_append, ht, hb4]
        congr 2
        omega
  rcases hq with ⟨h1, h2, b'', h3, no⟩ | ⟨h1, h2, b'', H', h3, ok⟩
  · refine Or.inl ⟨h1, ?_, b'', ((d3.trans (PutNo.did d3.i h3 no)).le (by omega))⟩
    have e1 := d3.tr.cap
    have e2 := d3.ph
    unfold Bk.room at h2
    unfold capN phN at *
    omega
  · exact Or.inr ⟨h1, b'', H', (d3.trans (PutOk.did d3.i h3 ok hs)).le (by omega)⟩
end Go.Proofs.YtopaeomjndblkaaGreat

namespace Go.Proofs.YtopaeomjndblkaaGreat
open Go.RowKit Go.Maps

/-- What is done with the free pages from j on, of r pages. -/
def runF (V : Pages) (nx : Int → Nat → Int) (go : Bool) : Nat → Nat → Int → Int
  | _, 0, s => s
  | j, r + 1, s => if MkB V j then runF V nx go (j + 1) r s else if go then runF V nx go (j + 1) r (nx s j) else nx s j
theorem runF_set {V : Pages} {nx : Int → Nat → Int} {go : Bool} {j n : Nat} {s : Int} (hj : j < n) (h : MkB V j = true) : runF V nx go j (n - j) s = runF V nx go (j + 1) (n - (j + 1)) s := by
  obtain ⟨r, hr⟩ : ∃ r, n - j = r + 1 := ⟨n - j - 1, by omega⟩
  rw [hr, show n - (j + 1) = r by omega]
  simp [runF, h]
theorem runF_clr {V : Pages} {nx : Int → Nat → Int} {j n : Nat} {s : Int} (hj : j < n) (h : MkB V j = false) : runF V nx true j (n - j) s = runF V nx true (j + 1) (n - (j + 1)) (nx s j) := by
  obtain ⟨r, hr⟩ : ∃ r, n - j = r + 1 := ⟨n - j - 1, by omega⟩
  rw [hr, show n - (j + 1) = r by omega]
  simp [runF, h]
theorem runF_end {V : Pages} {nx : Int → Nat → Int} {j n : Nat} {s : Int} (hj : j < n) (h : MkB V j = false) : runF V nx false j (n - j) s = nx s j := by
  obtain ⟨r, hr⟩ : ∃ r, n - j = r + 1 := ⟨n - j - 1, by omega⟩
  rw [hr]
  simp [runF, h]
theorem runF_out {V : Pages} {nx : Int → Nat → Int} {go : Bool} {j n : Nat} {s : Int} (hj : n ≤ j) : runF V nx go j (n - j) s = s := by
  rw [show n - j = 0 by omega]
  rfl
theorem runF_skip {V : Pages} {nx : Int → Nat → Int} {go : Bool} {n : Nat} {s : Int} : ∀ (r j : Nat), (∀ i, i < r → MkB V (j + i) = true) → runF V nx go j (n - j) s = runF V nx go (j + r) (n - (j + r)) s
  | 0, _, _ => rfl
  | r + 1, j, h => by
    by_cases hj : j < n
    · rw [runF_set hj (h 0 (by omega)), runF_skip r (j + 1) (fun i hi => by have := h (i + 1) (by omega); rwa [show j + (i + 1) = j + 1 + i by omega] at this)]
      rw [show j + 1 + r = j + (r + 1) by omega]
    · rw [runF_out (by omega), runF_out (by omega)]
theorem bit_of {V : Pages} {t a i : Nat} (ha : a < 512) (hi : i < 8) : MkB V (4096 * t + 8 * a + i) = (byteAt (V (1 + t)) a).toNat.testBit i := by
  unfold MkB
  rw [show 1 + (4096 * t + 8 * a + i) / 4096 = 1 + t by omega, show (4096 * t + 8 * a + i) % 4096 / 8 = a by omega, show (4096 * t + 8 * a + i) % 8 = i by omega]
theorem all_255 : ∀ i : Fin 8, (255 : Nat).testBit i.val = true := by decide
theorem shr1_all : ∀ x : Fin 256, ∀ i : Fin 8, (bits .and .u8 ((x.val : Int) / 2 ^ i.val) 1 == 0) = !x.val.testBit i.val := by decide +kernel
theorem shr1 (x i : Nat) (hx : x < 256) (hi : i < 8) : (bits .and .u8 ((x : Int) / 2 ^ i) 1 == 0) = !x.testBit i := shr1_all ⟨x, hx⟩ ⟨i, hi⟩
/-- A cell of a number. -/
def CelI (w : World) (c : Nat) (s : Int) : Prop := w.heap[c]? = some (.cells #[.int .i64 s] 3)
theorem CelI.c0 {w : World} {c : Nat} {s : Int} (h : CelI w c s) : w.cell? ⟨c, 0, none⟩ = some (.int .i64 s) := cell_of_row w c 0 _ _ _ h
theorem CelI.kept {w w' : World} {L : List Nat} {c : Nat} {s : Int} (h : CelI w c s) (f : Fr L w w') (hn : c ∉ L) : CelI w' c s := f.same hn h
theorem CelI.set {w : World} {c : Nat} {s : Int} (h : CelI w c s) (s' : Int) : CelI (w.setCell ⟨c, 0, none⟩ (.int .i64 s')) c s' := heap_setCell_same w c 0 _ _ _ h
theorem Ab.cel {w0 w w' : World} {bp : Nat} {b : Bk} {K : List (Nat × Obj)} (h : Ab w0 w bp b K) {c : Nat} {s : Int} (hc : CelI w c s) (f : Fr [c] w w') (hcw : w0.heap.size ≤ c) (hK : ∀ p ∈ K, p.1 ≠ c) : Ab w0 w' bp b K := by
  have a := h.bk.away hc (by decide) (by decide) (by decide) (by decide)
  exact h.put f a.1 a.2.1 a.2.2 hcw hK
theorem Ab.celOut {w0 w : World} {bp : Nat} {b : Bk} {K : List (Nat × Obj)} (h : Ab w0 w bp b K) {c : Nat} {s : Int} (hc : CelI w c s) : c ∉ b.dp :: b.x.own := (h.bk.away hc (by decide) (by decide) (by decide) (by decide)).2.1
def nxCnt (s : Int) (_ : Nat) : Int := IntKind.i64.wrap (s + 1)
def nxLow (_ : Int) (k : Nat) : Int := (k : Int)
theorem sfree1_any (w : World) (c k : Nat) (s : Int) (hc : CelI w c s) : Calls Tryz.prog 153 #[.int .i64 (k : Int), .pointer (some ⟨c, 0, none⟩)] w fun e w' => e = .returned (.bool true) ∧ CelI w' c (nxCnt s k) ∧ Fr [c] w w' := by
  have c0 := hc.c0
  have z0 := frozen_of_row w c 0 _ _ hc
  go_enter Tryz.func153, Tryz.ntmps153
  go_wp2
  go_ret
  refine ⟨rfl, ?_, fr_set w c 0 _⟩
  unfold nxCnt
  rw [IntWalk.i64_left]
  exact hc.set _
theorem slow1_any (w : World) (c k : Nat) (s : Int) (hc : CelI w c s) : Calls Tryz.prog 220 #[.int .i64 (k : Int), .pointer (some ⟨c, 0, none⟩)] w fun e w' => e = .returned (.bool false) ∧ CelI w' c (nxLow s k) ∧ Fr [c] w w' := by
  have c0 := hc.c0
  have z0 := frozen_of_row w c 0 _ _ hc
  go_enter Tryz.func220, Tryz.ntmps220
  go_wp2
  go_ret
  exact ⟨rfl, hc.set _, fr_set w c 0 _⟩
/-- While a map's page is gone through. -/
structure EF (w0 wx : World) (bp : Nat) (K : List (Nat × Obj)) (b b' : Bk) (c : Nat) (s : Int) (g : Nat) (l : List UInt8) : Prop where
  rd : Rd w0 wx bp K b b'
  cl : CelI wx c s
  bl : Blk wx g l
  hcw : w0.heap.size ≤ c
  hcK : ∀ p ∈ K, p.1 ≠ c
theorem EF.step {w0 wx w' : World} {bp : Nat} {K : List (Nat × Obj)} {b b' : Bk} {c : Nat} {s s' : Int} {g : Nat} {l : List UInt8} (h : EF w0 wx bp K b b' c s g l) (hc : CelI w' c s') (f : Fr [c] wx w') : EF w0 w' bp K b b' c s' g l := by
  refine ⟨h.rd.on (h.rd.ab.cel h.cl f h.hcw h.hcK), hc, h.bl.kept f (fun e => ?_), h.hcw, h.hcK⟩
  have e' : g = c := by simpa using e
  subst e'
  have h1 : wx.heap[g]? = some (.cells (arr l) 5) := h.bl
  have h2 := h.cl
  unfold CelI at h2
  rw [h1] at h2
  simp at h2
end Go.Proofs.YtopaeomjndblkaaGreat

