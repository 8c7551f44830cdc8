/-
  slices.BinarySearch over any row of numbers; slices.Clone of one.
-/
import Derived.Test.YtopaeomjndblkaaGreatX06Z
import Derived.Test.YtopaeomjndblkaaGreatX04Z
import Derived.Test.YtopaeomjndblkaaGreatX07Z
namespace Go.Proofs.YtopaeomjndblkaaGreat
open Go.RowKit Go.Maps

structure Lo where
  d : Nat
  bs : Nat
  bo : Nat
  nb : Int
  S : Dv.Tab
  O : Dv.Tab
  p : Nat
  first : Int
  count : Int
  T : Nat
  A : Nat
  P : Nat
  E : Nat
  F : Nat
  n : Nat
  cb : Nat
  ad : Option Addr
  n2 : Nat
  c2 : Nat
  a2 : Option Addr
  lb : List UInt8
  ls : List Int
  lw : Int
def Lo.lg (y : Lo) : Lg := ⟨.pointer (some ⟨y.d, 0, none⟩), y.first, y.count, (y.T : Int), (y.A : Int) + 1, (y.P : Int) + 1, (y.E : Int) + 1, .slice y.ad y.n y.cb, (y.F : Int) + 1, .slice y.a2 y.n2 y.c2⟩
/-- A log in memory, and its device, which is not armed. -/
structure LoAt (w : World) (y : Lo) : Prop where
  dev : Dv.Dev w y.d y.bs y.bo y.nb 0 false y.S y.O
  box : LBox w y.p y.lg
  bsA : BsAt w y.ad y.n y.cb y.lb
  lsA : LsAt w y.a2 y.n2 y.c2 y.ls
  lbl : y.lb.length = y.n
  hn : y.F + y.n = y.E
  hFP : y.F ≤ y.P
  hPE : y.P ≤ y.E
  hFA : y.F ≤ y.A
  hAE : y.A ≤ y.E
  hE : y.E ≤ 400000
  h2 : y.n2 ≤ y.E
  hT : y.T < 2147483648
  f0 : 0 ≤ y.first
  f1 : y.first + y.count ≤ y.nb
  c0 : 4 ≤ y.count
  hlw : y.lw ≤ y.first
/-- The blocks that are its own. -/
def Lo.own (y : Lo) : List Nat := [y.p, y.d, y.bs, y.bo] ++ ((Value.ownBlock (.slice y.ad y.n y.cb)).toList ++ (Value.ownBlock (.slice y.a2 y.n2 y.c2)).toList)
theorem LoAt.ne {w : World} {y : Lo} (h : LoAt w y) : y.p ≠ y.d ∧ y.p ≠ y.bs ∧ y.p ≠ y.bo := by
  refine ⟨?_, ?_, ?_⟩ <;> intro e
  · have h1 := h.box
    unfold LBox at h1
    rw [e, h.dev.cells] at h1
    simp at h1
  · have h1 := h.box
    unfold LBox at h1
    obtain ⟨D, ⟨es, clock, hb, _⟩, _⟩ := h.dev.safe
    rw [e, hb] at h1
    cases h1
  · have h1 := h.box
    unfold LBox at h1
    obtain ⟨D, ⟨es, clock, hb, _⟩, _⟩ := h.dev.opn
    rw [e, hb] at h1
    cases h1
theorem LoAt.kept {w w' : World} {y : Lo} {L : List Nat} (h : LoAt w y) (f : Fr L w w') (hL : ∀ k ∈ y.own, k ∉ L) : LoAt w' y :=
  { h with
    dev := dev_kept h.dev f (hL _ (by simp [Lo.own])) (hL _ (by simp [Lo.own])) (hL _ (by simp [Lo.own]))
    box := h.box.kept f (hL _ (by simp [Lo.own]))
    bsA := own_kb h.bsA f (fun g hg => hL g (by simp only [Lo.own, List.mem_append]; exact Or.inr (Or.inl hg)))
    lsA := own_kb h.lsA f (fun g hg => hL g (by simp only [Lo.own, List.mem_append]; exact Or.inr (Or.inr hg))) }
/-- What they hold: maps, or cells of four types. -/
theorem LoAt.types {w : World} {y : Lo} (h : LoAt w y) : ∀ k ∈ y.own, k < w.heap.size ∧ ∀ cur t, w.heap[k]? = some (.cells cur t) → t = 223 ∨ t = 180 ∨ t = 5 ∨ t = 2 := by
  intro k hk
  simp only [Lo.own, List.mem_append, List.mem_cons, List.not_mem_nil, or_false] at hk
  rcases hk with (rfl | rfl | rfl | rfl) | hk | hk
  · refine ⟨h.box.lt, fun cur t e => ?_⟩
    have h1 := h.box
    unfold LBox at h1
    rw [h1] at e
    cases e
    exact Or.inl rfl
  · refine ⟨h.dev.lt.1, fun cur t e => ?_⟩
    rw [h.dev.cells] at e
    cases e
    exact Or.inr (Or.inl rfl)
  · refine ⟨h.dev.lt.2.1, fun cur t e => ?_⟩
    obtain ⟨D, ⟨es, clock, hb, _⟩, _⟩ := h.dev.safe
    rw [hb] at e
    cases e
  · refine ⟨h.dev.lt.2.2, fun cur t e => ?_⟩
    obtain ⟨D, ⟨es, clock, hb, _⟩, _⟩ := h.dev.opn
    rw [hb] at e
    cases e
  · obtain ⟨cur', hc⟩ := own0_type h.bsA k hk
    refine ⟨(Array.getElem?_eq_some_iff.1 hc).1, fun cur t e => ?_⟩
    rw [hc] at e
    cases e
    exact Or.inr (Or.inr (Or.inl rfl))
  · obtain ⟨cur', hc⟩ := own0_type h.lsA k hk
    refine ⟨(Array.getElem?_eq_some_iff.1 hc).1, fun cur t e => ?_⟩
    rw [hc] at e
    cases e
    exact Or.inr (Or.inr (Or.inr rfl))
theorem lo_end {w : World} {y : Lo} (h : LoAt w y) : Calls Tryz.prog 77 #[.pointer (some ⟨y.p, 0, none⟩)] w fun e w' => e = .returned (.int .i64 ((y.E : Int) + 1)) ∧ w' = w := by
  have k0 : w.cell? ⟨y.p, 0, none⟩ = some (.pointer (some ⟨y.d, 0, none⟩)) := h.box.c0
  have k6 : w.cell? ⟨y.p, 6, none⟩ = some (.int .i64 ((y.E : Int) + 1)) := h.box.c6
  go_enter Tryz.func77, Tryz.ntmps77
  go_wp2_with (go_at_call 177; refine (lmade_yes _ _ _ k0).mono ?_; rintro e w ⟨rfl, rfl⟩)
  go_ret
  exact ⟨rfl, rfl⟩
theorem lo_safe {w : World} {y : Lo} (h : LoAt w y) : Calls Tryz.prog 85 #[.pointer (some ⟨y.p, 0, none⟩)] w fun e w' => e = .returned (.int .i64 ((y.P : Int) + 1)) ∧ w' = w := by
  have k0 : w.cell? ⟨y.p, 0, none⟩ = some (.pointer (some ⟨y.d, 0, none⟩)) := h.box.c0
  have k5 : w.cell? ⟨y.p, 5, none⟩ = some (.int .i64 ((y.P : Int) + 1)) := h.box.c5
  go_enter Tryz.func85, Tryz.ntmps85
  go_wp2_with (go_at_call 177; refine (lmade_yes _ _ _ k0).mono ?_; rintro e w ⟨rfl, rfl⟩)
  go_ret
  exact ⟨rfl, rfl⟩
/-- What a log is behind a Force: safe to its end; else only how it lies in memory, and its device within the log's area. -/
structure Forced (y y' : Lo) : Prop where
  d : y'.d = y.d
  bs : y'.bs = y.bs
  bo : y'.bo = y.bo
  nb : y'.nb = y.nb
  p : y'.p = y.p
  first : y'.first = y.first
  count : y'.count = y.count
  T : y'.T = y.T
  A : y'.A = y.A
  E : y'.E = y.E
  P : y.P ≤ y'.P
  out : Outside y.first y.count y.S y.O y'.S y'.O
  lw : y'.lw = y.lw
  ls : y'.ls = y.ls
  n2 : y'.n2 = y.n2
  lb : ∀ k, y.A ≤ k → y'.lb.drop (k - y'.F) = y.lb.drop (k - y.F)
  low : ∀ k : Int, k < y.lw → Dv.latest y'.S y'.O k = Dv.latest y.S y.O k
theorem Forced.refl (y : Lo) : Forced y y := ⟨rfl, rfl, rfl, rfl, rfl, rfl, rfl, rfl, rfl, rfl, Nat.le_refl _, Outside.refl _ _ _ _, rfl, rfl, rfl, fun _ _ => rfl, fun _ _ => rfl⟩
theorem lo_force {w : World} {y : Lo} (h : LoAt w y) : Calls Tryz.prog 84 #[.pointer (some ⟨y.p, 0, none⟩)] w fun e w' => e = .returned (.int .i64 0) ∧ ∃ y', LoAt w' y' ∧ Forced y y' ∧ y'.P = y.E ∧ (∀ k ∈ y'.own, k ∈ y.own ∨ w.heap.size ≤ k) ∧ Fr [y.p, y.d, y.bs, y.bo] w w' := by
  have hn := h.ne
  refine (force_weak w y.p y.d y.bs y.bo y.nb y.S y.O h.dev y.first y.count y.T y.A y.P y.E y.F y.n y.cb y.ad _ y.lb h.box h.bsA h.lbl h.hn (by have := h.hn; have := h.hE; omega) h.hFP h.hPE h.hFA h.hAE (by have := h.hE; omega) h.hT h.f0 h.f1 h.c0 hn.1 hn.2.1 hn.2.2).mono ?_
  rintro e w' ⟨he, ad', cb', F', S', O', hF1, hF2, L, B, NW, D, OU, f⟩
  refine ⟨he, { y with S := S', O := O', P := y.E, F := F', n := y.n - (F' - y.F), cb := cb', ad := ad', lb := y.lb.drop (F' - y.F) }, ?_, ?_, rfl, ?_, f⟩
  · have h1 := h.hn
    have h2 := h.hAE
    exact { dev := D, box := L, bsA := B, lsA := own0_kept h.lsA f (by
              intro g hg cur t e
              simp only [List.mem_cons, List.not_mem_nil, or_false] at hg
              rcases hg with rfl | rfl | rfl | rfl
              · have h3 := h.box
                unfold LBox at h3
                rw [h3] at e
                cases e
                decide
              · rw [h.dev.cells] at e
                cases e
                decide
              · obtain ⟨D', ⟨es, clock, hb, _⟩, _⟩ := h.dev.safe
                rw [hb] at e
                cases e
              · obtain ⟨D', ⟨es, clock, hb, _⟩, _⟩ := h.dev.opn
                rw [hb] at e
                cases e), lbl := by rw [List.length_drop, h.lbl], hn := by show F' + (y.n - (F' - y.F)) = y.E; omega, hFP := by show F' ≤ y.E; omega, hPE := Nat.le_refl _, hFA := hF2, hAE := h2, hE := h.hE, h2 := h.h2, hT := h.hT, f0 := h.f0, f1 := h.f1, c0 := h.c0, hlw := h.hlw }
  · exact ⟨rfl, rfl, rfl, rfl, rfl, rfl, rfl, rfl, rfl, rfl, h.hPE, OU, rfl, rfl, rfl, fun k hk => by show (y.lb.drop (F' - y.F)).drop (k - F') = y.lb.drop (k - y.F); rw [List.drop_drop]; congr 1; omega, fun k hk => OU k (by have := h.hlw; omega)⟩
  · intro k hk
    simp only [Lo.own, List.mem_append] at hk ⊢
    rcases hk with hk | hk | hk
    · exact Or.inl (Or.inl hk)
    · rcases NW k hk with h1 | h1
      · exact Or.inl (Or.inr (Or.inl h1))
      · exact Or.inr h1
    · exact Or.inl (Or.inr (Or.inr hk))
end Go.Proofs.YtopaeomjndblkaaGreat

namespace Go.Proofs.YtopaeomjndblkaaGreat
open Go.RowKit Go.Maps

/-- What a log is behind a record that was appended. -/
structure Appd (y y' : Lo) (N : Nat) (r : Rec) : Prop where
  d : y'.d = y.d
  bs : y'.bs = y.bs
  bo : y'.bo = y.bo
  nb : y'.nb = y.nb
  S : y'.S = y.S
  O : y'.O = y.O
  p : y'.p = y.p
  first : y'.first = y.first
  count : y'.count = y.count
  T : y'.T = y.T
  A : y'.A = y.A
  P : y'.P = y.P
  E : y'.E = y.E + N
  F : y'.F = y.F
  lw : y'.lw = y.lw
  lb : y'.lb = y.lb ++ encL { r with lsn := (y.E : Int) + 1, turn := (y.T : Int) }
  ls : y'.ls = y.ls ++ [(y.E : Int) + 1]
  n2 : y'.n2 = y.n2 + 1
theorem lo_append {w : World} {y : Lo} (h : LoAt w y) (r : Rec) (s : Spots) (hs : SpotsAt w r s) (hr : rightB { r with lsn := (y.E : Int) + 1, turn := (y.T : Int) } = true) {N : Nat} (hN : (encL { r with lsn := (y.E : Int) + 1, turn := (y.T : Int) }).length = N) (hroom : (N : Int) ≤ 408 * (y.count - 1) - ((y.E : Int) - (y.A : Int))) (hE : y.E + N ≤ 400000) :
    Calls Tryz.prog 170 #[.pointer (some ⟨y.p, 0, none⟩), .agg (recV r s)] w fun e w' => e = .returned (.tuple #[.int .i64 ((y.E : Int) + 1), .int .i64 0]) ∧ ∃ y', LoAt w' y' ∧ Appd y y' N r ∧ (∀ k ∈ y'.own, k ∈ y.own ∨ w.heap.size ≤ k) ∧ Fr y.own w w' := by
  have n2 := h.dev.n2
  have f0 := h.f0
  have f1 := h.f1
  have hn := h.hn
  have hEE := h.hE
  have hFA := h.hFA
  have hAE := h.hAE
  have h22 := h.h2
  have hbb := body_bounds hr
  have hel := encL_length { r with lsn := (y.E : Int) + 1, turn := (y.T : Int) }
  refine (append_ok2 w y.p y.d (.pointer (some ⟨y.d, 0, none⟩)) y.first y.count (y.T : Int) ((y.A : Int) + 1) ((y.P : Int) + 1) ((y.E : Int) + 1) ((y.F : Int) + 1) y.ad y.a2 y.n y.n2 y.cb y.c2 h.box rfl h.c0 (by omega) (by omega) (by omega) (by omega) y.lb y.ls h.bsA h.lsA (by omega) (by omega) r s hs hr (by rw [hN]; omega)).mono ?_
  rw [hN]
  rintro e w' ⟨rfl, g1, d1, g2, d2, L, B, LS, N1, N2, f⟩
  have hT1 := own0_type h.bsA
  have hT2 := own0_type h.lsA
  have hty : ∀ k ∈ y.p :: ((Value.ownBlock (.slice y.ad y.n y.cb)).toList ++ (Value.ownBlock (.slice y.a2 y.n2 y.c2)).toList), ∃ cur t, w.heap[k]? = some (.cells cur t) ∧ t ≠ 180 := by
    intro k hk
    simp only [List.mem_cons, List.mem_append] at hk
    rcases hk with rfl | hk | hk
    · have h1 := h.box
      unfold LBox at h1
      exact ⟨_, _, h1, by decide⟩
    · obtain ⟨cur, hc⟩ := hT1 k hk
      exact ⟨_, _, hc, by decide⟩
    · obtain ⟨cur, hc⟩ := hT2 k hk
      exact ⟨_, _, hc, by decide⟩
  have hd : y.d ∉ y.p :: ((Value.ownBlock (.slice y.ad y.n y.cb)).toList ++ (Value.ownBlock (.slice y.a2 y.n2 y.c2)).toList) := fun e => by
    obtain ⟨cur, t, hc, ht⟩ := hty _ e
    rw [h.dev.cells] at hc
    cases hc
    exact ht rfl
  have hbs : y.bs ∉ y.p :: ((Value.ownBlock (.slice y.ad y.n y.cb)).toList ++ (Value.ownBlock (.slice y.a2 y.n2 y.c2)).toList) := fun e => by
    obtain ⟨cur, t, hc, ht⟩ := hty _ e
    obtain ⟨D', ⟨es, clock, hb, _⟩, _⟩ := h.dev.safe
    rw [hb] at hc
    cases hc
  have hbo : y.bo ∉ y.p :: ((Value.ownBlock (.slice y.ad y.n y.cb)).toList ++ (Value.ownBlock (.slice y.a2 y.n2 y.c2)).toList) := fun e => by
    obtain ⟨cur, t, hc, ht⟩ := hty _ e
    obtain ⟨D', ⟨es, clock, hb, _⟩, _⟩ := h.dev.opn
    rw [hb] at hc
    cases hc
  refine ⟨rfl, { y with E := y.E + N, n := y.n + N, cb := d1, ad := some ⟨g1, 0, none⟩, n2 := y.n2 + 1, c2 := d2, a2 := some ⟨g2, 0, none⟩, lb := y.lb ++ encL { r with lsn := (y.E : Int) + 1, turn := (y.T : Int) }, ls := y.ls ++ [(y.E : Int) + 1] }, ?_, ⟨rfl, rfl, rfl, rfl, rfl, rfl, rfl, rfl, rfl, rfl, rfl, rfl, rfl, rfl, rfl, rfl, rfl, rfl⟩, ?_, ?_⟩
  · refine { dev := dev_kept h.dev f hd hbs hbo, box := ?_, bsA := B, lsA := LS, lbl := ?_, hn := ?_, hFP := h.hFP, hPE := ?_, hFA := hFA, hAE := ?_, hE := hE, h2 := ?_, hT := h.hT, f0 := h.f0, f1 := h.f1, c0 := h.c0, hlw := h.hlw }
    · show LBox w' y.p ⟨.pointer (some ⟨y.d, 0, none⟩), y.first, y.count, (y.T : Int), (y.A : Int) + 1, (y.P : Int) + 1, ((y.E + N : Nat) : Int) + 1, .slice (some ⟨g1, 0, none⟩) (y.n + N) d1, (y.F : Int) + 1, .slice (some ⟨g2, 0, none⟩) (y.n2 + 1) d2⟩
      have e1 : ((y.E + N : Nat) : Int) + 1 = (y.E : Int) + 1 + (N : Int) := by omega
      rw [e1]
      exact L
    · show (y.lb ++ encL _).length = y.n + N
      rw [List.length_append, h.lbl, hN]
    · show y.F + (y.n + N) = y.E + N
      omega
    · show y.P ≤ y.E + N
      have := h.hPE
      omega
    · show y.A ≤ y.E + N
      omega
    · show y.n2 + 1 ≤ y.E + N
      omega
  · intro k hk
    have hk2 : (k = y.p ∨ k = y.d ∨ k = y.bs ∨ k = y.bo) ∨ k = g1 ∨ k = g2 := by
      simp only [Lo.own, List.mem_append, List.mem_cons, List.not_mem_nil, or_false, Value.ownBlock, Option.toList] at hk
      simpa using hk
    simp only [Lo.own, List.mem_append, List.mem_cons, List.not_mem_nil, or_false]
    rcases hk2 with h1 | rfl | rfl
    · exact Or.inl (Or.inl h1)
    · rcases N1 with h1 | h1
      · exact Or.inl (Or.inr (Or.inl (by rw [h1]; simp)))
      · exact Or.inr h1
    · rcases N2 with h1 | h1
      · exact Or.inl (Or.inr (Or.inr (by rw [h1]; simp)))
      · exact Or.inr h1
  · exact f.mono (fun k _ hk => by
      simp only [Lo.own, List.mem_append, List.mem_cons, List.not_mem_nil, or_false] at hk ⊢
      rcases hk with h1 | h1 | h1
      · exact Or.inl (Or.inl h1)
      · exact Or.inr (Or.inl h1)
      · exact Or.inr (Or.inr h1))
end Go.Proofs.YtopaeomjndblkaaGreat

namespace Go.Proofs.YtopaeomjndblkaaGreat
open Go.RowKit Go.Maps

set_option maxHeartbeats 1000000 in
set_option maxRecDepth 100000 in
theorem append_no (w : World) (p d : Nat) (x : Lg) (hx : LBox w p x) (hd : x.dv = .pointer (some ⟨d, 0, none⟩)) (k0 : 4 ≤ x.count) (k1 : x.count ≤ 65536) (h0 : 1 ≤ x.oldest) (h1 : x.oldest ≤ x.fin) (h2 : x.fin ≤ 2305843009213693952)
    (r : Rec) (s : Spots) (hs : SpotsAt w r s) (hnn : r.new.length ≤ 1000000) (c : Int) (hc : (rightB { r with lsn := x.fin, turn := x.turn } = false ∧ c = 4) ∨ (rightB { r with lsn := x.fin, turn := x.turn } = true ∧ 408 * (x.count - 1) - (x.fin - x.oldest) < ((encL { r with lsn := x.fin, turn := x.turn }).length : Int) ∧ c = 5)) :
    Calls Tryz.prog 170 #[.pointer (some ⟨p, 0, none⟩), .agg (recV r s)] w fun e w' => e = .returned (.tuple #[.int .i64 0, .int .i64 c]) ∧ Fr [] w w' := by
  obtain ⟨dv, first, count, turn, oldest, safe, fin, by_, from_, ls⟩ := x
  dsimp only at hd k0 k1 h0 h1 h2 hc ⊢
  subst hd
  have HPU : Hid (∀ w', Fr [] w w' → Calls Tryz.prog 223 #[.agg (recV { r with lsn := fin, turn := turn } s)] w' fun e w'' => (rightB { r with lsn := fin, turn := turn } = false ∧ e = .returned (.tuple #[.slice none 0 0, .int .i64 4]) ∧ Fr [] w' w'') ∨ (rightB { r with lsn := fin, turn := turn } = true ∧ ∃ v, e = .returned (.tuple #[v, .int .i64 0]) ∧ Own w' w'' v (encL { r with lsn := fin, turn := turn }).length (arr (encL { r with lsn := fin, turn := turn })).toList)) := hidI (fun w' f => by
    cases hr : rightB { r with lsn := fin, turn := turn } with
    | false =>
      refine (put_no w' { r with lsn := fin, turn := turn } s hnn hr).mono ?_
      rintro e w'' ⟨h3, h4⟩
      exact Or.inl ⟨rfl, h3, h4⟩
    | true =>
      refine (put_ok w' { r with lsn := fin, turn := turn } s ⟨(hs.kept f).b1, (hs.kept f).b2, hs.n1, hs.n2⟩ hr).mono ?_
      rintro e w'' ⟨v, h3, h4⟩
      exact Or.inr ⟨rfl, v, h3, h4⟩)
  have rb : RBox (w.alloc (.cells (recV r s) 192)) w.heap.size r s := heap_alloc_new w _
  have f1 : Fr [] w (w.alloc (.cells (recV r s) 192)) := (Fr.refl [] w).alloc _
  have hpl := hx.lt
  have HC := hidI hc
  have HN : Hid (rightB { r with lsn := fin, turn := turn } = true → 35 ≤ (encL { r with lsn := fin, turn := turn }).length ∧ (encL { r with lsn := fin, turn := turn }).length ≤ 1067) := hidI (fun hr => by
    have := body_bounds hr
    have h3 := encL_length { r with lsn := fin, turn := turn }
    omega)
  clear hc
  unfold RBox recV at rb
  unfold recV at f1
  unfold recV at HPU
  unfold recV
  have c0 : (w.alloc (.cells #[.int .i64 r.lsn, .int .i64 r.turn, .int .u8 (r.kind : Int), .int .i64 r.tx, .int .i64 r.prev, .int .i64 r.next, .int .i64 r.block, .int .i64 r.off, .slice s.a1 r.old.length s.c1, .slice s.a2 r.new.length s.c2] 192)).cell? ⟨p, 0, none⟩ = some (.pointer (some ⟨d, 0, none⟩)) := (hx.kept f1 (by simp)).c0
  go_enter Tryz.func170, Tryz.ntmps170
  go_wp2_with fail
  generalize w.alloc (.cells #[.int .i64 r.lsn, .int .i64 r.turn, .int .u8 (r.kind : Int), .int .i64 r.tx, .int .i64 r.prev, .int .i64 r.next, .int .i64 r.block, .int .i64 r.off, .slice s.a1 r.old.length s.c1, .slice s.a2 r.new.length s.c2] 192) = w1 at rb f1 c0 ⊢
  refine (lmade_yes _ p d c0).mono ?_
  rintro e w1 ⟨rfl, rfl⟩
  obtain ⟨Z, HZ⟩ : ∃ Z, Hid (w.heap.size = Z) := ⟨_, rfl⟩
  rw [HZ.out] at rb hpl ⊢
  have L1 := hx.kept f1 (by simp)
  have R1 : RBox w1 Z r s := rb
  have c6 : w1.cell? ⟨p, 6, none⟩ = some (.int .i64 fin) := L1.c6
  have c3 : w1.cell? ⟨p, 3, none⟩ = some (.int .i64 turn) := L1.c3
  have x0 := R1.c0
  have x1 := R1.c1
  have z0 := R1.fz 0
  have z1 := R1.fz 1
  clear rb
  go_wp2_with fail
  go_region
  have R2 := ((R1.s0 fin).s1 turn).kept (Fr.refl [] _).drew (by simp)
  have hZp : Z ≠ p := by omega
  have fz2 : Fr [Z] w1 ((w1.setCell ⟨Z, 0, none⟩ (.int .i64 fin)).setCell ⟨Z, 1, none⟩ (.int .i64 turn)).drew := ((fr_set w1 Z 0 _).trans (fr_set _ Z 1 _)).drew
  have L2 := L1.kept fz2 (by simpa using hZp.symm)
  have F2 : Fr [] w ((w1.setCell ⟨Z, 0, none⟩ (.int .i64 fin)).setCell ⟨Z, 1, none⟩ (.int .i64 turn)).drew := f1.then fz2 (fun i hi hm => by simp at hm; have h := HZ.out; omega)
  clear x0 x1 z0 z1 c3 c6 c0 R1 L1 f1 fz2
  generalize ((w1.setCell ⟨Z, 0, none⟩ (.int .i64 fin)).setCell ⟨Z, 1, none⟩ (.int .i64 turn)).drew = w2 at R2 L2 F2 ⊢
  have x0 : w2.cell? ⟨Z, 0, none⟩ = some (.int .i64 fin) := R2.c0
  have x1 : w2.cell? ⟨Z, 1, none⟩ = some (.int .i64 turn) := R2.c1
  have x2 : w2.cell? ⟨Z, 2, none⟩ = some (.int .u8 (r.kind : Int)) := R2.c2
  have x3 : w2.cell? ⟨Z, 3, none⟩ = some (.int .i64 r.tx) := R2.c3
  have x4 : w2.cell? ⟨Z, 4, none⟩ = some (.int .i64 r.prev) := R2.c4
  have x5 : w2.cell? ⟨Z, 5, none⟩ = some (.int .i64 r.next) := R2.c5
  have x6 : w2.cell? ⟨Z, 6, none⟩ = some (.int .i64 r.block) := R2.c6
  have x7 : w2.cell? ⟨Z, 7, none⟩ = some (.int .i64 r.off) := R2.c7
  have x8 : w2.cell? ⟨Z, 8, none⟩ = some (.slice s.a1 r.old.length s.c1) := R2.c8
  have x9 : w2.cell? ⟨Z, 9, none⟩ = some (.slice s.a2 r.new.length s.c2) := R2.c9
  go_wp2_with fail
  refine (HPU.out w2 F2).mono ?_
  rintro e w3 (⟨hr, rfl, f3⟩ | ⟨hr, v, rfl, o3⟩)
  · have hc4 : c = 4 := by
      rcases HC.out with ⟨_, h3⟩ | ⟨h3, _⟩
      · exact h3
      · rw [hr] at h3
        cases h3
    subst hc4
    go_wp2_with fail
    go_ret2
    exact ⟨rfl, F2.trans f3⟩
  · have hc5 : 408 * (count - 1) - (fin - oldest) < ((encL { r with lsn := fin, turn := turn }).length : Int) ∧ c = 5 := by
      rcases HC.out with ⟨h3, _⟩ | ⟨_, h3⟩
      · rw [hr] at h3
        cases h3
      · exact h3
    obtain ⟨hlt, rfl⟩ := hc5
    have hNN := HN.out hr
    obtain ⟨N, HNE⟩ : ∃ N, Hid ((encL { r with lsn := fin, turn := turn }).length = N) := ⟨_, rfl⟩
    rw [HNE.out] at hlt o3 hNN
    obtain ⟨g3, c3, rfl, b3, hg3, -⟩ := own_at o3 (by omega) HNE.out
    have L3 := L2.kept o3.2 (by simp)
    have F3 := F2.trans o3.2
    clear x0 x1 x2 x3 x4 x5 x6 x7 x8 x9 L2 R2 F2 o3 HPU
    go_wp2_with fail
    refine (room_any w3 p d _ L3 rfl k0 k1 h0 h1 (by dsimp only; omega)).mono ?_
    rintro e w4 ⟨nq, rfl, hw4⟩
    have fd : Fr [] w3 w4 := by rw [hw4]; exact (Fr.refl [] w3).drewN nq
    clear hw4
    dsimp only
    go_wp2_with fail
    go_ret2
    exact ⟨rfl, F3.trans fd⟩
theorem lo_append_no {w : World} {y : Lo} (h : LoAt w y) (r : Rec) (s : Spots) (hs : SpotsAt w r s) (hnn : r.new.length ≤ 1000000) (c : Int) (hc : (rightB { r with lsn := (y.E : Int) + 1, turn := (y.T : Int) } = false ∧ c = 4) ∨ (rightB { r with lsn := (y.E : Int) + 1, turn := (y.T : Int) } = true ∧ 408 * (y.count - 1) - ((y.E : Int) - (y.A : Int)) < ((encL { r with lsn := (y.E : Int) + 1, turn := (y.T : Int) }).length : Int) ∧ c = 5)) :
    Calls Tryz.prog 170 #[.pointer (some ⟨y.p, 0, none⟩), .agg (recV r s)] w fun e w' => e = .returned (.tuple #[.int .i64 0, .int .i64 c]) ∧ Fr [] w w' := by
  have n2 := h.dev.n2
  have f0 := h.f0
  have f1 := h.f1
  have hEE := h.hE
  have hAE := h.hAE
  refine append_no w y.p y.d y.lg h.box rfl h.c0 (by show y.count ≤ 65536; omega) (by show (1 : Int) ≤ (y.A : Int) + 1; omega) (by show (y.A : Int) + 1 ≤ (y.E : Int) + 1; omega) (by show (y.E : Int) + 1 ≤ 2305843009213693952; omega) r s hs hnn c ?_
  rcases hc with h1 | ⟨h1, h2, h3⟩
  · exact Or.inl h1
  · exact Or.inr ⟨h1, by show 408 * (y.count - 1) - (((y.E : Int) + 1) - ((y.A : Int) + 1)) < ((encL { r with lsn := (y.E : Int) + 1, turn := (y.T : Int) }).length : Int); omega, h3⟩
end Go.Proofs.YtopaeomjndblkaaGreat

namespace Go.Proofs.YtopaeomjndblkaaGreat
open Go.RowKit Go.Maps

set_option maxHeartbeats 400000 in
theorem nan_any (w : World) (x : Int) : Calls Tryz.prog 277 #[.int .i64 x] w fun e w' => e = .returned (.bool false) ∧ w' = w := by
  have h : (x != x) = false := by simp
  go_enter Tryz.func277, Tryz.ntmps277
  go_wp2
  go_ret
  exact ⟨rfl, rfl⟩
set_option maxHeartbeats 400000 in
theorem snan_any (w : World) (x : Int) : Calls Tryz.prog 242 #[.int .i64 x] w fun e w' => e = .returned (.bool false) ∧ w' = w := by
  have h : (x != x) = false := by simp
  go_enter Tryz.func242, Tryz.ntmps242
  go_wp2
  go_ret
  exact ⟨rfl, rfl⟩
set_option maxHeartbeats 400000 in
theorem less_any (w : World) (x z : Int) : Calls Tryz.prog 241 #[.int .i64 x, .int .i64 z] w fun e w' => e = .returned (.bool (decide (x < z))) ∧ w' = w := by
  go_enter Tryz.func241, Tryz.ntmps241
  go_wp2_with (go_at_call 277; refine (nan_any _ _).mono ?_; rintro e wz ⟨rfl, hz⟩; rw [hz]; clear hz)
  go_ret
  exact ⟨rfl, rfl⟩
/-- Where a number stands in a row: ahead of it a lesser one, at it none that is less. -/
structure BinAt (ls : List Int) (k : Int) (i : Nat) : Prop where
  le : i ≤ ls.length
  lo : ∀ v, 0 < i → ls[i - 1]? = some v → v < k
  hi : ∀ v, ls[i]? = some v → k ≤ v
theorem wrap_u64 {x : Int} (h0 : 0 ≤ x) (h1 : x < 18446744073709551616) : IntKind.u64.wrap x = x := by
  simp [IntKind.wrap, IntKind.bits, IntKind.signed]
  omega
set_option maxHeartbeats 1000000 in
set_option maxRecDepth 100000 in
theorem bin_any (w : World) (ad : Option Addr) (n c : Nat) (ls : List Int) (k : Int) (hl : ls.length = n) (hn : n ≤ 1000000) (hg : ∀ j v, ls[j]? = some v → ∃ g, ad = some ⟨g, 0, none⟩ ∧ w.cell? ⟨g, j, none⟩ = some (.int .i64 v)) :
    Calls Tryz.prog 203 #[.slice ad n c, .int .i64 k] w fun e w' => ∃ i : Nat, e = .returned (.tuple #[.int .i64 (i : Int), .bool (decide (ls[i]? = some k))]) ∧ w' = w ∧ BinAt ls k i := by
  have HL := hidI hl
  have HG := hidI hg
  clear hl hg
  go_enter Tryz.func203, Tryz.ntmps203
  go_wp2_with fail
  go_loopw [7, 8] (fun s7 s8 wr => ∃ i j : Nat, s7 = .int .i64 (i : Int) ∧ s8 = .int .i64 (j : Int) ∧ wr = w ∧ i ≤ j ∧ j ≤ n ∧ Hid (∀ v, 0 < i → ls[i - 1]? = some v → v < k) ∧ Hid (∀ v, ls[j]? = some v → k ≤ v)) (fun i j _ => (intOf j).toNat - (intOf i).toNat)
  case atStart => exact ⟨0, n, rfl, rfl, rfl, by omega, Nat.le_refl _, hidI (fun _ h => absurd h (by omega)), hidI (fun v h => by rw [List.getElem?_eq_none (by have := HL.out; omega)] at h; cases h)⟩
  case round =>
    obtain ⟨i, j, rfl, rfl, hwr, hij, hjn, hlo, hhi⟩ := hrel
    subst hwr
    by_cases hlt : i < j
    · have q1 : (i : Int) < (j : Int) := by omega
      obtain ⟨v, hv⟩ : ∃ v, ls[(i + j) / 2]? = some v := ⟨_, List.getElem?_eq_getElem (by have := HL.out; omega)⟩
      obtain ⟨g, rfl, hgc⟩ := HG.out ((i + j) / 2) v hv
      have HV := hidI hv
      clear hv
      by_cases hk : v < k
      · have hdt : decide (v < k) = true := decide_eq_true hk
        go_wp2_with (go_at_call 241; refine (less_any _ _ _).mono ?_; rw [hdt]; rintro e wz ⟨rfl, hz⟩; rw [hz]; clear hz)
        refine ⟨⟨(i + j) / 2 + 1, j, by go_num, rfl, trivial, by omega, hjn, hidI (fun v' _ h' => ?_), hhi⟩, ?_⟩
        · have h2 := HV.out
          rw [Nat.add_sub_cancel, h2] at h'
          cases h'
          exact hk
        · simp [intOf]
          omega
      · have hdt : decide (v < k) = false := decide_eq_false hk
        go_wp2_with (go_at_call 241; refine (less_any _ _ _).mono ?_; rw [hdt]; rintro e wz ⟨rfl, hz⟩; rw [hz]; clear hz)
        refine ⟨⟨i, (i + j) / 2, rfl, by go_num, trivial, by omega, by omega, hlo, hidI (fun v' h' => ?_)⟩, ?_⟩
        · have h2 := HV.out
          rw [h2] at h'
          cases h'
          omega
        · simp [intOf]
          omega
    · have q1 : ¬ (i : Int) < (j : Int) := by omega
      have hij2 : i = j := by omega
      subst hij2
      by_cases hin : i < n
      · have q2 : (i : Int) < (n : Int) := by omega
        obtain ⟨v, hv⟩ : ∃ v, ls[i]? = some v := ⟨_, List.getElem?_eq_getElem (by have := HL.out; omega)⟩
        obtain ⟨g, rfl, hgc⟩ := HG.out i v hv
        have HV := hidI hv
        clear hv
        by_cases hk : v = k
        · have q3 : (v == k) = true := beq_iff_eq.2 hk
          have HK := hidI hk
          clear hk
          go_wp2_with fail
          go_ret2
          exact ⟨i, by rw [decide_eq_true (show ls[i]? = some k by rw [HV.out, HK.out])]; rfl, rfl, ⟨by have := HL.out; omega, hlo.out, hhi.out⟩⟩
        · have q3 : (v == k) = false := beq_eq_false_iff_ne.2 hk
          have HK := hidI hk
          clear hk
          go_wp2_with (go_at_call 242; refine (snan_any _ _).mono ?_; rintro e wz ⟨rfl, hz⟩; rw [hz]; clear hz)
          go_ret2
          exact ⟨i, by rw [decide_eq_false (show ¬ ls[i]? = some k by rw [HV.out]; simpa using HK.out)]; rfl, rfl, ⟨by have := HL.out; omega, hlo.out, hhi.out⟩⟩
      · have q2 : ¬ (i : Int) < (n : Int) := by omega
        go_wp2_with fail
        go_ret2
        exact ⟨i, by rw [decide_eq_false (show ¬ ls[i]? = some k by rw [List.getElem?_eq_none (by have := HL.out; omega)]; simp)]; rfl, rfl, ⟨by have := HL.out; omega, hlo.out, hhi.out⟩⟩
end Go.Proofs.YtopaeomjndblkaaGreat

