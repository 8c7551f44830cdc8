/-
  The spans at which two pages differ: the program's Diff.
-/
import Derived.Test.YthajipigppndgaaGreatY23Z
import Derived.Laws.AppendOwnNone
import Derived.RegionTactic
import Derived.ChangeAlike
import Derived.Great.Ranges
import Derived.Deep.Cut
import Derived.Test.YthajipigppndgaaGreatY22Z
namespace Go.Proofs.YthajipigppndgaaGreat.Pg
open Go.RowKit Go.Maps

section
variable {ops : Array Oper} {rest : List Oper} {o : Oper} {a : Act} {w : World} {Q : Exit → Act → World → Prop}
end
end Go.Proofs.YthajipigppndgaaGreat.Pg

namespace Go.Proofs.YthajipigppndgaaGreat.Pg
open Go.RowKit Go.Maps

/-- Values that lie one behind the other. -/
def ValsAt (w : World) (ad : Option Addr) (ys : List Value) : Prop := ∀ j v, ys[j]? = some v → ∃ b off, ad = some ⟨b, off, none⟩ ∧ w.cell? ⟨b, off + j, none⟩ = some v
theorem ValsAt.nil (w : World) (ad : Option Addr) : ValsAt w ad [] := fun j v hv => by simp at hv
theorem ValsAt.kept {w w' : World} {ad : Option Addr} {ys : List Value} {L : List Nat} (h : ValsAt w ad ys) (k : Fr L w w') (hL : ∀ b off, ad = some ⟨b, off, none⟩ → b ∉ L) : ValsAt w' ad ys := by
  intro j v hv
  obtain ⟨b, off, ha, hc⟩ := h j v hv
  exact ⟨b, off, ha, (World.cell?_of_block (k.block b (block_lt_of_cell hc) (hL b off ha))).trans hc⟩
theorem ValsAt.take {w : World} {ad : Option Addr} {ys : List Value} (h : ValsAt w ad ys) (m : Nat) : ValsAt w ad (ys.take m) := by
  intro j v hv
  refine h j v ?_
  rw [List.getElem?_take] at hv
  split at hv
  · exact hv
  · cases hv
theorem ValsAt.drop {w : World} {b off : Nat} {ys : List Value} (h : ValsAt w (some ⟨b, off, none⟩) ys) (m : Nat) : ValsAt w (some ⟨b, off + m, none⟩) (ys.drop m) := by
  intro j v hv
  rw [List.getElem?_drop] at hv
  obtain ⟨b', off', e, hc⟩ := h (m + j) v hv
  cases e
  exact ⟨b, off + m, rfl, by rw [Nat.add_assoc]; exact hc⟩

/-- A row of values of that kind (slices), new since w0. -/
structure OwnV (e : TypeId) (w0 w : World) (ad : Option Addr) (n cap : Nat) (xs : List Value) : Prop where
  own : w.ownsRow w0.heap.size e 1 (.slice ad n cap) n xs
  fr : Fr [] w0 w
theorem OwnV.kept {e : TypeId} {w0 w w' : World} {ad : Option Addr} {n cap : Nat} {xs : List Value} (h : OwnV e w0 w ad n cap xs) (k : Fr [] w w') : OwnV e w0 w' ad n cap xs := by
  refine ⟨?_, h.fr.trans k⟩
  obtain ⟨h1, h2⟩ := h.own
  refine ⟨h1, ?_⟩
  rcases h2 with hn | ⟨g, c, cur, hv, hb, hg, r⟩
  · exact Or.inl hn
  · exact Or.inr ⟨g, c, cur, hv, hb, k.same (by simp) hg, r⟩
/-- The same seen from an earlier world. -/
theorem OwnV.from {e : TypeId} {w1 w0 w : World} {ad : Option Addr} {n cap : Nat} {xs : List Value} (h : OwnV e w0 w ad n cap xs) (k : Fr [] w1 w0) : OwnV e w1 w ad n cap xs := by
  refine ⟨?_, k.trans h.fr⟩
  obtain ⟨h1, h2⟩ := h.own
  refine ⟨h1, ?_⟩
  rcases h2 with hn | ⟨g, c, cur, hv, hb, r⟩
  · exact Or.inl hn
  · exact Or.inr ⟨g, c, cur, hv, Nat.le_trans k.size hb, r⟩
theorem OwnV.nil {e : TypeId} {w0 w : World} (f : Fr [] w0 w) : OwnV e w0 w none 0 0 [] := ⟨World.ownsRow_nil _ _ _ _, f⟩
theorem OwnV.len {e : TypeId} {w0 w : World} {ad : Option Addr} {n cap : Nat} {xs : List Value} (h : OwnV e w0 w ad n cap xs) : xs.length = n := by have := h.own.1; omega
theorem OwnV.vals {e : TypeId} {w0 w : World} {ad : Option Addr} {n cap : Nat} {xs : List Value} (h : OwnV e w0 w ad n cap xs) : ValsAt w ad xs := by
  intro j v hv
  have hl := h.len
  have hj : j < xs.length := (List.getElem?_eq_some_iff.1 hv).1
  rcases h.own.2 with ⟨hvv, hn⟩ | ⟨g, c, cur, hvv, hb, hg, hnc, _, hcs, ht⟩
  · omega
  · cases hvv
    refine ⟨g, 0, rfl, ?_⟩
    rw [Nat.zero_add, cell_of_row w g j _ _ _ hg, ← hv, ← ht, List.getElem?_take, if_pos (by omega)]
    simp

section
variable {ops : Array Oper} {rest : List Oper} {o : Oper} {a : Act} {w : World} {Q : Exit → Act → World → Prop}

end
end Go.Proofs.YthajipigppndgaaGreat.Pg

namespace Go.Proofs.YthajipigppndgaaGreat.Pg
open Go.RowKit Go.Maps

theorem i64_bounds {x : Int} (h : (Lit.int .i64 x).wf = true) : -9223372036854775808 ≤ x ∧ x ≤ 9223372036854775807 := by
  simp [Lit.wf, show IntKind.i64.min = -9223372036854775808 from rfl, show IntKind.i64.max = 9223372036854775807 from rfl] at h
  exact h

theorem tmod_neg {x n : Int} (h1 : 1 ≤ n) (h : x.tmod n < 0) : x.tmod n + n = x % n := by
  have e := Int.tmod_eq_emod (a := x) (b := n)
  have h2 := Int.emod_nonneg x (show n ≠ 0 by omega)
  split at e <;> omega
theorem tmod_pos {x n : Int} (h1 : 1 ≤ n) (h : 0 ≤ x.tmod n) : x.tmod n = x % n := by
  have e := Int.tmod_eq_emod (a := x) (b := n)
  have h2 := Int.emod_lt_of_pos x (show 0 < n by omega)
  split at e <;> omega
theorem wrap64_small {v : Int} (h0 : -9223372036854775808 ≤ v) (h1 : v ≤ 9223372036854775807) : wrap64 v = v := by
  unfold wrap64
  omega

set_option maxHeartbeats 400000 in
theorem pick_any (w : World) (x n : Int) (hx : (Lit.int .i64 x).wf = true) (h1 : 1 ≤ n) (h2 : n ≤ 1000000) :
    Calls Tryz.prog 26 #[.int .i64 x, .int .i64 n] w fun e w' => e = .returned (.int .i64 (x % n)) ∧ w' = w := by
  obtain ⟨b1, b2⟩ := i64_bounds hx
  have hn : ¬ n < 1 := by omega
  have g1 := Int.emod_nonneg x (show n ≠ 0 by omega)
  have g2 := Int.emod_lt_of_pos x (show 0 < n by omega)
  by_cases hneg : x.tmod n < 0
  · have e1 : Hid (wrap64 (x.tmod n + n) = x % n) := by rw [tmod_neg h1 hneg]; exact wrap64_small (by omega) (by omega)
    clear g1 g2
    go_enter Tryz.func26, Tryz.ntmps26
    go_wp2
    go_ret
    exact ⟨ret_int e1.out, rfl⟩
  · have e1 : Hid (x.tmod n = x % n) := tmod_pos h1 (by omega)
    clear g1 g2
    go_enter Tryz.func26, Tryz.ntmps26
    go_wp2
    go_ret
    exact ⟨ret_int e1.out, rfl⟩


end Go.Proofs.YthajipigppndgaaGreat.Pg

namespace Go.Proofs.YthajipigppndgaaGreat.Pg
open Go.RowKit Go.Maps

def beN : Nat → Nat → List UInt8
  | 0, _ => []
  | i + 1, n => UInt8.ofNat (n / 256 ^ i) :: beN i n
theorem beN_length (i n : Nat) : (beN i n).length = i := by
  induction i with
  | zero => rfl
  | succ i ih => simp [beN, ih]
theorem beN_two (n : Nat) : beN 2 n = be2 n := by simp [beN, be2]
theorem beN_four (n : Nat) : beN 4 n = be4 n := by simp [beN, be4]
theorem over_step (p : List UInt8) (k : Nat) (b : UInt8) (l : List UInt8) (h : k + 1 + l.length ≤ p.length) : over p k (b :: l) = (over p (k + 1) l).set k b := by
  unfold over
  rw [List.take_succ_eq_append_getElem (by omega), List.append_assoc, List.set_append_right _ _ (by simp; omega)]
  simp [show k - min k p.length = 0 by omega]
  congr 1
  omega

set_option maxHeartbeats 400000 in
set_option maxRecDepth 100000 in
theorem setNumber_any (w : World) (g off m mc c n : Nat) (p : List UInt8) (hg : RowB w g c p) (hm : m ≤ 4) (hfit : off + m ≤ p.length) (hmc : m ≤ mc) (hn : n < 4294967296) :
    Calls Tryz.prog 161 #[.slice (some ⟨g, off, none⟩) m mc, .int .i64 n] w fun r w' => r = .returned (.tuple #[]) ∧ RowB w' g c (over p off (beN m n)) ∧ Fr [g] w w' := by
  obtain ⟨N, HN⟩ : ∃ N : Int, Hid ((n : Int) = N) := ⟨_, rfl⟩
  have hN0 : 0 ≤ N := by have := HN.out; omega
  have hN1 : N < 4294967296 := by have := HN.out; omega
  rw [HN.out]
  go_enter Tryz.func161, Tryz.ntmps161
  go_wp2
  go_loopw [7] (fun i wr => ∃ j : Nat, j ≤ m ∧ i = .int .i64 j ∧ RowB wr g c (over p (off + m - j) (beN j n)) ∧ Fr [g] w wr) (fun i _ => m - (intOf i).toNat)
  case atStart => exact ⟨0, by omega, rfl, by simpa [over, beN] using hg, Fr.refl _ _⟩
  case round =>
    obtain ⟨j, hj, rfl, row, fr⟩ := hrel
    by_cases hlt : j < m
    · have hlt' : (j : Int) < m := by omega
      have hlen : (over p (off + m - j) (beN j n)).length = p.length := over_length _ _ _ (by rw [beN_length]; omega)
      have q1 := row.cell (off + m - 1 - j) (by rw [hlen]; omega)
      have z1 := row.frozen (off + m - 1 - j)
      have e1 : off + m - 1 - j = off + (m - 1 - j) := by omega
      rw [e1] at q1 z1
      go_wp2
      have HB : Hid (N / 2 ^ (8 * j) % 256 = ((UInt8.ofNat (n / 256 ^ j)).toNat : Int)) := by
        show _ = _
        rw [← HN.out, UInt8.toNat_ofNat', show (256 : Nat) ^ j = 2 ^ (8 * j) by rw [Nat.pow_mul]]
        simp
      rw [HB.out]
      refine ⟨⟨j + 1, by omega, by go_num, ?_, fr.setCell _ _ (by simp)⟩, by simp [intOf]; omega⟩
      have h2 := row.set (off + (m - 1 - j)) (UInt8.ofNat (n / 256 ^ j)) (by rw [hlen]; omega)
      have h3 := over_step p (off + (m - 1 - j)) (UInt8.ofNat (n / 256 ^ j)) (beN j n) (by rw [beN_length]; omega)
      rw [show off + (m - 1 - j) + 1 = off + m - j by omega] at h3
      rw [← h3] at h2
      rw [show off + m - (j + 1) = off + (m - 1 - j) by omega]
      exact h2
    · obtain rfl : j = m := by omega
      go_wp2
      go_end0
      exact ⟨rfl, by rw [Nat.add_sub_cancel] at row; exact row, fr⟩

/-! ### lists written over -/
theorem over_at (X R l : List UInt8) (k : Nat) (hk : k = X.length) : over (X ++ R) k l = X ++ (l ++ R.drop l.length) := by
  subst hk
  unfold over
  rw [List.take_left, List.drop_append, List.drop_eq_nil_of_le (by omega), List.nil_append]
  congr 3
  omega
theorem over_mid (X Y R l : List UInt8) (k : Nat) (hk : k = X.length) (hl : l.length = Y.length) : over (X ++ (Y ++ R)) k l = X ++ (l ++ R) := by
  rw [over_at X _ l k hk, hl, List.drop_left]

theorem pgB_setNext (k : UInt8) (x y : Nat) (cs : List (List UInt8)) : over (pgB k x cs) 2 (be4 y) = pgB k y cs := by
  unfold pgB
  exact over_mid [k, UInt8.ofNat cs.length] (be4 x) _ (be4 y) 2 rfl rfl

set_option maxHeartbeats 400000 in
set_option maxRecDepth 100000 in
theorem setNext_yes (w : World) (g c : Nat) (l : List UInt8) (k : UInt8) (x y : Nat) (cs : List (List UInt8)) (h : RowB w g c l) (pg : Pg l k x cs) (hy : y < 4294967296) :
    Calls Tryz.prog 88 #[.slice (some ⟨g, 0, none⟩) 512 c, .int .i64 y] w fun r w' => r = .returned (.bool true) ∧ RowB w' g c (pgB k y cs) ∧ Fr [g] w w' := by
  have hk := pg.ok
  have hsl := h.sl
  rw [pg.len] at hsl
  have hcap : (6 : Int) ≤ c := by have := hsl.cap; omega
  have hy0 : (0 : Int) ≤ y := by omega
  have hy1 : (y : Int) ≤ 4294967295 := by omega
  have HO : Hid (over l 2 (beN 4 y) = pgB k y cs) := by
    show _ = _
    rw [beN_four, pg.eq, pgB_setNext]
  have hlen := pg.len
  go_enter Tryz.func88, Tryz.ntmps88
  go_wp2_with (first
    | (go_at_call 160; refine (check_any _ _ _ _ l hsl).mono ?_; rintro e1 w ⟨rfl, rfl⟩)
    | (go_at_call 161; refine (setNumber_any _ g 2 4 _ c y l h (by omega) (by omega) (by omega) hy).mono ?_; rintro e1 w1 ⟨rfl, r1, f1⟩))
  go_ret
  exact ⟨rfl, by rw [← HO.out]; exact r1, f1⟩
end Go.Proofs.YthajipigppndgaaGreat.Pg

namespace Go.Proofs.YthajipigppndgaaGreat.Pg

def hd6 (k : UInt8) (n x : Nat) : List UInt8 := [k, UInt8.ofNat n] ++ be4 x
theorem hd6_length (k : UInt8) (n x : Nat) : (hd6 k n x).length = 6 := rfl
theorem pgB_hd (k : UInt8) (x : Nat) (cs : List (List UInt8)) : pgB k x cs = hd6 k cs.length x ++ (enc cs ++ zs (506 - elen cs)) := by
  unfold pgB hd6; simp
theorem hd6_set (k : UInt8) (n m x : Nat) (R : List UInt8) : (hd6 k n x ++ R).set 1 (UInt8.ofNat m) = hd6 k m x ++ R := by
  unfold hd6 be4; rfl
theorem hd6_one (k : UInt8) (n x : Nat) (R : List UInt8) (h : n < 256) : (byteAt (hd6 k n x ++ R) 1).toNat = n := by
  show (UInt8.ofNat n).toNat = n
  rw [u8_ofNat_toNat]; omega
theorem zs_drop (n k : Nat) : (zs n).drop k = zs (n - k) := by simp [zs]

/-- The bytes behind the three writings of Insert, ahead of the count's. -/
theorem ins_bytes (k : UInt8) (x : Nat) (cs : List (List UInt8)) (s : Nat) (cell : List UInt8) (hf : elen cs + 2 + cell.length ≤ 506) :
    over (over (over (pgB k x cs) (slotAt cs s + 2 + cell.length) (enc (cs.drop s))) (slotAt cs s) (be2 cell.length)) (slotAt cs s + 2) cell = hd6 k cs.length x ++ (enc (insC cs s cell) ++ zs (506 - elen (insC cs s cell))) := by
  have hsp := elen_split cs s
  have hA : (hd6 k cs.length x ++ enc (cs.take s)).length = slotAt cs s := by
    rw [List.length_append, hd6_length]; rfl
  have hB : (enc (cs.drop s)).length = elen (cs.drop s) := rfl
  have e0 : pgB k x cs = (hd6 k cs.length x ++ enc (cs.take s)) ++ (enc (cs.drop s) ++ zs (506 - elen cs)) := by
    rw [pgB_hd, enc_split cs s]; simp
  obtain ⟨T, hT⟩ : ∃ T, T = enc (cs.drop s) ++ zs (506 - elen cs) := ⟨_, rfl⟩
  have hTl : T.length = elen (cs.drop s) + (506 - elen cs) := by rw [hT, List.length_append, zs_length]; rfl
  have hT3 : T = T.take 2 ++ ((T.drop 2).take cell.length ++ T.drop (2 + cell.length)) := by
    conv => lhs; rw [← List.take_append_drop 2 T, ← List.take_append_drop cell.length (T.drop 2), List.drop_drop]
  have h1 : over (pgB k x cs) (slotAt cs s + 2 + cell.length) (enc (cs.drop s)) = (hd6 k cs.length x ++ enc (cs.take s)) ++ (T.take 2 ++ ((T.drop 2).take cell.length ++ (enc (cs.drop s) ++ zs (506 - elen cs - (2 + cell.length))))) := by
    rw [e0, ← hT]
    have e1 : (hd6 k cs.length x ++ enc (cs.take s)) ++ T = ((hd6 k cs.length x ++ enc (cs.take s)) ++ (T.take 2 ++ (T.drop 2).take cell.length)) ++ T.drop (2 + cell.length) := by
      conv => lhs; rw [hT3]
      simp
    rw [e1, over_at _ _ _ _ (by rw [List.length_append, hA, List.length_append, List.length_take, List.length_take, List.length_drop]; omega)]
    rw [List.drop_drop, hT]
    have e2 : (enc (cs.drop s) ++ zs (506 - elen cs)).drop (2 + cell.length + (enc (cs.drop s)).length) = zs (506 - elen cs - (2 + cell.length)) := by
      rw [Nat.add_comm, ← List.drop_drop, List.drop_left, zs_drop]
    rw [e2]
    simp only [List.append_assoc]
  rw [h1, over_mid _ (T.take 2) _ _ _ hA.symm (by rw [be2_length, List.length_take]; omega)]
  rw [← List.append_assoc, over_mid _ ((T.drop 2).take cell.length) _ _ _ (by rw [List.length_append, hA, be2_length]) (by rw [List.length_take, List.length_drop]; omega)]
  rw [insC_enc, insC_elen]
  simp only [List.append_assoc]
  congr 6
  omega

theorem src_ins (k : UInt8) (x : Nat) (cs : List (List UInt8)) (s : Nat) : ((pgB k x cs).drop (slotAt cs s)).take (elen (cs.drop s)) = enc (cs.drop s) := by
  rw [pgB_slot]; exact List.take_left
theorem ins_page (k : UInt8) (x : Nat) (cs : List (List UInt8)) (s : Nat) (cell : List UInt8) (hs : s ≤ cs.length) (m : Nat) (hm : m = cs.length + 1) :
    (hd6 k cs.length x ++ (enc (insC cs s cell) ++ zs (506 - elen (insC cs s cell)))).set 1 (UInt8.ofNat m) = pgB k x (insC cs s cell) := by
  rw [hd6_set, pgB_hd, insC_length cs s cell hs, hm]
end Go.Proofs.YthajipigppndgaaGreat.Pg

namespace Go.Proofs.YthajipigppndgaaGreat.Pg
open Go.RowKit Go.Maps

section
variable {ops : Array Oper} {rest : List Oper} {o : Oper} {a : Act} {w : World} {Q : Exit → Act → World → Prop}
/-- append of bytes to a row of one's own that has a place. -/
theorem wp_appB (hgd : o.guard = none) (s x : Operand) (ho : o.op = .call { callee := .builtin .append, args := #[s, x], argTypes := #[26, 26] }) (w0 : World) (g n cap : Nat) (xs : List Value) (hs : a.eval s = .slice (some ⟨g, 0, none⟩) n cap) (hown : Own w0 w (.slice (some ⟨g, 0, none⟩) n cap) n xs)
    (ad : Option Addr) (m c : Nat) (l : List UInt8) (hx : a.eval x = .slice ad m c) (hl : l.length = m) (hsrc : BytesAt w ad l) (hm : n + m ≤ 1000000) (hn : 0 < n) (hne : ad = none → m = 0 ∧ c = 0)
    (h : ∀ g' cap' w', Own w0 w' (.slice (some ⟨g', 0, none⟩) (n + m) cap') (n + m) (xs ++ (arr l).toList) → wpList Tryz.prog ops Q rest (a.put o.dst (.slice (some ⟨g', 0, none⟩) (n + m) cap')) w') : wpList Tryz.prog ops Q (o :: rest) a w := by
  obtain ⟨i, hi, hz, hsz, hb⟩ := info5'
  cases ad with
  | none =>
    obtain ⟨rfl, rfl⟩ := hne rfl
    have e0 : l = [] := List.eq_nil_of_length_eq_zero hl
    subst e0
    refine wpList_append_own_none hgd s x 26 ho w0.heap.size 5 i 1 Tryz.underlying26 hi _ n xs hs hown.1 hx ?_
    have := h g cap w (by simpa [arr] using hown)
    simpa using this
  | some a0 =>
    refine wp_app hgd s x ho w0 _ n xs hs hown (some a0) m c l hx hl hsrc hm (fun _ => ⟨_, rfl⟩) ?_
    intro v' w' o'
    rcases o'.1.2 with ⟨rfl, h0⟩ | ⟨g', cap', cur, rfl, _⟩
    · omega
    · exact h g' cap' w' o'
end

/-- A cell that the document's page has, in memory. -/
structure RCell where
  ad : Option Addr
  n : Nat
  c : Nat
  l : List UInt8
def RCell.val (e : RCell) : Value := .slice e.ad e.n e.c
structure RCell.ok (w : World) (e : RCell) : Prop where
  len : e.l.length = e.n
  bytes : BytesAt w e.ad e.l
  nil : e.ad = none → e.n = 0 ∧ e.c = 0
theorem RCell.ok.kept {w w' : World} {e : RCell} (h : e.ok w) (f : Fr [] w w') : e.ok w' := ⟨h.len, h.bytes.kept f (by simp), h.nil⟩
def rcells (E : List RCell) : List (List UInt8) := E.map RCell.l
def rvals (E : List RCell) : List Value := E.map RCell.val
/-- The document's page in memory: a row of cells. -/
structure RPage (w : World) (ad : Option Addr) (n cp : Nat) (E : List RCell) : Prop where
  len : E.length = n
  cap : n ≤ cp
  vals : ValsAt w ad (rvals E)
  ok : ∀ e ∈ E, e.ok w
  nil : ad = none → cp = 0
theorem RPage.kept {w w' : World} {ad : Option Addr} {n cap : Nat} {E : List RCell} (h : RPage w ad n cap E) (f : Fr [] w w') : RPage w' ad n cap E :=
  ⟨h.len, h.cap, h.vals.kept f (by simp), fun e he => (h.ok e he).kept f, h.nil⟩

def hdX (k : UInt8) (n : Nat) (X : Int) : List UInt8 := [k, UInt8.ofNat n, UInt8.ofNat (X / 16777216 % 256).toNat, UInt8.ofNat (X / 65536 % 256).toNat, UInt8.ofNat (X / 256 % 256).toNat, UInt8.ofNat (X % 256).toNat]
/-- What Put answers. -/
def PutTo (w : World) (k : UInt8) (n : Nat) (X : Int) (E : List RCell) (r : Ending) (w' : World) : Prop :=
  (6 + elen (rcells E) ≤ 512 ∧ 0 ≤ X ∧ X ≤ 4294967295 ∧ ∃ g c, r = .returned (.tuple #[.slice (some ⟨g, 0, none⟩) 512 c, .bool true]) ∧ RowB w' g c (hdX k n X ++ (enc (rcells E) ++ zs (506 - elen (rcells E)))) ∧ w.heap.size ≤ g ∧ Fr [] w w') ∨
  (¬ (6 + elen (rcells E) ≤ 512 ∧ 0 ≤ X ∧ X ≤ 4294967295) ∧ r = .returned (.tuple #[.slice none 0 0, .bool false]) ∧ Fr [] w w')

end Go.Proofs.YthajipigppndgaaGreat.Pg

namespace Go.Proofs.YthajipigppndgaaGreat.Pg
open Go.RowKit Go.Maps

section
variable {ops : Array Oper} {rest : List Oper} {o : Oper} {a : Act} {w : World} {Q : Exit → Act → World → Prop}
end

section
variable {ops : Array Oper} {rest : List Oper} {o : Oper} {a : Act} {w : World} {Q : Exit → Act → World → Prop}
end

/-- A cell of the document's page, in memory of its own. -/
structure RB where
  b : Nat
  c : Nat
  l : List UInt8
def RB.val (e : RB) : Value := .slice (some ⟨e.b, 0, none⟩) e.l.length e.c
def RB.cell (e : RB) : RCell := ⟨some ⟨e.b, 0, none⟩, e.l.length, e.c, e.l⟩
theorem hidI {P : Prop} (h : P) : Hid P := h

end Go.Proofs.YthajipigppndgaaGreat.Pg

namespace Go.Proofs.YthajipigppndgaaGreat.Pg

/-- What is known behind i places: the spans that are put, the one that is not put yet (its end is 0 while there is none). -/
def dwalk (a b : List UInt8) : Nat → List (Nat × Nat) × Nat × Nat
  | 0 => ([], 0, 0)
  | i + 1 =>
    let s := dwalk a b i
    if byteAt a i = byteAt b i then s else if s.2.2 = 0 then (s.1, i, i + 1) else if 7 < i - s.2.2 then (s.1 ++ [(s.2.1, s.2.2)], i, i + 1) else (s.1, s.2.1, i + 1)
def spansOf (s : List (Nat × Nat) × Nat × Nat) : List (Nat × Nat) := if s.2.2 = 0 then s.1 else s.1 ++ [(s.2.1, s.2.2)]
def diffS (a b : List UInt8) : List (Nat × Nat) := spansOf (dwalk a b 512)

/-- Spans that rise, eight alike between each two, differ at their ends; from a place on. -/
def Rises (a b : List UInt8) : Nat → List (Nat × Nat) → Prop
  | _, [] => True
  | m, (f, t) :: r => m ≤ f ∧ f < t ∧ byteAt a f ≠ byteAt b f ∧ byteAt a (t - 1) ≠ byteAt b (t - 1) ∧ Rises a b (t + 8) r
theorem Rises.snoc {a b : List UInt8} : ∀ {l : List (Nat × Nat)} {m f t : Nat}, Rises a b m l → (∀ x ∈ l, x.2 + 8 ≤ f) → m ≤ f → f < t → byteAt a f ≠ byteAt b f → byteAt a (t - 1) ≠ byteAt b (t - 1) → Rises a b m (l ++ [(f, t)])
  | [], m, f, t, _, _, h1, h2, h3, h4 => ⟨h1, h2, h3, h4, trivial⟩
  | (f0, t0) :: r, m, f, t, h, hx, h1, h2, h3, h4 => by
    obtain ⟨k1, k2, k3, k4, k5⟩ := h
    exact ⟨k1, k2, k3, k4, Rises.snoc k5 (fun x hx' => hx x (List.mem_cons_of_mem _ hx')) (hx (f0, t0) (by simp)) h2 h3 h4⟩

structure DOk (a b : List UInt8) (i : Nat) (s : List (Nat × Nat) × Nat × Nat) : Prop where
  none : s.2.2 = 0 → s.1 = [] ∧ s.2.1 = 0
  le : s.2.2 ≤ i
  cur : s.2.2 ≠ 0 → s.2.1 < s.2.2 ∧ byteAt a s.2.1 ≠ byteAt b s.2.1 ∧ byteAt a (s.2.2 - 1) ≠ byteAt b (s.2.2 - 1) ∧ (∀ x ∈ s.1, x.2 + 8 ≤ s.2.1)
  rises : Rises a b 0 s.1
  few : 9 * s.1.length ≤ s.2.1
  out : ∀ j, j < i → (∀ x ∈ spansOf s, ¬ (x.1 ≤ j ∧ j < x.2)) → byteAt a j = byteAt b j
theorem dwalk_ok (a b : List UInt8) : ∀ i, DOk a b i (dwalk a b i)
  | 0 => ⟨fun _ => ⟨rfl, rfl⟩, Nat.le_refl _, fun h => absurd rfl h, trivial, Nat.le_refl _, fun j hj => absurd hj (by omega)⟩
  | i + 1 => by
    have ih := dwalk_ok a b i
    generalize hs : dwalk a b i = s at ih
    obtain ⟨d, f, t⟩ := s
    have hd : dwalk a b (i + 1) = if byteAt a i = byteAt b i then (d, f, t) else if t = 0 then (d, i, i + 1) else if 7 < i - t then (d ++ [(f, t)], i, i + 1) else (d, f, i + 1) := by
      rw [dwalk]
      simp only [hs]
    rw [hd]
    have hle : t ≤ i := ih.le
    by_cases he : byteAt a i = byteAt b i
    · rw [if_pos he]
      refine ⟨ih.none, by show t ≤ i + 1; omega, ih.cur, ih.rises, ih.few, fun j hj hx => ?_⟩
      by_cases hji : j = i
      · rw [hji]; exact he
      · exact ih.out j (by omega) hx
    · rw [if_neg he]
      by_cases ht : t = 0
      · rw [if_pos ht]
        obtain ⟨hd0, hf0⟩ := ih.none ht
        have hd0' : d = [] := hd0
        subst hd0'
        refine ⟨fun h => absurd h (by show ¬ i + 1 = 0; omega), Nat.le_refl _, fun _ => ⟨by show i < i + 1; omega, he, by show byteAt a (i + 1 - 1) ≠ _; rw [Nat.add_sub_cancel]; exact he, fun x hx => nomatch hx⟩, trivial, by show 9 * 0 ≤ i; omega, fun j hj hx => ?_⟩
        have hx2 : ¬ (i ≤ j ∧ j < i + 1) := hx (i, i + 1) (by unfold spansOf; rw [if_neg (by show ¬ i + 1 = 0; omega)]; simp)
        exact ih.out j (by omega) (fun x hx3 => by
          unfold spansOf at hx3
          rw [if_pos ht] at hx3
          exact nomatch hx3)
      · rw [if_neg ht]
        obtain ⟨c1, c2, c3, c4⟩ := ih.cur ht
        have c1' : f < t := c1
        by_cases h7 : 7 < i - t
        · rw [if_pos h7]
          refine ⟨fun h => absurd h (by show ¬ i + 1 = 0; omega), Nat.le_refl _, fun _ => ⟨by show i < i + 1; omega, he, by show byteAt a (i + 1 - 1) ≠ _; rw [Nat.add_sub_cancel]; exact he, fun x hx => ?_⟩, ih.rises.snoc c4 (Nat.zero_le _) c1 c2 c3, ?_, fun j hj hx => ?_⟩
          · have hx' : x ∈ d ++ [(f, t)] := hx
            rcases List.mem_append.1 hx' with h | h
            · have h9 : x.2 + 8 ≤ f := c4 x h
              show x.2 + 8 ≤ i
              omega
            · simp at h
              subst h
              show t + 8 ≤ i
              omega
          · have h9 : 9 * d.length ≤ f := ih.few
            show 9 * (d ++ [(f, t)]).length ≤ i
            rw [List.length_append]
            show 9 * (d.length + 1) ≤ i
            omega
          · have hx2 : ¬ (i ≤ j ∧ j < i + 1) := hx (i, i + 1) (by unfold spansOf; rw [if_neg (by show ¬ i + 1 = 0; omega)]; simp)
            exact ih.out j (by omega) (fun x hx3 => hx x (by
              unfold spansOf at hx3 ⊢
              rw [if_neg ht] at hx3
              rw [if_neg (by show ¬ i + 1 = 0; omega)]
              exact List.mem_append_left _ hx3))
        · rw [if_neg h7]
          refine ⟨fun h => absurd h (by show ¬ i + 1 = 0; omega), Nat.le_refl _, fun _ => ⟨by show f < i + 1; omega, c2, by show byteAt a (i + 1 - 1) ≠ _; rw [Nat.add_sub_cancel]; exact he, c4⟩, ih.rises, ih.few, fun j hj hx => ?_⟩
          have hx2 : ¬ (f ≤ j ∧ j < i + 1) := hx (f, i + 1) (by unfold spansOf; rw [if_neg (by show ¬ i + 1 = 0; omega)]; simp)
          have hjf : j < f := by omega
          exact ih.out j (by omega) (fun x hx3 => by
            unfold spansOf at hx3
            rw [if_neg ht] at hx3
            rcases List.mem_append.1 hx3 with h | h
            · exact hx x (by unfold spansOf; rw [if_neg (by show ¬ i + 1 = 0; omega)]; exact List.mem_append_left _ h)
            · simp at h
              subst h
              show ¬ (f ≤ j ∧ j < t)
              omega)
end Go.Proofs.YthajipigppndgaaGreat.Pg

namespace Go.Proofs.YthajipigppndgaaGreat.Pg
open Go.RowKit Go.Maps

theorem infoSp : ∃ i, Tryz.prog.info? 146 = some i ∧ i.zero = some (.agg #[.int .i64 0, .int .i64 0, .slice none 0 0, .slice none 0 0]) ∧ i.size = 4 ∧ i.bytes = 64 := by
  have h : (Tryz.prog.info? 146).map (fun i => (i.zero, i.size, i.bytes)) = some (some (.agg #[.int .i64 0, .int .i64 0, .slice none 0 0, .slice none 0 0]), 4, 64) := by kernel_rfl
  cases hi : Tryz.prog.info? 146 with
  | none => rw [hi] at h; cases h
  | some i =>
    rw [hi] at h
    simp at h
    exact ⟨i, rfl, h.1, h.2.1, h.2.2⟩

/-- A span that is put: where it is, how long, its two lists. -/
structure SpE where
  off : Nat
  n : Nat
  bo : Nat
  bn : Nat
def SpE.vals (e : SpE) : List Value := [.int .i64 0, .int .i64 (e.off : Int), .slice (some ⟨e.bo, 0, none⟩) e.n e.n, .slice (some ⟨e.bn, 0, none⟩) e.n e.n]
def spv (S : List SpE) : List Value := S.flatMap SpE.vals
theorem spv_length (S : List SpE) : (spv S).length = S.length * 4 := by
  induction S with
  | nil => rfl
  | cons e r ih => simp [spv, SpE.vals] at ih ⊢; omega
theorem spv_snoc (S : List SpE) (e : SpE) : spv (S ++ [e]) = spv S ++ e.vals := by simp [spv]
theorem spv_at (S : List SpE) (i : Nat) (h : i < S.length) (k : Nat) (hk : k < 4) : (spv S)[i * 4 + k]? = S[i].vals[k]? := by
  induction S generalizing i with
  | nil => simp at h
  | cons e r ih =>
    have hv : e.vals.length = 4 := rfl
    have he : spv (e :: r) = e.vals ++ spv r := by simp [spv]
    rw [he]
    cases i with
    | zero =>
      rw [List.getElem?_append_left (by omega)]
      simp
    | succ i =>
      rw [List.getElem?_append_right (by omega), hv, show (i + 1) * 4 + k - 4 = i * 4 + k by omega]
      exact ih i (by simpa using h)

/-- The lists' blocks rise, between two marks. -/
def blksOf (S : List SpE) : List Nat := S.flatMap fun e => [e.bo, e.bn]
def Rise (lo hi : Nat) (S : List SpE) : Prop := (blksOf S).Pairwise (· < ·) ∧ ∀ b ∈ blksOf S, lo ≤ b ∧ b < hi
theorem Rise.up {lo hi hi' : Nat} {S : List SpE} (h : Rise lo hi S) (hl : hi ≤ hi') : Rise lo hi' S := ⟨h.1, fun b hb => ⟨(h.2 b hb).1, Nat.lt_of_lt_of_le (h.2 b hb).2 hl⟩⟩
theorem Rise.snoc {lo hi hi' : Nat} {S : List SpE} {e : SpE} (h : Rise lo hi S) (h0 : lo ≤ hi) (h1 : hi ≤ e.bo) (h2 : e.bo < e.bn) (h3 : e.bn < hi') : Rise lo hi' (S ++ [e]) := by
  have hs : blksOf (S ++ [e]) = blksOf S ++ [e.bo, e.bn] := by simp [blksOf]
  unfold Rise
  rw [hs]
  refine ⟨List.pairwise_append.2 ⟨h.1, by simp [h2], fun a ha b hb => ?_⟩, fun b hb => ?_⟩
  · have := (h.2 a ha).2
    simp at hb
    rcases hb with rfl | rfl <;> omega
  · rcases List.mem_append.1 hb with hb | hb
    · have := h.2 b hb
      omega
    · simp at hb
      rcases hb with rfl | rfl <;> omega

structure DInv (w wr : World) (bs ba bb : Nat) (va vb : Value) (la lb : List UInt8) (AD : Option Addr) (N CAP : Nat) (S : List SpE) : Prop where
  cell : wr.heap[bs]? = some (.cells #[.slice AD N CAP] 122)
  boxa : wr.heap[ba]? = some (.cells #[va] 26)
  boxb : wr.heap[bb]? = some (.cells #[vb] 26)
  own : wr.ownsRow w.heap.size 146 4 (.slice AD N CAP) N (spv S)
  oks : ∀ e ∈ S, Blk wr e.bo ((la.drop e.off).take e.n) ∧ Blk wr e.bn ((lb.drop e.off).take e.n)
  fr : Fr [] w wr
  news : w.heap.size ≤ bs ∧ w.heap.size ≤ ba ∧ w.heap.size ≤ bb
  rise : Rise w.heap.size wr.heap.size S
theorem ownSp_kept {w wr wt : World} {v : Value} {n : Nat} {xs : List Value} {L : List Nat} (h : wr.ownsRow w.heap.size 146 4 v n xs) (k : Fr L wr wt) (hL : ∀ g, v.ownBlock = some g → g ∉ L) : wt.ownsRow w.heap.size 146 4 v n xs := by
  obtain ⟨h1, h2⟩ := h
  refine ⟨h1, ?_⟩
  rcases h2 with hn | ⟨g, cap, cur, rfl, hb, hg, r⟩
  · exact Or.inl hn
  · exact Or.inr ⟨g, cap, cur, rfl, hb, k.same (hL g rfl) hg, r⟩
theorem DInv.kept {w wr wt : World} {bs ba bb : Nat} {va vb : Value} {la lb : List UInt8} {AD : Option Addr} {N CAP : Nat} {S : List SpE} (h : DInv w wr bs ba bb va vb la lb AD N CAP S) (f : Fr [] wr wt) : DInv w wt bs ba bb va vb la lb AD N CAP S :=
  ⟨f.same (by simp) h.cell, f.same (by simp) h.boxa, f.same (by simp) h.boxb, ownSp_kept h.own f (by simp), fun e he => ⟨(h.oks e he).1.kept f (by simp), (h.oks e he).2.kept f (by simp)⟩, h.fr.trans f, h.news, h.rise.up f.size⟩
theorem DInv.len {w wr : World} {bs ba bb : Nat} {va vb : Value} {la lb : List UInt8} {AD : Option Addr} {N CAP : Nat} {S : List SpE} (h : DInv w wr bs ba bb va vb la lb AD N CAP S) : S.length = N := by
  have := h.own.1
  rw [spv_length] at this
  omega
theorem heap_ne {w : World} {a b : Nat} {x y : Array Value} {S T : TypeId} (h1 : w.heap[a]? = some (.cells x S)) (h2 : w.heap[b]? = some (.cells y T)) (hT : S ≠ T) : a ≠ b := by
  rintro rfl
  rw [h1] at h2
  cases h2
  exact hT rfl
theorem ownSp_cells {w wr : World} {v : Value} {n : Nat} {xs : List Value} (h : wr.ownsRow w.heap.size 146 4 v n xs) {g : Nat} (hg : g ∈ v.ownBlock.toList) : ∃ cur, wr.heap[g]? = some (.cells cur 146) := by
  rcases h.2 with ⟨hv, _⟩ | ⟨g', c, cur, hv, _, hh, _⟩
  · rw [hv] at hg; simp [Value.ownBlock] at hg
  · rw [hv] at hg
    have : g' = g := by simpa [Value.ownBlock, eq_comm] using hg
    subst this
    exact ⟨cur, hh⟩

section
variable {ops : Array Oper} {rest : List Oper} {o : Oper} {a : Act} {w : World} {Q : Exit → Act → World → Prop}
theorem run_appSp (ty : TypeId) (w0 : World) (ad0 : Option Addr) (n cap : Nat) (xs : List Value) (hown : w.ownsRow w0.heap.size 146 4 (.slice ad0 n cap) n xs) (f0 : Fr [] w0 w) (b : Nat) (us : List Value) (hb : w.heap[b]? = some (.cells us.toArray 146)) (hu : us.length = 4) (h1 : ∀ u ∈ us, u.oneCell' = true) (hm : n + 1 ≤ 10000) :
    ∃ g cap' w', (Builtin.append_ #[122, 122] ty #[.slice ad0 n cap, .slice (some ⟨b, 0, none⟩) 1 1]).run Tryz.prog w = .ok (.slice (some ⟨g, 0, none⟩) (n + 1) cap') w' ∧ w'.ownsRow w0.heap.size 146 4 (.slice (some ⟨g, 0, none⟩) (n + 1) cap') (n + 1) (xs ++ us) ∧ Fr (Value.ownBlock (.slice ad0 n cap)).toList w w' ∧ Fr [] w0 w' := by
  obtain ⟨i, hi, hz, hs, hbb⟩ := infoSp
  obtain ⟨v', w', hrun, h2, h3, h4, _⟩ := run_append_own_at (P := Tryz.prog) w w0.heap.size 122 ty 146 i (.agg #[.int .i64 0, .int .i64 0, .slice none 0 0, .slice none 0 0]) 4 64 Tryz.underlying122 hi hz hs hbb rfl (by omega) _ n xs hown ⟨b, 0, none⟩ 1 1 us (by omega)
      (by
        intro j x hx
        rw [Addr.add_mid, cell_of_row w b _ _ _ _ hb]
        simpa using hx) h1 (by unfold maxLen; omega) (by omega) f0.size
  have hfr : Fr [] w0 w' := f0.grown h3 (fun j e hj => by
    have := (hown.lt j e).1
    omega)
  rcases h2.2 with ⟨e, hn0⟩ | ⟨g, c', cur, e, r⟩
  · omega
  · subst e
    exact ⟨g, c', w', hrun, h2, (Fr.refl _ _).grown h3 (fun j e _ => by simp [e]), hfr⟩
theorem step_appSp {K : Act → World → Prop} {X : Prop} (hgd : o.guard = none) (s x : Operand) (ho : o.op = .call { callee := .builtin .append, args := #[s, x], argTypes := #[122, 122] }) (w0 : World) (ad0 : Option Addr) (n cap : Nat) (xs : List Value) (b : Nat) (us : List Value) (hs : a.eval s = .slice ad0 n cap) (hx : a.eval x = .slice (some ⟨b, 0, none⟩) 1 1)
    (hown : w.ownsRow w0.heap.size 146 4 (.slice ad0 n cap) n xs) (f0 : Fr [] w0 w) (hb : w.heap[b]? = some (.cells us.toArray 146)) (hu : us.length = 4) (h1 : ∀ u ∈ us, u.oneCell' = true) (hm : n + 1 ≤ 10000)
    (h : ∀ g cap' w', w'.ownsRow w0.heap.size 146 4 (.slice (some ⟨g, 0, none⟩) (n + 1) cap') (n + 1) (xs ++ us) → Fr (Value.ownBlock (.slice ad0 n cap)).toList w w' → Fr [] w0 w' → K (a.put o.dst (.slice (some ⟨g, 0, none⟩) (n + 1) cap')) w') :
    if Region.wanted o (yielded ops a.tmps) = true then Oper.wp Tryz.prog o a w K Q else X := by
  have hw : Region.wanted o (yielded ops a.tmps) = true := by simp [Region.wanted, hgd]
  rw [if_pos hw]
  obtain ⟨g, c', w', hrun, h2, h3, h4⟩ := run_appSp o.type w0 ad0 n cap xs hown f0 b us hb hu h1 hm
  unfold Oper.wp
  simp [execOp, ho, resolve, invoke, builtin, hs, hx, hrun, Result.andThen]
  exact h _ _ _ h2 h3 h4
end

/-- A span is put. -/
theorem d_step {w wr w5 w6 : World} {bs ba bb : Nat} {va vb : Value} {la lb : List UInt8} {AD : Option Addr} {N CAP : Nat} {S : List SpE} (h : DInv w wr bs ba bb va vb la lb AD N CAP S) {g6 cap6 : Nat} {e : SpE} (f5 : Fr [] wr w5) (o1 : Blk w5 e.bo ((la.drop e.off).take e.n)) (o2 : Blk w5 e.bn ((lb.drop e.off).take e.n)) (ob : Obj)
    (o6 : w6.ownsRow w.heap.size 146 4 (.slice (some ⟨g6, 0, none⟩) (N + 1) cap6) (N + 1) (spv S ++ e.vals)) (f6 : Fr (Value.ownBlock (.slice AD N CAP)).toList (w5.alloc ob) w6) (f06 : Fr [] w w6) (hbo : wr.heap.size ≤ e.bo) (hbn : e.bo < e.bn) (hb5 : e.bn < w5.heap.size) :
    DInv w (w6.setCell ⟨bs, 0, none⟩ (.slice (some ⟨g6, 0, none⟩) (N + 1) cap6)) bs ba bb va vb la lb (some ⟨g6, 0, none⟩) (N + 1) cap6 (S ++ [e]) := by
  have h5 := h.kept (f5.alloc ob)
  have hne : ∀ g, g ∈ (Value.ownBlock (.slice AD N CAP)).toList → ∃ cur, (w5.alloc ob).heap[g]? = some (.cells cur 146) := fun g hg => ownSp_cells h5.own hg
  have kp : ∀ (b : Nat) (x : Array Value) (T : TypeId), (w5.alloc ob).heap[b]? = some (.cells x T) → T ≠ 146 → w6.heap[b]? = some (.cells x T) := fun b x T hb hT => f6.same (fun hm => by obtain ⟨cur, hc⟩ := hne _ hm; exact heap_ne hb hc hT rfl) hb
  have c6 := kp _ _ _ h5.cell (by decide)
  have a6 := kp _ _ _ h5.boxa (by decide)
  have b6 := kp _ _ _ h5.boxb (by decide)
  have oks6 : ∀ x ∈ S ++ [e], Blk w6 x.bo ((la.drop x.off).take x.n) ∧ Blk w6 x.bn ((lb.drop x.off).take x.n) := by
    intro x hx
    have : Blk (w5.alloc ob) x.bo ((la.drop x.off).take x.n) ∧ Blk (w5.alloc ob) x.bn ((lb.drop x.off).take x.n) := by
      rcases List.mem_append.1 hx with hx | hx
      · exact h5.oks x hx
      · simp at hx
        subst hx
        exact ⟨o1.kept ((Fr.refl [] _).alloc ob) (by simp), o2.kept ((Fr.refl [] _).alloc ob) (by simp)⟩
    exact ⟨kp _ _ _ this.1 (by decide), kp _ _ _ this.2 (by decide)⟩
  have f7 : Fr [bs] w6 (w6.setCell ⟨bs, 0, none⟩ (.slice (some ⟨g6, 0, none⟩) (N + 1) cap6)) := (Fr.refl _ _).setCell _ _ (by simp)
  have k7 : ∀ (b : Nat) (x : Array Value) (T : TypeId), w6.heap[b]? = some (.cells x T) → T ≠ 122 → (w6.setCell ⟨bs, 0, none⟩ (.slice (some ⟨g6, 0, none⟩) (N + 1) cap6)).heap[b]? = some (.cells x T) := fun b x T hb hT => f7.same (fun hm => by
    have e0 : b = bs := by simpa using hm
    exact heap_ne hb c6 hT e0) hb
  refine ⟨?_, k7 _ _ _ a6 (by decide), k7 _ _ _ b6 (by decide), ?_, ?_, f06.setCell _ _ (fun hh => absurd hh (by have := h.news.1; simp; omega)), h.news, ?_⟩
  · exact heap_setCell_same w6 bs 0 _ _ (.slice (some ⟨g6, 0, none⟩) (N + 1) cap6) c6
  · rw [spv_snoc]
    refine ownSp_kept o6 f7 (fun g hg hm => ?_)
    obtain ⟨cur, hc⟩ := ownSp_cells o6 (g := g) (by rw [hg]; simp)
    have e0 : g = bs := by simpa using hm
    exact heap_ne hc c6 (by decide) e0
  · intro x hx
    exact ⟨k7 _ _ _ (oks6 x hx).1 (by decide), k7 _ _ _ (oks6 x hx).2 (by decide)⟩
  · have hs6 := f6.size
    have hs0 := h.fr.size
    have e1 : (w5.alloc ob).heap.size = w5.heap.size + 1 := by simp
    have e2 : (w6.setCell ⟨bs, 0, none⟩ (.slice (some ⟨g6, 0, none⟩) (N + 1) cap6)).heap.size = w6.heap.size := by simp [World.setCell]
    rw [e2]
    exact h.rise.snoc hs0 hbo hbn (by omega)
end Go.Proofs.YthajipigppndgaaGreat.Pg

