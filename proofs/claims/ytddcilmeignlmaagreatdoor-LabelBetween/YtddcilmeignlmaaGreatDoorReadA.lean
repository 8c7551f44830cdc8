/-
  The label's reading.
-/
import Derived.Test.YtddcilmeignlmaaGreatDoorPut2
import Derived.Test.YtddcilmeignlmaaGreatDoorOwn
import Derived.Test.YtddcilmeignlmaaGreatDoorLabRead
import Derived.WalkMore
namespace Go.Proofs.YtddcilmeignlmaaGreatDoor
open Go.RowKit Go.Maps

set_option maxHeartbeats 2000000 in
set_option maxRecDepth 100000 in
theorem read_long (w : World) (ad : Option Addr) (m c : Nat) (hm : 128 < m) (hm2 : m < 9223372036854775808) :
    Calls Tryz.prog 29 #[.slice ad m c] w fun e w' => e = .returned (.tuple #[pv (mkS []) 0 (mkS []) 0 (mkS []) 0 0, .bool false]) ∧ Fr [] w w' := by
  have hm' : (128 : Int) < (m : Int) := by omega
  have p0 := PBox.zero w
  have f0 := (Fr.refl [] w).alloc (.cells #[.string { data := #[] }, .int .i64 0, .string { data := #[] }, .int .i64 0, .string { data := #[] }, .int .i64 0, .int .i64 0] 45)
  clear hm
  go_enter Tryz.func29, Tryz.ntmps29
  go_wp2_with fail
  go_step3
  go_wp2_with (refine wp_storeP rfl _ _ rfl w.heap.size _ _ _ _ _ _ _ (mkS []) 0 (mkS []) 0 (mkS []) 0 0 rfl rfl p0 ?_; intro w7 p7 f7)
  rw [Exit.noGoto_ret]
  refine bodyPost_ret (resP2 rfl _ _ w.heap.size _ _ _ _ _ _ _ rfl p7) rfl ⟨rfl, f0.then f7 (fun i hi hm => by simp at hm; omega)⟩

/-- The bits of a text as values. -/
def tv (s : List Bool) : List Value := (arr (txt s)).toList
theorem tv_nil : tv [] = [] := rfl
theorem tv_length (s : List Bool) : (tv s).length = s.length := by simp [tv, arr, txt]
theorem tv_snoc (s : List Bool) (b : Bool) : tv (s ++ [b]) = tv s ++ [.int .u8 (chr b).toNat] := by simp [tv, arr, txt]
theorem tv_last (s : List Bool) (b : Bool) (h : s.getLast? = some b) : (tv s)[s.length - 1]? = some (.int .u8 (chr b).toNat) := by
  obtain ⟨t, rfl⟩ : ∃ t, s = t ++ [b] := by
    rw [List.getLast?_eq_some_iff] at h
    exact h
  rw [tv_snoc]
  simp [tv_length]

def sliceLen : Value → Nat
  | .slice _ n _ => n
  | _ => 0

/-- The last step, or none. -/
def lastS (acc : List (List Bool)) : List Bool := acc.getLastD []
theorem lastS_nil : lastS [] = [] := rfl
theorem lastS_snoc (acc : List (List Bool)) (s : List Bool) : lastS (acc ++ [s]) = s := by simp [lastS]

/-- So far read. -/
structure Rd (W0 : Nat) (w wr : World) (B BA Bs M Bt : Nat) (l : List UInt8) (n : Nat) (r : List Bool) (v u : Value) (st : List Bool) (acc : List (List Bool)) (p : Nat) : Prop where
  fr : Fr [] w wr
  sd : Said wr Bs M
  box : Box wr BA (mkS l) n
  num : Num wr Bt (p : Int)
  out : PBox wr B (mkS []) 0 (mkS []) 0 (mkS []) 0 0
  step : wr.ownsRow 0 5 1 v st.length (tv st)
  last : wr.ownsRow 0 5 1 u (lastS acc).length (tv (lastS acc))
  new : ∀ g, v.ownBlock = some g → W0 ≤ g
  new2 : ∀ g, u.ownBlock = some g → W0 ≤ g
  apart : ∀ g, v.ownBlock = some g → u.ownBlock ≠ some g
  ok : ∀ s ∈ acc, okS s
  pre : r.take p = enc acc ++ dbl st
  le : p ≤ n
  read : go r [] [] = go (r.drop p) st acc
  size : W0 ≤ wr.heap.size

structure Low (W0 : Nat) (w : World) (B BA Bs M Bt : Nat) : Prop where
  b1 : B < W0
  b2 : BA < W0
  b3 : Bs < W0
  b4 : M < W0
  b5 : Bt < W0
  n1 : B ≠ Bt
  n2 : BA ≠ Bt
  n3 : Bs ≠ Bt
  n4 : M ≠ Bt
  t1 : w.heap.size ≤ Bt
  t2 : w.heap.size ≤ W0
  t3 : w.heap.size ≤ B

section
variable {W0 : Nat} {w wr w' : World} {B BA Bs M Bt : Nat} {l : List UInt8} {n : Nat} {r : List Bool} {v u : Value} {st : List Bool} {acc : List (List Bool)} {p : Nat}
theorem Rd.at (h : Rd W0 w wr B BA Bs M Bt l n r v u st acc p) (hr : r.length = n) : p = (enc acc).length + 2 * st.length := by
  have := congrArg List.length h.pre
  rw [List.length_take, List.length_append, dbl_length, hr] at this
  have := h.le
  omega
/-- Behind the closure. -/
theorem Rd.next (h : Rd W0 w wr B BA Bs M Bt l n r v u st acc p) (L : Low W0 w B BA Bs M Bt) (f : Fr [Bt] wr w') :
    Fr [] w w' ∧ Said w' Bs M ∧ Box w' BA (mkS l) n ∧ PBox w' B (mkS []) 0 (mkS []) 0 (mkS []) 0 0 ∧ w'.ownsRow 0 5 1 v st.length (tv st) ∧ w'.ownsRow 0 5 1 u (lastS acc).length (tv (lastS acc)) ∧ W0 ≤ w'.heap.size := by
  have := L.t1
  refine ⟨h.fr.then f (fun i hi hm => by simp at hm; omega), h.sd.kept f (by simpa using L.n3) (by simpa using L.n4), h.box.kept f (by simpa using L.n2), h.out.kept f (by simpa using L.n1), own_kept h.step f ?_, own_kept h.last f ?_, Nat.le_trans h.size f.size⟩
  · intro g hg e
    simp at e
    have := h.new g hg
    have := L.b5
    omega
  · intro g hg e
    simp at e
    have := h.new2 g hg
    have := L.b5
    omega
end

theorem drop_two {r : List Bool} {p : Nat} {b : Bool} {t : List Bool} (h : r.drop p = true :: b :: t) : atI r p = 1 ∧ atI r ((p : Int) + 1) = bitN b ∧ p + 2 ≤ r.length ∧ r.drop (p + 2) = t ∧ r.take (p + 2) = r.take p ++ [true, b] := by
  have hl : p + 2 ≤ r.length := by
    have := congrArg List.length h
    simp at this
    omega
  have h0 : r[p]? = some true := by
    have := congrArg (fun x => x[0]?) h
    simpa using this
  have h1 : r[p + 1]? = some b := by
    have := congrArg (fun x => x[1]?) h
    simpa using this
  refine ⟨?_, ?_, hl, ?_, ?_⟩
  · unfold atI
    rw [if_pos ⟨by omega, by omega⟩]
    simp [List.getD_eq_getElem?_getD, h0, bitN]
  · unfold atI
    rw [if_pos ⟨by omega, by omega⟩]
    have : ((p : Int) + 1).toNat = p + 1 := by omega
    rw [this, List.getD_eq_getElem?_getD, h1]
    rfl
  · have : r.drop (p + 2) = (r.drop p).drop 2 := by rw [List.drop_drop]
    rw [this, h]
    rfl
  · rw [List.take_add_one, List.take_add_one, h0, h1]
    simp
theorem drop_end {r : List Bool} {p : Nat} (h : (r.drop p).head? ≠ some true) : atI r p ≠ 1 := by
  intro e
  unfold atI at e
  split at e
  · rename_i hc
    have h2 : p < r.length := by omega
    have : (r.drop p).head? = some r[p] := by
      rw [List.head?_drop, List.getElem?_eq_getElem h2]
    rw [this] at h
    simp only [Int.toNat_natCast, List.getD_eq_getElem?_getD, List.getElem?_eq_getElem h2, Option.getD_some] at e
    cases hb : r[p]
    · rw [hb] at e; simp [bitN] at e
    · exact h (by rw [hb])
  · omega
theorem saidOk_no {x y : Int} (h : x ≠ 1) : saidOk x y = false := by simp [saidOk, h]

theorem said1 (u : World) (o : Obj) (ho : o = saidObj ∨ o = saidObj') : Said ((u.alloc o).alloc (.cells #[.map (some u.heap.size)] 97)).drew (u.heap.size + 1) u.heap.size ∧ Fr [] u ((u.alloc o).alloc (.cells #[.map (some u.heap.size)] 97)).drew := by
  have h1 := heap_alloc_new (u.alloc o) (.cells #[.map (some u.heap.size)] 97)
  rw [show (u.alloc o).heap.size = u.heap.size + 1 by simp] at h1
  have h2 := ((Fr.refl [] (u.alloc o)).alloc (.cells #[.map (some u.heap.size)] 97)).same (by simp) (heap_alloc_new u o)
  refine ⟨⟨h1, ?_⟩, (((Fr.refl [] u).alloc _).alloc _).drew⟩
  rcases ho with rfl | rfl
  · exact Or.inl h2
  · exact Or.inr h2
theorem said2 (u : World) (o : Obj) (ho : o = saidObj ∨ o = saidObj') : Said ((u.alloc (.cells #[.map (some (u.heap.size + 1))] 97)).alloc o).drew u.heap.size (u.heap.size + 1) ∧ Fr [] u ((u.alloc (.cells #[.map (some (u.heap.size + 1))] 97)).alloc o).drew := by
  have h1 := heap_alloc_new (u.alloc (.cells #[.map (some (u.heap.size + 1))] 97)) o
  rw [show (u.alloc (.cells #[.map (some (u.heap.size + 1))] 97)).heap.size = u.heap.size + 1 by simp] at h1
  have h2 := ((Fr.refl [] _).alloc o).same (by simp) (heap_alloc_new u (.cells #[.map (some (u.heap.size + 1))] 97))
  refine ⟨⟨h2, ?_⟩, (((Fr.refl [] u).alloc _).alloc _).drew⟩
  rcases ho with rfl | rfl
  · exact Or.inl h1
  · exact Or.inr h1
theorem Said.lt {w : World} {b M : Nat} (h : Said w b M) : b < w.heap.size ∧ M < w.heap.size := ⟨(Array.getElem?_eq_some_iff.1 h.1).1, by rcases h.2 with h | h <;> exact (Array.getElem?_eq_some_iff.1 h).1⟩

theorem own_bytesAt {w : World} {ad : Option Addr} {n c : Nat} {l : List UInt8} (hl : l.length = n) (h : w.ownsRow 0 5 1 (.slice ad n c) n (arr l).toList) : BytesAt w ad l ∧ (n = 0 → ad = none ∨ ∃ b off, ad = some ⟨b, off, none⟩) := by
  constructor
  · intro j v hv
    have hj : j < n := by
      have := (List.getElem?_eq_some_iff.1 hv).1
      rw [Array.length_toList, arr_size] at this
      omega
    obtain ⟨g, e, ⟨v', hv', hc⟩, _⟩ := own_cell h j hj
    rw [hv] at hv'
    cases hv'
    exact ⟨g, 0, e, by rw [Nat.zero_add]; exact hc⟩
  · intro _
    rcases h.2 with ⟨e, _⟩ | ⟨g, _, _, e, _⟩
    · cases e; exact Or.inl rfl
    · cases e; exact Or.inr ⟨_, _, rfl⟩
theorem txt_all (s : List Bool) : AllB (bl (mkS (txt s))) (mkS (txt s)).size := by
  intro i hi
  rw [bl_mkS]
  have : i < (txt s).length := hi
  rw [byteAt_lt this]
  simp [txt, chr]
theorem saidV_no {x y : Int} (h : x ≠ 1) : saidV x y = 0 := by simp [saidV, h]
theorem saidV_bit (b : Bool) : saidV 1 (bitN b) = ((chr b).toNat : Int) := by cases b <;> rfl
theorem saidOk_bit (b : Bool) : saidOk 1 (bitN b) = true := by cases b <;> rfl

section
variable {W0 : Nat} {w wr w5 w7 : World} {B BA Bs M Bt : Nat} {l : List UInt8} {n : Nat} {r : List Bool} {v u : Value} {st : List Bool} {acc : List (List Bool)} {p : Nat}
/-- A bit more of a step. -/
theorem Rd.push (R : Rd W0 w wr B BA Bs M Bt l n r v u st acc p) (L : Low W0 w B BA Bs M Bt) (hrl : r.length = n) {b : Bool} {t : List Bool} (hd : r.drop p = true :: b :: t) (f5 : Fr [Bt] wr w5) (n5 : Num w5 Bt ((p : Int) + 2)) {o : Obj}
    (f7 : Fr v.ownBlock.toList (w5.alloc o) w7) {g cap : Nat} (o7 : w7.ownsRow 0 5 1 (.slice (some ⟨g, 0, none⟩) (st.length + 1) cap) (st.length + 1) (tv st ++ [.int .u8 (chr b).toNat])) (at7 : v.ownBlock = some g ∨ g = (w5.alloc o).heap.size)
    (keep : ∀ u p ys, (w5.alloc o).ownsRow 0 5 1 u p ys → (u.ownBlock = v.ownBlock → p ≤ st.length) → w7.ownsRow 0 5 1 u p ys) :
    Rd W0 w w7 B BA Bs M Bt l n r (.slice (some ⟨g, 0, none⟩) (st ++ [b]).length cap) u (st ++ [b]) acc (p + 2) := by
  obtain ⟨g5, sd5, bx5, pb5, st5, la5, sz5⟩ := R.next L f5
  obtain ⟨e1, e2, e3, e4, e5⟩ := drop_two hd
  have fA : Fr [] w5 (w5.alloc o) := (Fr.refl _ _).alloc _
  have hs : (w5.alloc o).heap.size = w5.heap.size + 1 := by simp
  have low : ∀ x, x < W0 → x ∉ v.ownBlock.toList := fun x hx hm => by
    simp at hm
    have := R.new x hm
    omega
  have hne : ∀ x, u.ownBlock = some x → x < w5.heap.size := fun x hx => own_lt la5 x hx
  refine ⟨(g5.trans fA).then f7 (fun i hi hm => absurd hm (low i (by have := L.t2; omega))), (sd5.kept fA (by simp) (by simp)).kept f7 (low _ L.b3) (low _ L.b4), (bx5.kept fA (by simp)).kept f7 (low _ L.b2), ?_, (pb5.kept fA (by simp)).kept f7 (low _ L.b1), ?_, ?_, ?_, R.new2, ?_, R.ok, ?_, by omega, ?_, ?_⟩
  · have := (n5.kept fA (by simp)).kept f7 (low _ L.b5)
    unfold Num at this ⊢
    rw [this]
    simp
  · rw [tv_snoc, List.length_append]
    exact o7
  · refine keep _ _ _ (own_kept la5 fA (by simp)) (fun e => ?_)
    cases hu : u.ownBlock with
    | none =>
      rcases la5.2 with ⟨_, h0⟩ | ⟨g', _, _, hu', _⟩
      · omega
      · rw [hu'] at hu; cases hu
    | some x =>
      rw [hu] at e
      exact absurd hu (R.apart x e.symm)
  · intro x hx
    have hx' : g = x := by simpa [Value.ownBlock] using hx
    subst hx'
    rcases at7 with e | e
    · exact R.new g e
    · omega
  · intro x hx hu
    have hx' : g = x := by simpa [Value.ownBlock] using hx
    subst hx'
    rcases at7 with e | e
    · exact R.apart g e hu
    · have := hne g hu
      omega
  · rw [e5, R.pre, dbl_append]
    simp [dbl]
  · rw [R.read, hd, go, e4]
  · have := f7.size
    omega
/-- A step ends. -/
theorem Rd.ends (R : Rd W0 w wr B BA Bs M Bt l n r v u st acc p) (L : Low W0 w B BA Bs M Bt) (hrl : r.length = n) {t : List Bool} (hd : r.drop p = false :: t) (hs : okS st) (f5 : Fr [Bt] wr w5) (n5 : Num w5 Bt ((p : Int) + 1)) :
    Rd W0 w w5 B BA Bs M Bt l n r (.slice none 0 0) v [] (acc ++ [st]) (p + 1) := by
  obtain ⟨g5, sd5, bx5, pb5, st5, la5, sz5⟩ := R.next L f5
  have hl : p + 1 ≤ r.length := by
    have := congrArg List.length hd
    simp at this
    omega
  have h0 : r[p]? = some false := by
    have := congrArg (fun x => x[0]?) hd
    simpa using this
  refine ⟨g5, sd5, bx5, ?_, pb5, World.ownsRow_nil _ _ _ _, ?_, fun g hg => by simp [Value.ownBlock] at hg, R.new, fun g hg => by simp [Value.ownBlock] at hg, ?_, ?_, by omega, ?_, sz5⟩
  · unfold Num at n5 ⊢
    rw [n5]
    simp
  · rw [lastS_snoc]; exact st5
  · intro s hm
    rcases List.mem_append.1 hm with hm | hm
    · exact R.ok s hm
    · simp at hm; subst hm; exact hs
  · rw [List.take_add_one, h0, R.pre, enc_append, enc_one, Go.Proofs.YtddcilmeignlmaaGreatDoor.wr]
    simp [dbl]
  · have hd1 : r.drop (p + 1) = t := by
      have : r.drop (p + 1) = (r.drop p).drop 1 := by rw [List.drop_drop]
      rw [this, hd]; rfl
    rw [R.read, hd, go, if_neg hs.ne, if_pos (show st.getLast? = some true from hs), hd1]
end

theorem dbl_last (a st : List Bool) (b : Bool) (h : st.getLast? = some b) : (a ++ dbl st).getLast? = some b := by
  obtain ⟨t, rfl⟩ : ∃ t, st = t ++ [b] := by
    rw [List.getLast?_eq_some_iff] at h
    exact h
  rw [dbl_append, ← List.append_assoc]
  simp [dbl]
theorem go_no {d st : List Bool} {acc : List (List Bool)} (hd : d.head? ≠ some true) (h1 : st ≠ []) (h2 : st.getLast? = some false) : go d st acc = none := by
  match d, hd with
  | [], _ => rw [go, if_neg h1]
  | false :: t, _ => rw [go, if_neg h1, if_neg (by rw [h2]; simp)]
  | true :: t, hd => simp at hd
theorem no_lab {l : List UInt8} {r : List Bool} (hr : bitsTo l (8 * l.length) = r) (h : go r [] [] = none) : ∀ ss, ¬ Lab l ss := fun ss L => by
  have := lab_go L
  rw [hr, h] at this
  cases this
theorem no_lab2 {l : List UInt8} {r rest : List Bool} {acc : List (List Bool)} (hr : bitsTo l (8 * l.length) = r) (h : go r [] [] = some (acc, rest)) (hn : ¬ UnOk l ((enc acc).length : Nat)) : ∀ ss, ¬ Lab l ss := fun ss L => by
  have := lab_go L
  rw [hr, h] at this
  cases this
  exact hn (lab_unOk L)
theorem enc_init (acc : List (List Bool)) : (enc acc).take (enc acc.dropLast).length = enc acc.dropLast := by
  by_cases h : acc = []
  · subst h; rfl
  · have e : enc acc = enc acc.dropLast ++ enc [acc.getLast h] := by rw [← enc_append, List.dropLast_concat_getLast]
    rw [e, List.take_left']
    rfl
theorem enc_init_le (acc : List (List Bool)) : (enc acc.dropLast).length ≤ (enc acc).length := by
  have := congrArg List.length (enc_init acc)
  rw [List.length_take] at this
  omega

theorem lastS_le (acc : List (List Bool)) : (lastS acc).length ≤ (enc acc).length := by
  by_cases h : acc = []
  · subst h; simp [lastS]
  · have e : enc acc = enc acc.dropLast ++ enc [acc.getLast h] := by rw [← enc_append, List.dropLast_concat_getLast]
    have e2 : lastS acc = acc.getLast h := by simp [lastS, List.getLast?_eq_some_getLast h]
    rw [e, e2, enc_one, List.length_append, wr_length]
    omega

theorem Rd.keep {W0 : Nat} {w wr w' : World} {B BA Bs M Bt : Nat} {l : List UInt8} {n : Nat} {r : List Bool} {v u : Value} {st : List Bool} {acc : List (List Bool)} {p : Nat} (R : Rd W0 w wr B BA Bs M Bt l n r v u st acc p) (f : Fr [] wr w') : Rd W0 w w' B BA Bs M Bt l n r v u st acc p :=
  ⟨R.fr.trans f, R.sd.kept f (by simp) (by simp), R.box.kept f (by simp), R.num.kept f (by simp), R.out.kept f (by simp), own_kept R.step f (by simp), own_kept R.last f (by simp), R.new, R.new2, R.apart, R.ok, R.pre, R.le, R.read, Nat.le_trans R.size f.size⟩
theorem enc_many (acc : List (List Bool)) : acc.length ≤ (enc acc).length := by
  induction acc with
  | nil => simp
  | cons s t ih => rw [enc_cons, List.length_append, wr_length, List.length_cons]; omega

/-- What reading bytes tells. -/
def ReadTo (l : List UInt8) (e : Ending) : Prop :=
  (∃ ss u2 u3, Lab l ss ∧ e = .returned (.tuple #[pv (mkS l) (enc ss).length u2 (enc ss.dropLast).length u3 (lastS ss).length (ss.length : Int), .bool true]) ∧ Rep u2 (enc ss.dropLast).length (enc ss.dropLast) ∧ Rep u3 (lastS ss).length (lastS ss)) ∨
  (e = .returned (.tuple #[pv (mkS []) 0 (mkS []) 0 (mkS []) 0 0, .bool false]) ∧ ∀ ss, ¬ Lab l ss)

end Go.Proofs.YtddcilmeignlmaaGreatDoor
