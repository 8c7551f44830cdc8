/-
  torn: the safe bytes with the latest ones in the sectors whose bits stand in keep.
-/
import Derived.Test.YtplboeplknggbaaGreatDvSync
import Derived.Laws.ShiftsVarLaws
namespace Go.Proofs.YtplboeplknggbaaGreat.Dv
open Go.RowKit Go.Maps

/-- Whether bit s stands in k. -/
def bitOf (k : Int) (s : Nat) : Bool := (k / 2 ^ s) % 2 == 1

/-- Behind s sectors. -/
def tornTo (l m : List UInt8) (k : Int) (s : Nat) : List UInt8 := (List.range 512).map fun i => if i / 64 < s ∧ bitOf k (i / 64) = true then m.getD i 0 else l.getD i 0

theorem tornTo_length (l m : List UInt8) (k : Int) (s : Nat) : (tornTo l m k s).length = 512 := by simp [tornTo]

theorem tornTo_zero {l : List UInt8} (h : l.length = 512) (m : List UInt8) (k : Int) : tornTo l m k 0 = l := by
  apply List.ext_getElem
  · rw [tornTo_length, h]
  · intro i h1 h2
    simp [tornTo, List.getElem?_eq_getElem h2]

theorem tornTo_skip (l m : List UInt8) (k : Int) (s : Nat) (h : bitOf k s = false) : tornTo l m k (s + 1) = tornTo l m k s := by
  unfold tornTo
  apply List.map_congr_left
  intro i _
  by_cases e : i / 64 = s
  · rw [e, h]; simp
  · have : (i / 64 < s + 1) ↔ (i / 64 < s) := by omega
    simp only [this]

theorem tornTo_take (l m : List UInt8) (k : Int) (s : Nat) (hs : s < 8) (hm : m.length = 512) (h : bitOf k s = true) :
    tornTo l m k (s + 1) = (tornTo l m k s).take (s * 64) ++ ((m.drop (s * 64)).take 64 ++ (tornTo l m k s).drop (s * 64 + 64)) := by
  apply List.ext_getElem
  · simp [tornTo_length, hm]; omega
  · intro i h1 h2
    rw [tornTo_length] at h1
    rw [List.getElem_append]
    split
    · rename_i hi
      have hi' : i < s * 64 := by simp [tornTo_length] at hi; omega
      have : (i / 64 < s + 1) ↔ (i / 64 < s) := by omega
      simp [tornTo, this]
    · rename_i hi
      have hi' : s * 64 ≤ i := by simp [tornTo_length] at hi; omega
      have hmin : min (s * 64) 512 = s * 64 := by omega
      rw [List.getElem_append]
      split
      · rename_i hj
        have hj' : i - s * 64 < 64 := by simp [tornTo_length, hm, hmin] at hj; omega
        have e : i / 64 = s := by omega
        simp [tornTo, e, h, hmin]
        have e2 : s * 64 + (i - s * 64) = i := by omega
        rw [List.getElem?_eq_getElem (by omega)]
        simp [e2]
      · rename_i hj
        have hj' : 64 ≤ i - s * 64 := by simp [tornTo_length, hm, hmin] at hj; omega
        have e : ¬ (i / 64 < s + 1) := by omega
        have e' : ¬ (i / 64 < s) := by omega
        simp [tornTo, e, hm, hmin]
        have e2 : s * 64 + 64 + (i - s * 64 - min 64 (512 - s * 64)) = i := by omega
        have e3 : ¬ (s * 64 + 64 + (i - s * 64 - min 64 (512 - s * 64))) / 64 < s := by omega
        simp only [e2]
        simp [e']

/-- 'x & 1' on a byte. -/
theorem and_one_u8 (x : Int) (h0 : 0 ≤ x) (h1 : x < 256) : bits BinOp.and IntKind.u8 x 1 = x % 2 := by
  obtain ⟨n, rfl⟩ := Int.eq_ofNat_of_zero_le h0
  have hn : n < 256 := by omega
  have hx : n &&& 1 < 2 ^ 8 := Nat.and_lt_two_pow _ (by omega)
  have e1 : (BitVec.ofInt 8 (n : Int)).toNat = n := by
    rw [BitVec.ofInt_natCast, BitVec.toNat_ofNat]; exact Nat.mod_eq_of_lt (by omega)
  have e2 : (BitVec.ofInt 8 (1 : Int)).toNat = 1 := by decide
  have e3 : bits BinOp.and IntKind.u8 (n : Int) 1 = ((n &&& 1 : Nat) : Int) := by
    show IntKind.u8.wrap ((BitVec.ofInt 8 (n : Int) &&& BitVec.ofInt 8 (1 : Int)).toNat : Int) = _
    rw [BitVec.toNat_and, e1, e2, IntKind.wrap_u8]
    omega
  rw [e3, Nat.and_one_is_mod]
  omega

/-- copy of a sector, as one step of a region that draws its order. -/
theorem step_copy64 {ops : Array Oper} {o : Oper} {a : Act} {w : World} {K : Act → World → Prop} {Q : Exit → Act → World → Prop} {E : Prop} (hgd : o.guard = none) (d s : Operand)
    (ho : o.op = .call { callee := .builtin .copy, args := #[d, s], argTypes := #[37, 37] }) (A B off dLen dCap sLen sCap : Nat) (l m : List UInt8)
    (hd : a.eval d = .slice (some ⟨A, off, none⟩) dLen dCap) (hs : a.eval s = .slice (some ⟨B, off, none⟩) sLen sCap) (hdl : dLen = 64) (h64 : 64 ≤ sLen) (rA : Blk w A 124 l) (rB : Blk w B 124 m) (hl : l.length = 512) (hm : m.length = 512) (hoff : off + 64 ≤ 512)
    (h : ∀ w', Blk w' A 124 (l.take off ++ ((m.drop off).take 64 ++ l.drop (off + 64))) → Fr [A] w w' → K (a.put o.dst (goInt 64)) w') :
    if Region.wanted o (yielded ops a.tmps) = true then Oper.wp Tryz.prog o a w K Q else E := by
  have hw : Region.wanted o (yielded ops a.tmps) = true := by simp [Region.wanted, hgd]
  rw [if_pos hw]
  subst hdl
  have hln : (arr ((m.drop off).take 64)).toList.length = 64 := by simp [arr, hm]; omega
  have hrun := run_copy_row (P := Tryz.prog) w 37 37 o.type 5 A off 64 dCap ⟨B, off, none⟩ sLen sCap (arr l) 124 (arr ((m.drop off).take 64)).toList Tryz.underlying37 size5 rA (by rw [hln]; exact (Nat.min_eq_right h64).symm)
    (by
      intro j v hv
      rw [Addr.add_mid, cell_of_row w B _ _ _ _ rB, arr_at]
      simp only [arr, List.getElem?_map] at hv
      rw [← hv, List.getElem?_take]
      have hj : j < 64 := by
        by_cases hj : j < 64
        · exact hj
        · rw [List.getElem?_take, if_neg hj] at hv
          cases hv
      simp [hj])
    (by rw [hln, arr_size, hl]; omega) (arr_one _)
  rw [hln] at hrun
  have e : ((arr l).toList.take off ++ (arr ((m.drop off).take 64)).toList ++ (arr l).toList.drop (off + 64)).toArray = arr (l.take off ++ ((m.drop off).take 64 ++ l.drop (off + 64))) := by
    simp [arr, List.map_take, List.map_drop]
  rw [e] at hrun
  unfold Oper.wp
  simp [execOp, ho, resolve, invoke, builtin, hd, hs, hrun, Result.andThen]
  exact h _ (setRow_heap w A _ _ _ _ rA) ⟨rfl, rfl, rfl, by simp, fun i _ hn => setRow_other w A i _ (fun e => hn (by simp [e]))⟩

set_option maxHeartbeats 1000000 in
set_option maxRecDepth 100000 in
theorem torn_any (w : World) (l m : List UInt8) (k : Int) (hl : l.length = 512) (hm : m.length = 512) (hk0 : 0 ≤ k) (hk1 : k < 256) :
    Calls Tryz.prog 63 #[.agg (arr l), .agg (arr m), .int .u8 k] w fun e w' => e = .returned (.agg (arr (tornTo l m k 8))) ∧ Fr [] w w' := by
  go_enter Tryz.func63, Tryz.ntmps63
  go_wp2_with (first
    | (refine wp_alloc72 rfl rfl ?_; intro w1 b1 f1 s1)
    | go_in)
  have e2 : ((w.alloc (Obj.cells (arr l) 124)).alloc (Obj.cells (arr m) 124)).heap.size = w.heap.size + 1 + 1 := by simp
  have bA : Blk w1 w.heap.size 124 l := f1.same (by simp) (heap_alloc2_old w _ _)
  have bB : Blk w1 (w.heap.size + 1) 124 m := f1.same (by simp) (heap_alloc2_new w _ _)
  have fr0 : Fr [] w w1 := (((Fr.refl [] w).alloc _).alloc _).trans f1
  rw [e2] at b1 s1
  clear f1
  go_loopw [9] (fun i wr => ∃ s : Nat, s ≤ 8 ∧ i = .int .i64 s ∧ Blk wr w.heap.size 124 (tornTo l m k s) ∧ Blk wr (w.heap.size + 1) 124 m ∧ Blk wr (w.heap.size + 1 + 1) 124 zeros ∧ Fr [w.heap.size] w1 wr) (fun i _ => 8 - (intOf i).toNat)
  case atStart => exact ⟨0, by omega, rfl, by rw [tornTo_zero hl]; exact bA, bB, b1, Fr.refl _ _⟩
  case round =>
    obtain ⟨s, hs, rfl, rA, rB, rC, fr⟩ := hrel
    by_cases hlt : s < 8
    · have hlt' : (s : Int) < 8 := by omega
      have hs0 : (0 : Int) ≤ (s : Int) := by omega
      have g1 : (0 : Int) ≤ (s : Int) * 64 := by omega
      have g2 : (s : Int) * 64 ≤ 512 := by omega
      have g3 : (s : Int) * 64 + 64 ≤ 512 := by omega
      have g4 : (s : Int) * 64 ≤ (s : Int) * 64 + 64 := by omega
      have g6 : IntKind.i64.wrap ((s : Int) * 64 + 64) = (s : Int) * 64 + 64 := by
        simp [IntKind.wrap, IntKind.bits, IntKind.signed]; omega
      have e64 : ((s : Int) * 64).toNat = s * 64 := by omega
      have e64' : ((s : Int) * 64 + 64).toNat = s * 64 + 64 := by omega
      have E64 : Hid (((s : Int) * 64).toNat = s * 64) := e64
      have E64' : Hid (((s : Int) * 64 + 64).toNat = s * 64 + 64) := e64'
      have H7 : Hid (¬ 512 = ((s : Int) * 64).toNat) := (by omega : ¬ 512 = ((s : Int) * 64).toNat)
      clear e64 e64'
      have hand := and_one_u8 (k / 2 ^ s) (Int.ediv_nonneg hk0 (by exact Int.le_of_lt (Int.pow_pos (by omega)))) (by have := Int.ediv_le_self (2 ^ s : Int) hk0; omega)
      cases hbit : (bits BinOp.and IntKind.u8 (k / 2 ^ s) 1 == 1)
      · have hb : bitOf k s = false := by unfold bitOf; rw [← hand]; exact hbit
        clear hand
        go_wp2
        exact ⟨⟨s + 1, by omega, by go_num, by rw [tornTo_skip _ _ _ _ hb]; exact rA, rB, rC, fr⟩, by simp [intOf]; omega⟩
      · have hb : bitOf k s = true := by unfold bitOf; rw [← hand]; exact hbit
        clear hand
        go_wp2
        go_region_held3 (fun w' => Blk w' (w.heap.size + 1) 124 m) (first | exact rB | exact Blk.kept (w := wr.drew) rB f4 (by simp)) ((refine step_copy64 (by rfl) _ _ (by rfl) w.heap.size (w.heap.size + 1) ((s : Int) * 64).toNat (((s : Int) * 64 + 64).toNat - ((s : Int) * 64).toNat) (512 - ((s : Int) * 64).toNat) (512 - ((s : Int) * 64).toNat) (512 - ((s : Int) * 64).toNat) (tornTo l m k s) m (by show Value.slice (some (if 512 = ((s : Int) * 64).toNat then (⟨w.heap.size, 0, none⟩ : Addr) else ⟨w.heap.size, ((s : Int) * 64).toNat, none⟩)) _ _ = _; rw [if_neg H7.out]) (by show Value.slice (some (if 512 = ((s : Int) * 64).toNat then (⟨w.heap.size + 1, 0, none⟩ : Addr) else ⟨w.heap.size + 1, ((s : Int) * 64).toNat, none⟩)) _ _ = _; rw [if_neg H7.out]) (by rw [E64.out, E64'.out]; omega) (by rw [E64.out]; omega) rA rB (tornTo_length _ _ _ _) hm (by rw [E64.out]; omega) ?_; intro w4 b4 f4))
        rw [E64.out] at b4
        rw [← tornTo_take l m k s hlt hm hb] at b4
        have f4' : Fr [w.heap.size] wr w4 := (Fr.refl [w.heap.size] wr).drew.trans f4
        go_wp2
        exact ⟨⟨s + 1, by omega, by go_num, b4, rB.kept f4' (by simp), rC.kept f4' (by simp; omega), fr.trans f4'⟩, by simp [intOf]; omega⟩
    · obtain rfl : s = 8 := by omega
      go_wp2_with (first
        | (refine wp_load72 rfl _ rfl _ _ rfl rA (tornTo_length _ _ _ _) ?_)
        | (refine wp_store72 rfl _ _ rfl _ zeros _ rfl rfl rC zeros_length (tornTo_length _ _ _ _) ?_; intro w5 b5 f5)
        | go_in)
      refine bodyPost_ret (results_cell_row Tryz.results63 _ _ (w.heap.size + 1 + 1) 124 (arr (tornTo l m k 8)) (0, 0) (.array 512 5) rfl b5 Tryz.underlying124 rfl (by rw [size72, arr_size, tornTo_length])) rfl ?_
      exact ⟨rfl, ((fr0.then fr (fun i hi hm => by simp at hm; omega)).then f5 (fun i hi hm => by simp at hm; omega))⟩

end Go.Proofs.YtplboeplknggbaaGreat.Dv
