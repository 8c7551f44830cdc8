/-
  The label's reading, bit by bit: the map of bits, the closure.
-/
import Derived.Test.YtddcilmeignlmaaGreatDoorBegins
import Derived.Test.YtddcilmeignlmaaGreatDoorLabMath
import Derived.MapKept
namespace Go.Proofs.YtddcilmeignlmaaGreatDoor
open Go.RowKit Go.Maps

/-- The map of bits. -/
def saidObj : Obj := .map #[{ key := .agg #[.int .i64 1, .int .i64 0], val := .int .u8 48, born := 0 }, { key := .agg #[.int .i64 1, .int .i64 1], val := .int .u8 49, born := 1 }] 2
/-- The same, put the other way round. -/
def saidObj' : Obj := .map #[{ key := .agg #[.int .i64 1, .int .i64 1], val := .int .u8 49, born := 0 }, { key := .agg #[.int .i64 1, .int .i64 0], val := .int .u8 48, born := 1 }] 2
def saidOk (a b : Int) : Bool := a == 1 && (b == 0 || b == 1)
def saidV (a b : Int) : Int := if a == 1 && b == 0 then 48 else if a == 1 && b == 1 then 49 else 0

theorem run_checkKey (w : World) (a b : Int) : (Instr.checkKey false 10000 96 (.agg #[.int .i64 a, .int .i64 b])).run Tryz.prog w = .ok () w := by kernel_rfl
theorem run_zero5 (w : World) : (zeroValue 5).run Tryz.prog w = .ok (.int .u8 0) w := by kernel_rfl

theorem run_said (w : World) (M : Nat) (hM : w.heap[M]? = some saidObj) (a b : Int) (ha : a = -1 ∨ a = 0 ∨ a = 1) (hb : b = -1 ∨ b = 0 ∨ b = 1) :
    (Instr.lookup 97 (.map (some M)) (.agg #[.int .i64 a, .int .i64 b]) true).run Tryz.prog w = .ok (.tuple #[.int .u8 (saidV a b), .bool (saidOk a b)]) w := by
  unfold saidObj at hM
  have hf : (Instr.findKey 96 (.agg #[.int .i64 a, .int .i64 b]) [{ key := .agg #[.int .i64 1, .int .i64 0], val := .int .u8 48, born := 0 }, { key := .agg #[.int .i64 1, .int .i64 1], val := .int .u8 49, born := 1 }]).run Tryz.prog w = .ok (if saidOk a b then some (if b == 0 then 0 else 1, .int .u8 (saidV a b)) else none) w := by
    rcases ha with rfl | rfl | rfl <;> rcases hb with rfl | rfl | rfl <;> kernel_rfl
  have hz : ¬ saidOk a b = true → saidV a b = 0 := by
    rcases ha with rfl | rfl | rfl <;> rcases hb with rfl | rfl | rfl <;> decide
  simp only [Instr.lookup, run_underlying Tryz.underlying97, MapKept.run_getObj_map hM, Sem.run_bind, Result.andThen, Sem.run_pure]
  rw [show (#[{ key := Value.agg #[.int .i64 1, .int .i64 0], val := .int .u8 48, born := 0 }, { key := Value.agg #[.int .i64 1, .int .i64 1], val := .int .u8 49, born := 1 }] : Array MapEntry).isEmpty = false from rfl, run_checkKey]
  simp only [hf]
  by_cases h : saidOk a b = true
  · simp [h]
  · rw [hz h]
    simp only [if_neg h, Sem.run_bind, run_zero5, Result.andThen]
    simp [h]

theorem run_said' (w : World) (M : Nat) (hM : w.heap[M]? = some saidObj') (a b : Int) (ha : a = -1 ∨ a = 0 ∨ a = 1) (hb : b = -1 ∨ b = 0 ∨ b = 1) :
    (Instr.lookup 97 (.map (some M)) (.agg #[.int .i64 a, .int .i64 b]) true).run Tryz.prog w = .ok (.tuple #[.int .u8 (saidV a b), .bool (saidOk a b)]) w := by
  unfold saidObj' at hM
  have hf : (Instr.findKey 96 (.agg #[.int .i64 a, .int .i64 b]) [{ key := .agg #[.int .i64 1, .int .i64 1], val := .int .u8 49, born := 0 }, { key := .agg #[.int .i64 1, .int .i64 0], val := .int .u8 48, born := 1 }]).run Tryz.prog w = .ok (if saidOk a b then some (if b == 0 then 1 else 0, .int .u8 (saidV a b)) else none) w := by
    rcases ha with rfl | rfl | rfl <;> rcases hb with rfl | rfl | rfl <;> kernel_rfl
  have hz : ¬ saidOk a b = true → saidV a b = 0 := by
    rcases ha with rfl | rfl | rfl <;> rcases hb with rfl | rfl | rfl <;> decide
  simp only [Instr.lookup, run_underlying Tryz.underlying97, MapKept.run_getObj_map hM, Sem.run_bind, Result.andThen, Sem.run_pure]
  rw [show (#[{ key := Value.agg #[.int .i64 1, .int .i64 1], val := .int .u8 49, born := 0 }, { key := Value.agg #[.int .i64 1, .int .i64 0], val := .int .u8 48, born := 1 }] : Array MapEntry).isEmpty = false from rfl, run_checkKey]
  simp only [hf]
  by_cases h : saidOk a b = true
  · simp [h]
  · rw [hz h]
    simp only [if_neg h, Sem.run_bind, run_zero5, Result.andThen]
    simp [h]

/-- A block of one number. -/
def Num (w : World) (b : Nat) (k : Int) : Prop := w.heap[b]? = some (.cells #[.int .i64 k] 3)
theorem Num.kept {w w' : World} {b : Nat} {k : Int} {L : List Nat} (h : Num w b k) (f : Fr L w w') (hb : b ∉ L) : Num w' b k := f.same hb h
theorem Num.cell {w : World} {b : Nat} {k : Int} (h : Num w b k) : w.cell? ⟨b, 0, none⟩ = some (.int .i64 k) := by rw [cell_of_row w b 0 _ _ _ h]; rfl
theorem Num.frozen {w : World} {b : Nat} {k : Int} (h : Num w b k) : w.frozen? ⟨b, 0, none⟩ = false := frozen_of_row w b 0 _ _ h
theorem Num.set {w : World} {b : Nat} {k : Int} (h : Num w b k) (m : Int) : Num (w.setCell ⟨b, 0, none⟩ (.int .i64 m)) b m := by
  have := heap_setCell_same w b 0 _ _ (.int .i64 m) h
  unfold Num
  rw [this]
  rfl
/-- The block that holds the map of bits. -/
def Said (w : World) (b M : Nat) : Prop := w.heap[b]? = some (.cells #[.map (some M)] 97) ∧ (w.heap[M]? = some saidObj ∨ w.heap[M]? = some saidObj')
theorem Said.kept {w w' : World} {b M : Nat} {L : List Nat} (h : Said w b M) (f : Fr L w w') (hb : b ∉ L) (hM : M ∉ L) : Said w' b M := ⟨f.same hb h.1, h.2.imp (f.same hM) (f.same hM)⟩
theorem Said.cell {w : World} {b M : Nat} (h : Said w b M) : w.cell? ⟨b, 0, none⟩ = some (.map (some M)) := by rw [cell_of_row w b 0 _ _ _ h.1]; rfl

theorem atI_cases (r : List Bool) (i : Int) : atI r i = -1 ∨ atI r i = 0 ∨ atI r i = 1 := by
  unfold atI bitN
  split
  · split <;> simp
  · exact Or.inl rfl

set_option maxHeartbeats 2000000 in
set_option maxRecDepth 100000 in
theorem next_any (w : World) (Bs M Ba Bt : Nat) (s : ByteArray) (n : Nat) (r : List Bool) (p : Nat) (h : Rep s n r) (hS : Said w Bs M) (hA : Box w Ba s n) (hT : Num w Bt (p : Int)) (hp : p ≤ 100000) :
    Calls Tryz.prog 55 #[.pointer (some ⟨Bs, 0, none⟩), .pointer (some ⟨Ba, 0, none⟩), .pointer (some ⟨Bt, 0, none⟩)] w fun e w' =>
      e = .returned (.tuple #[.int .u8 (saidV (atI r p) (atI r (p + 1))), .bool (saidOk (atI r p) (atI r (p + 1)))]) ∧ Num w' Bt (if saidOk (atI r p) (atI r (p + 1)) = true then (p : Int) + 2 else (p : Int) + 1) ∧ Fr [Bt] w w' := by
  obtain ⟨x, hx⟩ : ∃ x, atI r p = x := ⟨_, rfl⟩
  obtain ⟨y, hy⟩ : ∃ y, atI r ((p : Int) + 1) = y := ⟨_, rfl⟩
  have cx : x = -1 ∨ x = 0 ∨ x = 1 := hx ▸ atI_cases r p
  have cy : y = -1 ∨ y = 0 ∨ y = 1 := hy ▸ atI_cases r (p + 1)
  have HX : Hid (atI r p = x) := hx
  have HY : Hid (atI r ((p : Int) + 1) = y) := hy
  rw [hx, hy]
  clear hx hy
  have hp' : (p : Int) ≤ 100000 := by omega
  have hp0 : (0 : Int) ≤ (p : Int) := by omega
  have hwr : IntKind.i64.wrap ((p : Int) + 1) = (p : Int) + 1 := wrapI (by omega) (by omega)
  have gg : Fr [] w w.drew := (Fr.refl _ _).drew
  obtain ⟨V, hV⟩ : ∃ V, saidV x y = V := ⟨_, rfl⟩
  obtain ⟨K, hK⟩ : ∃ K, saidOk x y = K := ⟨_, rfl⟩
  have HR : Hid (∀ w', Said w' Bs M → (Instr.lookup 97 (.map (some M)) (.agg #[.int .i64 x, .int .i64 y]) true).run Tryz.prog w' = .ok (.tuple #[.int .u8 V, .bool K]) w') := fun w' hw => by
    rw [← hV, ← hK]
    rcases hw.2 with h2 | h2
    · exact run_said w' M h2 x y cx cy
    · exact run_said' w' M h2 x y cx cy
  rw [hV, hK]
  have HZ : Hid (K = false → V = 0) := fun hk => by
    rw [← hV]
    rw [← hK] at hk
    clear hV hK HR HX HY
    revert hk
    rcases cx with rfl | rfl | rfl <;> rcases cy with rfl | rfl | rfl <;> decide
  clear cx cy hV hK
  have k0 : (w.cell? ⟨Bs, 0, none⟩ = some (.map (some M)) ∧ w.cell? ⟨Ba, 0, none⟩ = some (.string s) ∧ w.cell? ⟨Ba, 1, none⟩ = some (.int .i64 (n : Int)) ∧ w.cell? ⟨Bt, 0, none⟩ = some (.int .i64 (p : Int))) := ⟨hS.cell, hA.c0, hA.c1, hT.cell⟩
  go_enter Tryz.func55, Tryz.ntmps55
  go_wp2_with fail
  go_region_held3 (fun w' => w'.cell? ⟨Bs, 0, none⟩ = some (.map (some M)) ∧ w'.cell? ⟨Ba, 0, none⟩ = some (.string s) ∧ w'.cell? ⟨Ba, 1, none⟩ = some (.int .i64 (n : Int)) ∧ w'.cell? ⟨Bt, 0, none⟩ = some (.int .i64 (p : Int))) (first | exact kk | exact k0)
    ((first
      | (go_at_call_of 54 (#[Value.agg #[Value.string s, Value.int IntKind.i64 (n : Int)], Value.int IntKind.i64 (p : Int)]); refine (at_any _ s n r h (p : Int)).mono ?_; rw [HX.out]; rintro e w5 ⟨rfl, f5⟩; replace gg := gg.trans f5; have kk : _ ∧ _ ∧ _ ∧ _ := ⟨(hS.kept gg (by simp) (by simp)).cell, (hA.kept gg (by simp)).c0, (hA.kept gg (by simp)).c1, (hT.kept gg (by simp)).cell⟩; have hlk := HR.out w5 (hS.kept gg (by simp) (by simp)))
      | (go_at_call 54; refine (at_any _ s n r h ((p : Int) + 1)).mono ?_; rw [HY.out]; rintro e w5 ⟨rfl, f5⟩; replace gg := gg.trans f5; have kk : _ ∧ _ ∧ _ ∧ _ := ⟨(hS.kept gg (by simp) (by simp)).cell, (hA.kept gg (by simp)).c0, (hA.kept gg (by simp)).c1, (hT.kept gg (by simp)).cell⟩; have hlk := HR.out w5 (hS.kept gg (by simp) (by simp)))))
  have T5 := hT.kept gg (by simp)
  have c5 := T5.cell
  have z5 := T5.frozen
  clear hlk kk k0 HR HX HY hwr
  cases K
  · obtain rfl := HZ.out rfl
    go_wp2_with fail
    go_ret2
    exact ⟨rfl, T5.set _, (gg.mono (fun _ _ h => nomatch h)).setCell _ _ (by simp)⟩
  · go_wp2_with fail
    go_ret2
    exact ⟨rfl, T5.set _, (gg.mono (fun _ _ h => nomatch h)).setCell _ _ (by simp)⟩

end Go.Proofs.YtddcilmeignlmaaGreatDoor
