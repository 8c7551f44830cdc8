/-
  The map of bits is made: two puts into a new map.
-/
import Derived.Test.YtddcilmeignlmaaGreatDoorCutp
namespace Go.Proofs.YtddcilmeignlmaaGreatDoor
open Go.RowKit Go.Maps

theorem set_pushed {α : Type} (a : Array α) (x y : α) : (a.push x).setIfInBounds a.size y = a.push y := by
  apply Array.ext'
  simp
theorem set_pushed2 {α : Type} (a : Array α) (x y z : α) : ((a.push x).push z).setIfInBounds a.size y = (a.push y).push z := by
  apply Array.ext'
  simp

theorem run_up (W : World) (M : Nat) (es : Array MapEntry) (clock : Nat) (hM : W.heap[M]? = some (.map es clock)) (b : Int) (v : Value) (hf : (Instr.findKey 96 (.agg #[.int .i64 1, .int .i64 b]) es.toList).run Tryz.prog W = .ok none W) :
    (Instr.mapUpdate 97 (.map (some M)) (.agg #[.int .i64 1, .int .i64 b]) v).run Tryz.prog W = .ok () { W with heap := W.heap.setIfInBounds M (.map (es.push { key := .agg #[.int .i64 1, .int .i64 b], val := v, born := clock }) (clock + 1)) } := by
  simp [Instr.mapUpdate, run_underlying Tryz.underlying97, MapKept.run_getObj_map hM, run_checkKey, hf, MapKept.run_setObj_map _ hM]

theorem run_up1 (u : World) (N : Nat) (hN : N = u.heap.size) (es : Array MapEntry) (clock : Nat) (b : Int) (v : Value) (hf : ∀ W : World, (Instr.findKey 96 (.agg #[.int .i64 1, .int .i64 b]) es.toList).run Tryz.prog W = .ok none W) :
    (Instr.mapUpdate 97 (.map (some N)) (.agg #[.int .i64 1, .int .i64 b]) v).run Tryz.prog (u.alloc (.map es clock)).drew = .ok () (u.alloc (.map (es.push { key := .agg #[.int .i64 1, .int .i64 b], val := v, born := clock }) (clock + 1))).drew := by
  subst hN
  rw [run_up (u.alloc (.map es clock)).drew _ es clock (heap_alloc_new u _) b v (hf _)]
  congr 1
  show World.mk _ _ _ _ _ = World.mk _ _ _ _ _
  congr 1
  exact set_pushed _ _ _
theorem run_up3 (u : World) (o : Obj) (es : Array MapEntry) (clock : Nat) (b : Int) (v : Value) (hf : ∀ W : World, (Instr.findKey 96 (.agg #[.int .i64 1, .int .i64 b]) es.toList).run Tryz.prog W = .ok none W) :
    (Instr.mapUpdate 97 (.map (some u.heap.size)) (.agg #[.int .i64 1, .int .i64 b]) v).run Tryz.prog ((u.alloc (.map es clock)).alloc o).drew = .ok () ((u.alloc (.map (es.push { key := .agg #[.int .i64 1, .int .i64 b], val := v, born := clock }) (clock + 1))).alloc o).drew := by
  rw [run_up ((u.alloc (.map es clock)).alloc o).drew _ es clock (((Fr.refl [] _).alloc o).same (by simp) (heap_alloc_new u (.map es clock))) b v (hf _)]
  congr 1
  show World.mk _ _ _ _ _ = World.mk _ _ _ _ _
  congr 1
  exact set_pushed2 _ _ _ _

theorem fnd0 (W : World) (b : Int) : (Instr.findKey 96 (.agg #[.int .i64 1, .int .i64 b]) (#[] : Array MapEntry).toList).run Tryz.prog W = .ok none W := by kernel_rfl
theorem fnd1 (W : World) : (Instr.findKey 96 (.agg #[.int .i64 1, .int .i64 1]) (#[{ key := .agg #[.int .i64 1, .int .i64 0], val := .int .u8 48, born := 0 }] : Array MapEntry).toList).run Tryz.prog W = .ok none W := by kernel_rfl
theorem fnd2 (W : World) : (Instr.findKey 96 (.agg #[.int .i64 1, .int .i64 0]) (#[{ key := .agg #[.int .i64 1, .int .i64 1], val := .int .u8 49, born := 0 }] : Array MapEntry).toList).run Tryz.prog W = .ok none W := by kernel_rfl

theorem ups1 (u : World) (N : Nat) (hN : N = u.heap.size) :
    ((Instr.mapUpdate 97 (.map (some N)) (.agg #[.int .i64 1, .int .i64 0]) (.int .u8 48)).run Tryz.prog (u.alloc (.map #[] 0)).drew = .ok () (u.alloc (.map #[{ key := .agg #[.int .i64 1, .int .i64 0], val := .int .u8 48, born := 0 }] 1)).drew) ∧
    ((Instr.mapUpdate 97 (.map (some N)) (.agg #[.int .i64 1, .int .i64 1]) (.int .u8 49)).run Tryz.prog (u.alloc (.map #[] 0)).drew = .ok () (u.alloc (.map #[{ key := .agg #[.int .i64 1, .int .i64 1], val := .int .u8 49, born := 0 }] 1)).drew) ∧
    ((Instr.mapUpdate 97 (.map (some N)) (.agg #[.int .i64 1, .int .i64 1]) (.int .u8 49)).run Tryz.prog (u.alloc (.map #[{ key := .agg #[.int .i64 1, .int .i64 0], val := .int .u8 48, born := 0 }] 1)).drew = .ok () (u.alloc (.map #[{ key := .agg #[.int .i64 1, .int .i64 0], val := .int .u8 48, born := 0 }, { key := .agg #[.int .i64 1, .int .i64 1], val := .int .u8 49, born := 1 }] 2)).drew) ∧
    ((Instr.mapUpdate 97 (.map (some N)) (.agg #[.int .i64 1, .int .i64 0]) (.int .u8 48)).run Tryz.prog (u.alloc (.map #[{ key := .agg #[.int .i64 1, .int .i64 1], val := .int .u8 49, born := 0 }] 1)).drew = .ok () (u.alloc (.map #[{ key := .agg #[.int .i64 1, .int .i64 1], val := .int .u8 49, born := 0 }, { key := .agg #[.int .i64 1, .int .i64 0], val := .int .u8 48, born := 1 }] 2)).drew) :=
  ⟨run_up1 u N hN #[] 0 0 _ (fun W => fnd0 W 0), run_up1 u N hN #[] 0 1 _ (fun W => fnd0 W 1), run_up1 u N hN _ 1 1 _ fnd1, run_up1 u N hN _ 1 0 _ fnd2⟩
theorem ups3 (u : World) (o : Obj) :
    ((Instr.mapUpdate 97 (.map (some u.heap.size)) (.agg #[.int .i64 1, .int .i64 0]) (.int .u8 48)).run Tryz.prog ((u.alloc (.map #[] 0)).alloc o).drew = .ok () ((u.alloc (.map #[{ key := .agg #[.int .i64 1, .int .i64 0], val := .int .u8 48, born := 0 }] 1)).alloc o).drew) ∧
    ((Instr.mapUpdate 97 (.map (some u.heap.size)) (.agg #[.int .i64 1, .int .i64 1]) (.int .u8 49)).run Tryz.prog ((u.alloc (.map #[] 0)).alloc o).drew = .ok () ((u.alloc (.map #[{ key := .agg #[.int .i64 1, .int .i64 1], val := .int .u8 49, born := 0 }] 1)).alloc o).drew) ∧
    ((Instr.mapUpdate 97 (.map (some u.heap.size)) (.agg #[.int .i64 1, .int .i64 1]) (.int .u8 49)).run Tryz.prog ((u.alloc (.map #[{ key := .agg #[.int .i64 1, .int .i64 0], val := .int .u8 48, born := 0 }] 1)).alloc o).drew = .ok () ((u.alloc (.map #[{ key := .agg #[.int .i64 1, .int .i64 0], val := .int .u8 48, born := 0 }, { key := .agg #[.int .i64 1, .int .i64 1], val := .int .u8 49, born := 1 }] 2)).alloc o).drew) ∧
    ((Instr.mapUpdate 97 (.map (some u.heap.size)) (.agg #[.int .i64 1, .int .i64 0]) (.int .u8 48)).run Tryz.prog ((u.alloc (.map #[{ key := .agg #[.int .i64 1, .int .i64 1], val := .int .u8 49, born := 0 }] 1)).alloc o).drew = .ok () ((u.alloc (.map #[{ key := .agg #[.int .i64 1, .int .i64 1], val := .int .u8 49, born := 0 }, { key := .agg #[.int .i64 1, .int .i64 0], val := .int .u8 48, born := 1 }] 2)).alloc o).drew) :=
  ⟨run_up3 u o #[] 0 0 _ (fun W => fnd0 W 0), run_up3 u o #[] 0 1 _ (fun W => fnd0 W 1), run_up3 u o _ 1 1 _ fnd1, run_up3 u o _ 1 0 _ fnd2⟩

end Go.Proofs.YtddcilmeignlmaaGreatDoor
