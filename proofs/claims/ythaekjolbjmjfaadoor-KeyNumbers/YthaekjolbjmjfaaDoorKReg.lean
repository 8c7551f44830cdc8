/-
  Bytes as strings; strings put together; drawn regions in which what is held grows.
-/
import Derived.Test.YthaekjolbjmjfaaDoorKLaw2
namespace Go.Proofs.YthaekjolbjmjfaaDoor
open Go.RowKit Go.Maps

/-- Bytes as a string, wherever they lie. -/
theorem run_convA (w : World) (l : List UInt8) (ad : Option Addr) (n c : Nat) (hl : l.length = n) (hb : BytesAt w ad l) :
    (convert 22 9 (.slice ad n c)).run Tryd.prog w = .ok (.string (mkS l)) w := by
  by_cases h0 : n = 0
  · subst h0
    obtain rfl : l = [] := List.eq_nil_of_length_eq_zero hl
    cases ad with
    | none => exact run_convert_bytes_nil w 22 5 Tryd.underlying22 Tryd.underlying5 0 c 9 Tryd.underlying9
    | some x =>
      have h1 : (loadCells x 0).run Tryd.prog w = .ok (([] : List Int).map (Value.int .u8)).toArray w := by
        have := run_loadCells_list (P := Tryd.prog) w x [] (fun j v hj => by simp at hj)
        simpa using this
      rw [run_convert_bytes_string w 22 9 5 _ 0 c Tryd.underlying22 Tryd.underlying5 Tryd.underlying9, run_bytesToString w _ 0 c [] h1, foldl_push_bytes]
      rfl
  · exact run_conv l ad n c hl hb (fun h => absurd h h0)

/-- What is held may grow on the way. -/
theorem wpAnyH_mono {P : Program} {md : Region.Mode} {ops : Array Oper} {Q : Exit → Act → World → Prop} {S S' : World → Prop} (hs : ∀ w, S' w → S w) : ∀ fuel listed a w, wpAnyH P md ops Q S' fuel listed a w → wpAnyH P md ops Q S fuel listed a w
  | 0, _, _, _, h => h
  | fuel + 1, _, _, _, h => ⟨h.1, fun i hi => wpOp_mono (fun a' w' h' => ⟨hs _ h'.1, wpAnyH_mono hs fuel _ a' w' h'.2⟩) (h.2 i hi)⟩
theorem pre_false {l p : List UInt8} (h : ¬ p <+: l) : Lib.hasPrefix l p = false := by
  unfold Lib.hasPrefix
  rw [Bool.eq_false_iff]
  intro e
  exact h (List.isPrefixOf_iff_prefix.1 e)
theorem add_str (a b : ByteArray) (h : a.size + b.size ≤ 9223372036854775807) : Op.stringOp .add a b = pure (.string (a ++ b)) := by
  unfold Op.stringOp
  simp only []
  rw [if_neg (by rw [show IntKind.i64.max = 9223372036854775807 from rfl]; omega)]
theorem str_app (a b : ByteArray) : (a ++ b).toList = a.toList ++ b.toList := by
  rw [ByteArray.toList_eq, ByteArray.toList_eq, ByteArray.toList_eq]
  simp
theorem str_size (a : ByteArray) (l : List UInt8) (h : a.toList = l) : a.size = l.length := by
  rw [← h, ByteArray.toList_eq]
  rfl

end Go.Proofs.YthaekjolbjmjfaaDoor
