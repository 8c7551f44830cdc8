/-
  The kit's ApartBytes: at lists of bytes that lie apart it answers true, and writes these alone.
-/
import Derived.Test.YtlfpoeimgoikkaaAbFlatB
namespace Go.Proofs.Ytlfpoeimgoikkaa.Ab
open Go.RowKit Go.Maps

theorem Lists.moved {w w' : World} {G : List Nat} {K t : Nat} {ad : Nat → Option Addr} {n cap : Nat → Nat} (L : Lists w G K t ad n cap) (f : Fr [] w w') (hG : ∀ g ∈ G, g < w.heap.size) (v : Value) (hK : 1 ≤ K) (hv : w'.ownsRow w.heap.size 22 1 v K ((List.range K).map fun j => .slice (ad j) (n j) (cap j))) :
    ∃ t' c', v = .slice (some ⟨t', 0, none⟩) K c' ∧ Lists w' G K t' ad n cap := by
  obtain ⟨t', c', e, hb, _⟩ := hv.form (by omega)
  refine ⟨t', c', e, L.few, L.long, ?_, ?_, L.apart, L.within, fun h => by have := hG t' h; omega⟩
  · intro j hj
    have := hv.cells (g := t') (by rw [e]; rfl) j (.slice (ad j) (n j) (cap j)) (by simp [hj])
    rw [Addr.add_mid] at this
    simpa using this
  · intro j hj
    obtain ⟨xs, h1, h2⟩ := L.own j hj
    exact ⟨xs, h1, own_kept h2 f (by simp)⟩

set_option maxHeartbeats 2000000 in
set_option maxRecDepth 100000 in
theorem apartBytes_any (w : World) (G : List Nat) (K t c : Nat) (ad : Nat → Option Addr) (n cap : Nat → Nat) (L : Lists w G K t ad n cap) (hK : 1 ≤ K) (hG : ∀ g ∈ G, g < w.heap.size) :
    Calls Try.prog 14 #[.slice (some ⟨t, 0, none⟩) K c] w fun e w' => e = .returned (.bool true) ∧ Fr G w w' := by
  have hK1 : (K : Int) ≤ 250 := by have := L.few; omega
  have hK0 : (0 : Int) ≤ (K : Int) := by omega
  go_enter Try.func14, Try.ntmps14
  go_wp2_with go_in
  go_loopw [4] (fun kv wx => ∃ k v, k ≤ K ∧ kv = .int .i64 (k : Nat) ∧ BagOwn w wx w.heap.size v k ((List.range k).map fun j => .slice (ad j) (n j) (cap j))) (fun kv _ => K - (intOf kv).toNat)
  case atStart => exact ⟨0, .slice none 0 0, Nat.zero_le _, rfl, heap_alloc_new w _, World.ownsRow_nil _ _ _ 1, (Fr.refl _ _).alloc _, Nat.le_refl _, by simp [Value.ownBlock]⟩
  case round =>
    obtain ⟨k, v, hk, rfl, B⟩ := hrel
    by_cases hlt : k < K
    · have hlt' : (k : Int) < (K : Int) := by omega
      have hk0 : (0 : Int) ≤ (k : Int) := by omega
      have hct : wr.cell? ⟨t, k, none⟩ = some (.slice (ad k) (n k) (cap k)) := by
        have hc := L.table k hlt
        exact (World.cell?_of_block (B.fr.block t (block_lt_of_cell hc) (by simp))).trans hc
      go_wp2_with (go_at_call 44; refine (put_any w _ _ v _ _ _ k _ B (by omega)).mono ?_; rintro e w5 ⟨rfl, v5, B5⟩)
      refine ⟨⟨k + 1, v5, by omega, by go_num, ?_⟩, by simp [intOf]; omega⟩
      rw [List.range_succ, List.map_append]
      exact B5
    · obtain rfl : K = k := by omega
      obtain ⟨t', c', rfl, _⟩ := L.moved B.fr hG v hK B.own
      go_wp2_with (go_at_call 45; refine (bag_apart_any _ _ _ G B.bag (fun h => by have := hG _ h; omega) (fun w' f => ?_)).mono ?_; (obtain ⟨t2, c2, e2, L2⟩ := L.moved (B.fr.trans f) hG _ hK (own_kept B.own f (by simp)); cases e2; exact flatBytes_any w' G K _ _ ad n cap L2); rintro e w5 ⟨rfl, f5⟩)
      go_ret
      exact ⟨rfl, (B.fr.mono (M := G) (fun _ _ h => nomatch h)).trans f5⟩

end Go.Proofs.Ytlfpoeimgoikkaa.Ab
