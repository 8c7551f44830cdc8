/-
  What the program's Diff hands out is a row of spans.
-/
import Derived.Test.YtlfpoeimgoikkaaGTur
import Derived.Test.YtlfpoeimgoikkaaGSameSp
namespace Go.Proofs.Ytlfpoeimgoikkaa
open Go.RowKit Go.Maps

theorem diff_sps {w0 w1 : World} {AD : Option Addr} {N CAP : Nat} {S : List SpE} {la lb : List UInt8} (own : w1.ownsRow w0.heap.size 52 4 (.slice AD N CAP) N (spv S)) (hS : S.map (fun e => (e.off, e.off + e.n)) = diffS la lb)
    (oks : ∀ e ∈ S, Blk w1 e.bo ((la.drop e.off).take e.n) ∧ Blk w1 e.bn ((lb.drop e.off).take e.n)) : SpsAt w1 AD (diffS la lb) la lb := by
  intro i f t hi
  have hN : S.length = N := by
    have := own.1
    rw [spv_length] at this
    omega
  obtain ⟨hlt, he⟩ := List.getElem?_eq_some_iff.1 hi
  have tok := diff_tok la lb i hlt
  rw [he] at tok
  rw [← hS, List.getElem?_map] at hi
  have hiS : i < S.length := by
    have := hlt
    rw [← hS, List.length_map] at this
    exact this
  rw [List.getElem?_eq_getElem hiS] at hi
  obtain ⟨⟨off, n, bo, bn⟩, hs⟩ : ∃ e, S[i] = e := ⟨_, rfl⟩
  rw [hs] at hi
  have h2 : off = f ∧ off + n = t := by simpa using hi
  obtain ⟨rfl, rfl⟩ := h2
  obtain ⟨gl, rfl, r0, r1, r2, r3⟩ := span_at own i hiS hN off n bo bn hs
  have bks := oks ⟨off, n, bo, bn⟩ (hs ▸ List.getElem_mem hiS)
  have hn : off + n - off = n := by omega
  rw [hn]
  exact ⟨gl, _, _, _, _, rfl, r0, r1, r2, r3, bks.1.bytes, bks.2.bytes, tok.lt, tok.le⟩
end Go.Proofs.Ytlfpoeimgoikkaa
