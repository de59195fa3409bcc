/- What a law on growth leaves, step behind step; a byte as a text. Plain lemmas; no walk. -/
import Derived.Test.YtlmppmdgajaclaaText
import Derived.Test.YtlmppmdgajaclaaGrow0
namespace Go.Proofs.Ytlmppmdgajaclaa
open Go.RowKit

theorem str1 (c : UInt8) (w : World) (b : Nat) (hb : b = w.heap.size) (n : Int) (hn : (c.toNat : Int) = n) :
    (convert 22 9 (.slice (some ⟨b, 0, none⟩) 1 1)).run Try.prog (w.alloc (Obj.cells #[.int .u8 n] 5)) =
      .ok (.string ⟨#[c]⟩) (w.alloc (Obj.cells #[.int .u8 n] 5)) := by
  subst hb; subst hn
  exact run_convert_bytes_back (P := Try.prog) _ 22 9 5 ⟨w.heap.size, 0, none⟩ 1 [c] Try.underlying22 Try.underlying5 Try.underlying9 (bytes_cells (e := 5) (heap_alloc_new _ _))

end Go.Proofs.Ytlmppmdgajaclaa
