/- Walks: what Read answers, the program's and the reference's, at any place. -/
import Derived.Test.YtgldgdopabmefaaGreatDoorTagProg
import Derived.Test.YtgldgdopabmefaaGreatDoorRefTagO
import Derived.Test.YtgldgdopabmefaaGreatDoorRefTagE
import Derived.Test.YtgldgdopabmefaaGreatDoorRefEntP
namespace Go.Proofs.YtgldgdopabmefaaGreatDoor
open Go.RowKit Go.Lib
set_option maxRecDepth 100000
set_option linter.unusedVariables false

theorem decA : DecA := fun x w h => rdecode_any x true w h
theorem rread_any (s : ByteArray) (i : Int) (w : World) (hs : s.size ≤ 400000) (hi : -9223372036854775808 ≤ i ∧ i ≤ 9223372036854775807) :
    Calls Tryz.prog 17 #[.string s, .int .i64 i] w fun e w' => ReadE s.data.toList i s.size e w' ∧ Below w.heap.size w w' := by
  cases hb : begI s.data.toList i with
  | false => exact (read_no s i w (by omega) hi hb).mono fun e w' ⟨h1, h2⟩ => ⟨readE_no hb h1, h2⟩
  | true =>
    obtain ⟨n, rfl, hn⟩ := begI_cases hb
    by_cases h47 : U8.B s.data.toList (n + 1) = 47
    · exact (read_tag3 decA s n w hs hn h47).mono fun e w' ⟨h1, h2⟩ => ⟨readE_yes hn h1, h2⟩
    · exact (read_tag2 decA s n w hs hn h47).mono fun e w' ⟨h1, h2⟩ => ⟨readE_yes hn h1, h2⟩
theorem rread_new (s : ByteArray) (i : Int) (w : World) (hs : s.size ≤ 400000) (hi : -9223372036854775808 ≤ i ∧ i ≤ 9223372036854775807) :
    Calls Tryz.prog 17 #[.string s, .int .i64 i] w fun e w' => (ReadE s.data.toList i s.size e w' ∧ NewE w.heap.size e w') ∧ Below w.heap.size w w' := by
  cases hb : begI s.data.toList i with
  | false => exact (read_no s i w (by omega) hi hb).mono fun e w' ⟨h1, h2⟩ => ⟨⟨readE_no hb h1, by rw [h1]; exact newE_none⟩, h2⟩
  | true =>
    obtain ⟨n, rfl, hn⟩ := begI_cases hb
    by_cases h47 : U8.B s.data.toList (n + 1) = 47
    · exact (read_tag3n decA s n w hs hn h47).mono fun e w' ⟨h1, h2⟩ => ⟨⟨readE_yes hn h1.1, h1.2⟩, h2⟩
    · exact (read_tag2n decA s n w hs hn h47).mono fun e w' ⟨h1, h2⟩ => ⟨⟨readE_yes hn h1.1, h1.2⟩, h2⟩
end Go.Proofs.YtgldgdopabmefaaGreatDoor
