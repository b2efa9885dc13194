/- A string by its bytes. -/
import Derived.WalkKit
namespace Go.Proofs.Ytdhpmblhejcehaa

def bs (l : List UInt8) : ByteArray := ⟨l.toArray⟩
theorem bs_list (l : List UInt8) : (bs l).data.toList = l := rfl
theorem bs_size (l : List UInt8) : (bs l).size = l.length := rfl
theorem bs_eta (s : ByteArray) : bs s.data.toList = s := by cases s; simp [bs]
end Go.Proofs.Ytdhpmblhejcehaa
