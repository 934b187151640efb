/- The types of this program's Item. -/
import Derived.Test.YtfhceblmjahgjaaPkOpIt
namespace Go.Proofs.Ytfhceblmjahgjaa

theorem itemTypes : ∃ fs, ItemTypes Try.prog 22 33 5 28 2 4 9 29 30 31 fs := ⟨_, {
  s := Try.underlying22
  u := Try.underlying33
  one := by kernel_rfl
  c := by kernel_rfl
  n := rfl
  ty := rfl
  u0 := Try.underlying5
  u1 := Try.underlying28
  u2 := Try.underlying2
  u3 := Try.underlying4
  u4 := Try.underlying9
  u5 := Try.underlying29
  u6 := Try.underlying30
  u7 := Try.underlying31
  c1 := by kernel_rfl
  c2 := by kernel_rfl
  c4 := by kernel_rfl
  b1 := by rw [show Try.prog.bytesOf 28 = 8 by kernel_rfl]; decide
  b2 := by rw [show Try.prog.bytesOf 2 = 8 by kernel_rfl]; decide
  b4 := by rw [show Try.prog.bytesOf 9 = 16 by kernel_rfl]; decide
  bI := by rw [show Try.prog.bytesOf 33 = 120 by kernel_rfl]; decide }⟩
end Go.Proofs.Ytfhceblmjahgjaa
