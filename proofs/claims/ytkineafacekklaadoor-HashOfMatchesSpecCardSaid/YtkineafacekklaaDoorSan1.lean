/- What the laws' own look at the program comes to: the numbers. -/
import Derived.Test.YtkineafacekklaaDoorHex1
import Derived.Test.YtkineafacekklaaDoorHex2
import Derived.Test.YtkineafacekklaaDoorJoin
import Derived.Test.YtkineafacekklaaDoorWords
import Derived.Test.YtkineafacekklaaDoorEnc4
import Derived.Test.YtkineafacekklaaDoorSha
namespace Go.Proofs.YtkineafacekklaaDoor
open Go.RowKit
theorem num_crc : crc [254] = 75628790 := by decide +kernel
theorem num_run : run (run MASK [255]) [255] ^^^ MASK = 65535 := by decide +kernel
theorem num_words : crc ([(1099511627774 : Int)].flatMap five) = 1099435999222 := by decide +kernel
theorem num_join1 : joinP (lo 255) (lo 255) 1 = 65535 := by decide +kernel
theorem num_join2 : joinP (lo 255) (lo 0) 1 = 65280 := by decide +kernel
theorem num_join3 : joinP (lo 7) (lo 9) 0 = 14 := by decide +kernel
theorem num_hex1 : (⟨(hexL abc).toArray⟩ : ByteArray) = ⟨#[98, 97, 55, 56, 49, 54, 98, 102, 56, 102, 48, 49, 99, 102, 101, 97, 52, 49, 52, 49, 52, 48, 100, 101, 53, 100, 97, 101, 50, 50, 50, 51, 98, 48, 48, 51, 54, 49, 97, 51, 57, 54, 49, 55, 55, 97, 57, 99, 98, 52, 49, 48, 102, 102, 54, 49, 102, 50, 48, 48, 49, 53, 97, 100]⟩ := by rfl
def one16 : List UInt8 := [0x4b,0xf5,0x12,0x2f,0x34,0x45,0x54,0xc5,0x3b,0xde,0x2e,0xbb,0x8c,0xd2,0xb7,0xe3]
theorem num_hex2 : (⟨(hexL one16).toArray⟩ : ByteArray) = ⟨#[52, 98, 102, 53, 49, 50, 50, 102, 51, 52, 52, 53, 53, 52, 99, 53, 51, 98, 100, 101, 50, 101, 98, 98, 56, 99, 100, 50, 98, 55, 101, 51]⟩ := by rfl
theorem num_input : sha (input 1 []) = sha [1] := rfl
end Go.Proofs.YtkineafacekklaaDoor
