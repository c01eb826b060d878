/- PtWoPs: parts of the proof, joined. -/
import Derived.Test.YtokpjifnlifafaaGreatDoorEDcNm
import Derived.Test.YtokpjifnlifafaaGreatDoorEPtLine2
set_option maxHeartbeats 64000000
namespace Go.Proofs.YtokpjifnlifafaaGreatDoor
section
open Ev Go.RowKit
namespace Pt
def wdRt:List UInt8:=[67,114,32,126,32,76,102,10,91,78,101,119,108,105,110,101,32,67,114,32,76,102,93,32,47,10,47,32,91,78,101,119,108,105,110,101,32,67,114,32,76,102,93,10,90,119,106,32,126,32,80,105,99,116,10,83,112,97,99,101,32,126,32,83,112,97,99,101,10,126,32,91,69,120,116,101,110,100,32,70,111,114,109,97,116,32,90,119,106,93,10,91,76,101,116,116,101,114,32,72,101,98,114,101,119,93,32,91,69,120,116,101,110,100,32,70,111,114,109,97,116,32,90,119,106,93,42,32,126,32,91,76,101,116,116,101,114,32,72,101,98,114,101,119,93,10,91,76,101,116,116,101,114,32,72,101,98,114,101,119,93,32,91,69,120,116,101,110,100,32,70,111,114,109,97,116,32,90,119,106,93,42,32,126,32,91,77,105,100,76,101,116,116,101,114,32,77,105,100,78,117,109,76,101,116,32,81,117,111,116,101,93,32,91,69,120,116,101,110,100,32,70,111,114,109,97,116,32,90,119,106,93,42,32,91,76,101,116,116,101,114,32,72,101,98,114,101,119,93,10,91,76,101,116,116,101,114,32,72,101,98,114,101,119,93,32,91,69,120,116,101,110,100,32,70,111,114,109,97,116,32,90,119,106,93,42,32,91,77,105,100,76,101,116,116,101,114,32,77,105,100,78,117,109,76,101,116,32,81,117,111,116,101,93,32,91,69,120,116,101,110,100,32,70,111,114,109,97,116,32,90,119,106,93,42,32,126,32,91,76,101,116,116,101,114,32,72,101,98,114,101,119,93,10,72,101,98,114,101,119,32,91,69,120,116,101,110,100,32,70,111,114,109,97,116,32,90,119,106,93,42,32,126,32,81,117,111,116,101,10,72,101,98,114,101,119,32,91,69,120,116,101,110,100,32,70,111,114,109,97,116,32,90,119,106,93,42,32,126,32,68,111,117,98,108,101,32,91,69,120,116,101,110,100,32,70,111,114,109,97,116,32,90,119,106,93,42,32,72,101,98,114,101,119,10,72,101,98,114,101,119,32,91,69,120,116,101,110,100,32,70,111,114,109,97,116,32,90,119,106,93,42,32,68,111,117,98,108,101,32,91,69,120,116,101,110,100,32,70,111,114,109,97,116,32,90,119,106,93,42,32,126,32,72,101,98,114,101,119,10,68,105,103,105,116,32,91,69,120,116,101,110,100,32,70,111,114,109,97,116,32,90,119,106,93,42,32,126,32,68,105,103,105,116,10,91,76,101,116,116,101,114,32,72,101,98,114,101,119,93,32,91,69,120,116,101,110,100,32,70,111,114,109,97,116,32,90,119,106,93,42,32,126,32,68,105,103,105,116,10,68,105,103,105,116,32,91,69,120,116,101,110,100,32,70,111,114,109,97,116,32,90,119,106,93,42,32,126,32,91,76,101,116,116,101,114,32,72,101,98,114,101,119,93,10,68,105,103,105,116,32,91,69,120,116,101,110,100,32,70,111,114,109,97,116,32,90,119,106,93,42,32,91,77,105,100,78,117,109,32,77,105,100,78,117,109,76,101,116,32,81,117,111,116,101,93,32,91,69,120,116,101,110,100,32,70,111,114,109,97,116,32,90,119,106,93,42,32,126,32,68,105,103,105,116,10,68,105,103,105,116,32,91,69,120,116,101,110,100,32,70,111,114,109,97,116,32,90,119,106,93,42,32,126,32,91,77,105,100,78,117,109,32,77,105,100,78,117,109,76,101,116,32,81,117,111,116,101,93,32,91,69,120,116,101,110,100,32,70,111,114,109,97,116,32,90,119,106,93,42,32,68,105,103,105,116,10,75,97,116,97,107,97,110,97,32,91,69,120,116,101,110,100,32,70,111,114,109,97,116,32,90,119,106,93,42,32,126,32,75,97,116,97,107,97,110,97,10,91,76,101,116,116,101,114,32,72,101,98,114,101,119,32,68,105,103,105,116,32,75,97,116,97,107,97,110,97,32,76,111,119,93,32,91,69,120,116,101,110,100,32,70,111,114,109,97,116,32,90,119,106,93,42,32,126,32,76,111,119,10,76,111,119,32,91,69,120,116,101,110,100,32,70,111,114,109,97,116,32,90,119,106,93,42,32,126,32,91,76,101,116,116,101,114,32,72,101,98,114,101,119,32,68,105,103,105,116,32,75,97,116,97,107,97,110,97,93,10,94,32,91,69,120,116,101,110,100,32,70,111,114,109,97,116,32,90,119,106,93,42,32,40,82,101,103,105,111,110,32,91,69,120,116,101,110,100,32,70,111,114,109,97,116,32,90,119,106,93,42,32,82,101,103,105,111,110,32,91,69,120,116,101,110,100,32,70,111,114,109,97,116,32,90,119,106,93,42,41,42,32,82,101,103,105,111,110,32,91,69,120,116,101,110,100,32,70,111,114,109,97,116,32,90,119,106,93,42,32,126,32,82,101,103,105,111,110,10,91,94,82,101,103,105,111,110,32,69,120,116,101,110,100,32,70,111,114,109,97,116,32,90,119,106,93,32,91,69,120,116,101,110,100,32,70,111,114,109,97,116,32,90,119,106,93,42,32,40,82,101,103,105,111,110,32,91,69,120,116,101,110,100,32,70,111,114,109,97,116,32,90,119,106,93,42,32,82,101,103,105,111,110,32,91,69,120,116,101,110,100,32,70,111,114,109,97,116,32,90,119,106,93,42,41,42,32,82,101,103,105,111,110,32,91,69,120,116,101,110,100,32,70,111,114,109,97,116,32,90,119,106,93,42,32,126,32,82,101,103,105,111,110,10,114,101,115,116,32,47,10]
def wdB21:List UInt8:=[91,94,82,101,103,105,111,110,32,69,120,116,101,110,100,32,70,111,114,109,97,116,32,90,119,106,93,32,91,69,120,116,101,110,100,32,70,111,114,109,97,116,32,90,119,106,93,42,32,40,82,101,103,105,111,110,32,91,69,120,116,101,110,100,32,70,111,114,109,97,116,32,90,119,106,93,42,32,82,101,103,105,111,110,32,91,69,120,116,101,110,100,32,70,111,114,109,97,116,32,90,119,106,93,42,41,42,32,82,101,103,105,111,110,32,91,69,120,116,101,110,100,32,70,111,114,109,97,116,32,90,119,106,93,42,32,126,32,82,101,103,105,111,110]
def wdB20:List UInt8:=[94,32,91,69,120,116,101,110,100,32,70,111,114,109,97,116,32,90,119,106,93,42,32,40,82,101,103,105,111,110,32,91,69,120,116,101,110,100,32,70,111,114,109,97,116,32,90,119,106,93,42,32,82,101,103,105,111,110,32,91,69,120,116,101,110,100,32,70,111,114,109,97,116,32,90,119,106,93,42,41,42,32,82,101,103,105,111,110,32,91,69,120,116,101,110,100,32,70,111,114,109,97,116,32,90,119,106,93,42,32,126,32,82,101,103,105,111,110]
def wdB7:List UInt8:=[91,76,101,116,116,101,114,32,72,101,98,114,101,119,93,32,91,69,120,116,101,110,100,32,70,111,114,109,97,116,32,90,119,106,93,42,32,126,32,91,77,105,100,76,101,116,116,101,114,32,77,105,100,78,117,109,76,101,116,32,81,117,111,116,101,93,32,91,69,120,116,101,110,100,32,70,111,114,109,97,116,32,90,119,106,93,42,32,91,76,101,116,116,101,114,32,72,101,98,114,101,119,93]
def wdB8:List UInt8:=[91,76,101,116,116,101,114,32,72,101,98,114,101,119,93,32,91,69,120,116,101,110,100,32,70,111,114,109,97,116,32,90,119,106,93,42,32,91,77,105,100,76,101,116,116,101,114,32,77,105,100,78,117,109,76,101,116,32,81,117,111,116,101,93,32,91,69,120,116,101,110,100,32,70,111,114,109,97,116,32,90,119,106,93,42,32,126,32,91,76,101,116,116,101,114,32,72,101,98,114,101,119,93]
def wdB15:List UInt8:=[68,105,103,105,116,32,91,69,120,116,101,110,100,32,70,111,114,109,97,116,32,90,119,106,93,42,32,91,77,105,100,78,117,109,32,77,105,100,78,117,109,76,101,116,32,81,117,111,116,101,93,32,91,69,120,116,101,110,100,32,70,111,114,109,97,116,32,90,119,106,93,42,32,126,32,68,105,103,105,116]
def wdB16:List UInt8:=[68,105,103,105,116,32,91,69,120,116,101,110,100,32,70,111,114,109,97,116,32,90,119,106,93,42,32,126,32,91,77,105,100,78,117,109,32,77,105,100,78,117,109,76,101,116,32,81,117,111,116,101,93,32,91,69,120,116,101,110,100,32,70,111,114,109,97,116,32,90,119,106,93,42,32,68,105,103,105,116]
def wdB10:List UInt8:=[72,101,98,114,101,119,32,91,69,120,116,101,110,100,32,70,111,114,109,97,116,32,90,119,106,93,42,32,126,32,68,111,117,98,108,101,32,91,69,120,116,101,110,100,32,70,111,114,109,97,116,32,90,119,106,93,42,32,72,101,98,114,101,119]
def wdB11:List UInt8:=[72,101,98,114,101,119,32,91,69,120,116,101,110,100,32,70,111,114,109,97,116,32,90,119,106,93,42,32,68,111,117,98,108,101,32,91,69,120,116,101,110,100,32,70,111,114,109,97,116,32,90,119,106,93,42,32,126,32,72,101,98,114,101,119]
def wdB18:List UInt8:=[91,76,101,116,116,101,114,32,72,101,98,114,101,119,32,68,105,103,105,116,32,75,97,116,97,107,97,110,97,32,76,111,119,93,32,91,69,120,116,101,110,100,32,70,111,114,109,97,116,32,90,119,106,93,42,32,126,32,76,111,119]
def wdB19:List UInt8:=[76,111,119,32,91,69,120,116,101,110,100,32,70,111,114,109,97,116,32,90,119,106,93,42,32,126,32,91,76,101,116,116,101,114,32,72,101,98,114,101,119,32,68,105,103,105,116,32,75,97,116,97,107,97,110,97,93]
def wdB6:List UInt8:=[91,76,101,116,116,101,114,32,72,101,98,114,101,119,93,32,91,69,120,116,101,110,100,32,70,111,114,109,97,116,32,90,119,106,93,42,32,126,32,91,76,101,116,116,101,114,32,72,101,98,114,101,119,93]
def wdB13:List UInt8:=[91,76,101,116,116,101,114,32,72,101,98,114,101,119,93,32,91,69,120,116,101,110,100,32,70,111,114,109,97,116,32,90,119,106,93,42,32,126,32,68,105,103,105,116]
def wdB14:List UInt8:=[68,105,103,105,116,32,91,69,120,116,101,110,100,32,70,111,114,109,97,116,32,90,119,106,93,42,32,126,32,91,76,101,116,116,101,114,32,72,101,98,114,101,119,93]
def wdB17:List UInt8:=[75,97,116,97,107,97,110,97,32,91,69,120,116,101,110,100,32,70,111,114,109,97,116,32,90,119,106,93,42,32,126,32,75,97,116,97,107,97,110,97]
def wdB9:List UInt8:=[72,101,98,114,101,119,32,91,69,120,116,101,110,100,32,70,111,114,109,97,116,32,90,119,106,93,42,32,126,32,81,117,111,116,101]
def wdB12:List UInt8:=[68,105,103,105,116,32,91,69,120,116,101,110,100,32,70,111,114,109,97,116,32,90,119,106,93,42,32,126,32,68,105,103,105,116]
def wdB5:List UInt8:=[126,32,91,69,120,116,101,110,100,32,70,111,114,109,97,116,32,90,119,106,93]
def wdB1:List UInt8:=[91,78,101,119,108,105,110,101,32,67,114,32,76,102,93,32,47]
def wdB2:List UInt8:=[47,32,91,78,101,119,108,105,110,101,32,67,114,32,76,102,93]
def wdB4:List UInt8:=[83,112,97,99,101,32,126,32,83,112,97,99,101]
def wdB3:List UInt8:=[90,119,106,32,126,32,80,105,99,116]
def yb0:List UInt8:=[67,114,32,126,32,76,102]
def yb1:List UInt8:=[114,101,115,116,32,47]
def wdLs:List (List UInt8):=[
 yb0,
 wdB1,
 wdB2,
 wdB3,
 wdB4,
 wdB5,
 wdB6,
 wdB7,
 wdB8,
 wdB9,
 wdB10,
 wdB11,
 wdB12,
 wdB13,
 wdB14,
 wdB15,
 wdB16,
 wdB17,
 wdB18,
 wdB19,
 wdB20,
 wdB21,
 yb1,
 []]
theorem wdLs_spl:splG [] wdRt=wdLs:=by kernel_rfl
theorem zac {f:FuncId} {a v:Value} (ha:flatL [a]=true) (h:runA Tryz.prog none7 1000000 60 [] f [a] v=true):Pl1 f a v:=fun W=>closed_args mixed zbA rfl ha h W (fun x hx=>by cases hx)
theorem wdL0a:Pl1 103 (.string ⟨yb0.toArray⟩) (.string ⟨yb0.toArray⟩):=zac rfl (by kernel_rfl)
theorem wdL0b:Pl1 104 (.string ⟨yb0.toArray⟩) (.int .i64 3):=zac rfl (by kernel_rfl)
theorem wdL0c:Pl1 105 (.string ⟨#[67,114,32]⟩) (.string ⟨#[67,114]⟩):=zac rfl (by kernel_rfl)
theorem wdL0d:Pl1 105 (.string ⟨#[32,76,102]⟩) (.string ⟨#[76,102]⟩):=zac rfl (by kernel_rfl)
theorem wdL1a:Pl1 103 (.string ⟨wdB1.toArray⟩) (.string ⟨wdB1.toArray⟩):=zac rfl (by kernel_rfl)
theorem wdL1b:Pl1 104 (.string ⟨wdB1.toArray⟩) (.int .i64 16):=zac rfl (by kernel_rfl)
def yb2:List UInt8:=[91,78,101,119,108,105,110,101,32,67,114,32,76,102,93]
theorem wdL1c:Pl1 105 (.string ⟨(yb2++[32]).toArray⟩) (.string ⟨yb2.toArray⟩):=zac rfl (by kernel_rfl)
theorem wdL1d:Pl1 105 (.string ⟨#[]⟩) (.string ⟨#[]⟩):=zac rfl (by kernel_rfl)
theorem wdL2a:Pl1 103 (.string ⟨wdB2.toArray⟩) (.string ⟨wdB2.toArray⟩):=zac rfl (by kernel_rfl)
theorem wdL2b:Pl1 104 (.string ⟨wdB2.toArray⟩) (.int .i64 0):=zac rfl (by kernel_rfl)
theorem wdL2c:Pl1 105 (.string ⟨#[]⟩) (.string ⟨#[]⟩):=zac rfl (by kernel_rfl)
theorem wdL2d:Pl1 105 (.string ⟨(32::yb2).toArray⟩) (.string ⟨yb2.toArray⟩):=zac rfl (by kernel_rfl)
theorem wdL3a:Pl1 103 (.string ⟨wdB3.toArray⟩) (.string ⟨wdB3.toArray⟩):=zac rfl (by kernel_rfl)
theorem wdL3b:Pl1 104 (.string ⟨wdB3.toArray⟩) (.int .i64 4):=zac rfl (by kernel_rfl)
theorem wdL3c:Pl1 105 (.string ⟨#[90,119,106,32]⟩) (.string ⟨#[90,119,106]⟩):=zac rfl (by kernel_rfl)
theorem wdL3d:Pl1 105 (.string ⟨#[32,80,105,99,116]⟩) (.string ⟨#[80,105,99,116]⟩):=zac rfl (by kernel_rfl)
theorem wdL4a:Pl1 103 (.string ⟨wdB4.toArray⟩) (.string ⟨wdB4.toArray⟩):=zac rfl (by kernel_rfl)
theorem wdL4b:Pl1 104 (.string ⟨wdB4.toArray⟩) (.int .i64 6):=zac rfl (by kernel_rfl)
def yb3:List UInt8:=[83,112,97,99,101,32]
theorem wdL4c:Pl1 105 (.string ⟨yb3.toArray⟩) (.string ⟨#[83,112,97,99,101]⟩):=zac rfl (by kernel_rfl)
def yb4:List UInt8:=[32,83,112,97,99,101]
theorem wdL4d:Pl1 105 (.string ⟨yb4.toArray⟩) (.string ⟨#[83,112,97,99,101]⟩):=zac rfl (by kernel_rfl)
theorem wdL5a:Pl1 103 (.string ⟨wdB5.toArray⟩) (.string ⟨wdB5.toArray⟩):=zac rfl (by kernel_rfl)
theorem wdL5b:Pl1 104 (.string ⟨wdB5.toArray⟩) (.int .i64 0):=zac rfl (by kernel_rfl)
theorem wdL5c:Pl1 105 (.string ⟨#[]⟩) (.string ⟨#[]⟩):=zac rfl (by kernel_rfl)
def yb5:List UInt8:=[91,69,120,116,101,110,100,32,70,111,114,109,97,116,32,90,119,106,93]
theorem wdL5d:Pl1 105 (.string ⟨(32::yb5).toArray⟩) (.string ⟨yb5.toArray⟩):=zac rfl (by kernel_rfl)
theorem wdL6a:Pl1 103 (.string ⟨wdB6.toArray⟩) (.string ⟨wdB6.toArray⟩):=zac rfl (by kernel_rfl)
theorem wdL6b:Pl1 104 (.string ⟨wdB6.toArray⟩) (.int .i64 37):=zac rfl (by kernel_rfl)
def yb6:List UInt8:=[91,76,101,116,116,101,114,32,72,101,98,114,101,119,93,32,91,69,120,116,101,110,100,32,70,111,114,109,97,116,32,90,119,106,93,42]
theorem wdL6c:Pl1 105 (.string ⟨(yb6++[32]).toArray⟩) (.string ⟨yb6.toArray⟩):=zac rfl (by kernel_rfl)
def yb7:List UInt8:=[91,76,101,116,116,101,114,32,72,101,98,114,101,119,93]
theorem wdL6d:Pl1 105 (.string ⟨(32::yb7).toArray⟩) (.string ⟨yb7.toArray⟩):=zac rfl (by kernel_rfl)
theorem wdL7a:Pl1 103 (.string ⟨wdB7.toArray⟩) (.string ⟨wdB7.toArray⟩):=zac rfl (by kernel_rfl)
theorem wdL7b:Pl1 104 (.string ⟨wdB7.toArray⟩) (.int .i64 37):=zac rfl (by kernel_rfl)
theorem wdL7c:Pl1 105 (.string ⟨(yb6++[32]).toArray⟩) (.string ⟨yb6.toArray⟩):=zac rfl (by kernel_rfl)
def yb8:List UInt8:=[91,77,105,100,76,101,116,116,101,114,32,77,105,100,78,117,109,76,101,116,32,81,117,111,116,101,93,32,91,69,120,116,101,110,100,32,70,111,114,109,97,116,32,90,119,106,93,42,32,91,76,101,116,116,101,114,32,72,101,98,114,101,119,93]
theorem wdL7d:Pl1 105 (.string ⟨(32::yb8).toArray⟩) (.string ⟨yb8.toArray⟩):=zac rfl (by kernel_rfl)
theorem wdL8a:Pl1 103 (.string ⟨wdB8.toArray⟩) (.string ⟨wdB8.toArray⟩):=zac rfl (by kernel_rfl)
theorem wdL8b:Pl1 104 (.string ⟨wdB8.toArray⟩) (.int .i64 86):=zac rfl (by kernel_rfl)
def yb9:List UInt8:=[91,76,101,116,116,101,114,32,72,101,98,114,101,119,93,32,91,69,120,116,101,110,100,32,70,111,114,109,97,116,32,90,119,106,93,42,32,91,77,105,100,76,101,116,116,101,114,32,77,105,100,78,117,109,76,101,116,32,81,117,111,116,101,93,32,91,69,120,116,101,110,100,32,70,111,114,109,97,116,32,90,119,106,93,42]
theorem wdL8c:Pl1 105 (.string ⟨(yb9++[32]).toArray⟩) (.string ⟨yb9.toArray⟩):=zac rfl (by kernel_rfl)
theorem wdL8d:Pl1 105 (.string ⟨(32::yb7).toArray⟩) (.string ⟨yb7.toArray⟩):=zac rfl (by kernel_rfl)
theorem wdL9a:Pl1 103 (.string ⟨wdB9.toArray⟩) (.string ⟨wdB9.toArray⟩):=zac rfl (by kernel_rfl)
theorem wdL9b:Pl1 104 (.string ⟨wdB9.toArray⟩) (.int .i64 28):=zac rfl (by kernel_rfl)
def yb10:List UInt8:=[72,101,98,114,101,119,32,91,69,120,116,101,110,100,32,70,111,114,109,97,116,32,90,119,106,93,42]
theorem wdL9c:Pl1 105 (.string ⟨(yb10++[32]).toArray⟩) (.string ⟨yb10.toArray⟩):=zac rfl (by kernel_rfl)
def yb11:List UInt8:=[32,81,117,111,116,101]
theorem wdL9d:Pl1 105 (.string ⟨yb11.toArray⟩) (.string ⟨#[81,117,111,116,101]⟩):=zac rfl (by kernel_rfl)
theorem wdL10a:Pl1 103 (.string ⟨wdB10.toArray⟩) (.string ⟨wdB10.toArray⟩):=zac rfl (by kernel_rfl)
theorem wdL10b:Pl1 104 (.string ⟨wdB10.toArray⟩) (.int .i64 28):=zac rfl (by kernel_rfl)
theorem wdL10c:Pl1 105 (.string ⟨(yb10++[32]).toArray⟩) (.string ⟨yb10.toArray⟩):=zac rfl (by kernel_rfl)
def yb12:List UInt8:=[68,111,117,98,108,101,32,91,69,120,116,101,110,100,32,70,111,114,109,97,116,32,90,119,106,93,42,32,72,101,98,114,101,119]
theorem wdL10d:Pl1 105 (.string ⟨(32::yb12).toArray⟩) (.string ⟨yb12.toArray⟩):=zac rfl (by kernel_rfl)
theorem wdL11a:Pl1 103 (.string ⟨wdB11.toArray⟩) (.string ⟨wdB11.toArray⟩):=zac rfl (by kernel_rfl)
theorem wdL11b:Pl1 104 (.string ⟨wdB11.toArray⟩) (.int .i64 56):=zac rfl (by kernel_rfl)
def yb13:List UInt8:=[72,101,98,114,101,119,32,91,69,120,116,101,110,100,32,70,111,114,109,97,116,32,90,119,106,93,42,32,68,111,117,98,108,101,32,91,69,120,116,101,110,100,32,70,111,114,109,97,116,32,90,119,106,93,42]
theorem wdL11c:Pl1 105 (.string ⟨(yb13++[32]).toArray⟩) (.string ⟨yb13.toArray⟩):=zac rfl (by kernel_rfl)
def yb14:List UInt8:=[72,101,98,114,101,119]
theorem wdL11d:Pl1 105 (.string ⟨(32::yb14).toArray⟩) (.string ⟨yb14.toArray⟩):=zac rfl (by kernel_rfl)
theorem wdL12a:Pl1 103 (.string ⟨wdB12.toArray⟩) (.string ⟨wdB12.toArray⟩):=zac rfl (by kernel_rfl)
theorem wdL12b:Pl1 104 (.string ⟨wdB12.toArray⟩) (.int .i64 27):=zac rfl (by kernel_rfl)
def yb15:List UInt8:=[68,105,103,105,116,32,91,69,120,116,101,110,100,32,70,111,114,109,97,116,32,90,119,106,93,42]
theorem wdL12c:Pl1 105 (.string ⟨(yb15++[32]).toArray⟩) (.string ⟨yb15.toArray⟩):=zac rfl (by kernel_rfl)
def yb16:List UInt8:=[32,68,105,103,105,116]
theorem wdL12d:Pl1 105 (.string ⟨yb16.toArray⟩) (.string ⟨#[68,105,103,105,116]⟩):=zac rfl (by kernel_rfl)
theorem wdL13a:Pl1 103 (.string ⟨wdB13.toArray⟩) (.string ⟨wdB13.toArray⟩):=zac rfl (by kernel_rfl)
theorem wdL13b:Pl1 104 (.string ⟨wdB13.toArray⟩) (.int .i64 37):=zac rfl (by kernel_rfl)
theorem wdL13c:Pl1 105 (.string ⟨(yb6++[32]).toArray⟩) (.string ⟨yb6.toArray⟩):=zac rfl (by kernel_rfl)
theorem wdL13d:Pl1 105 (.string ⟨yb16.toArray⟩) (.string ⟨#[68,105,103,105,116]⟩):=zac rfl (by kernel_rfl)
theorem wdL14a:Pl1 103 (.string ⟨wdB14.toArray⟩) (.string ⟨wdB14.toArray⟩):=zac rfl (by kernel_rfl)
theorem wdL14b:Pl1 104 (.string ⟨wdB14.toArray⟩) (.int .i64 27):=zac rfl (by kernel_rfl)
theorem wdL14c:Pl1 105 (.string ⟨(yb15++[32]).toArray⟩) (.string ⟨yb15.toArray⟩):=zac rfl (by kernel_rfl)
theorem wdL14d:Pl1 105 (.string ⟨(32::yb7).toArray⟩) (.string ⟨yb7.toArray⟩):=zac rfl (by kernel_rfl)
theorem wdL15a:Pl1 103 (.string ⟨wdB15.toArray⟩) (.string ⟨wdB15.toArray⟩):=zac rfl (by kernel_rfl)
theorem wdL15b:Pl1 104 (.string ⟨wdB15.toArray⟩) (.int .i64 73):=zac rfl (by kernel_rfl)
def yb17:List UInt8:=[68,105,103,105,116,32,91,69,120,116,101,110,100,32,70,111,114,109,97,116,32,90,119,106,93,42,32,91,77,105,100,78,117,109,32,77,105,100,78,117,109,76,101,116,32,81,117,111,116,101,93,32,91,69,120,116,101,110,100,32,70,111,114,109,97,116,32,90,119,106,93,42]
theorem wdL15c:Pl1 105 (.string ⟨(yb17++[32]).toArray⟩) (.string ⟨yb17.toArray⟩):=zac rfl (by kernel_rfl)
theorem wdL15d:Pl1 105 (.string ⟨yb16.toArray⟩) (.string ⟨#[68,105,103,105,116]⟩):=zac rfl (by kernel_rfl)
theorem wdL16a:Pl1 103 (.string ⟨wdB16.toArray⟩) (.string ⟨wdB16.toArray⟩):=zac rfl (by kernel_rfl)
theorem wdL16b:Pl1 104 (.string ⟨wdB16.toArray⟩) (.int .i64 27):=zac rfl (by kernel_rfl)
theorem wdL16c:Pl1 105 (.string ⟨(yb15++[32]).toArray⟩) (.string ⟨yb15.toArray⟩):=zac rfl (by kernel_rfl)
def yb18:List UInt8:=[91,77,105,100,78,117,109,32,77,105,100,78,117,109,76,101,116,32,81,117,111,116,101,93,32,91,69,120,116,101,110,100,32,70,111,114,109,97,116,32,90,119,106,93,42,32,68,105,103,105,116]
theorem wdL16d:Pl1 105 (.string ⟨(32::yb18).toArray⟩) (.string ⟨yb18.toArray⟩):=zac rfl (by kernel_rfl)
theorem wdL17a:Pl1 103 (.string ⟨wdB17.toArray⟩) (.string ⟨wdB17.toArray⟩):=zac rfl (by kernel_rfl)
theorem wdL17b:Pl1 104 (.string ⟨wdB17.toArray⟩) (.int .i64 30):=zac rfl (by kernel_rfl)
def yb19:List UInt8:=[75,97,116,97,107,97,110,97,32,91,69,120,116,101,110,100,32,70,111,114,109,97,116,32,90,119,106,93,42]
theorem wdL17c:Pl1 105 (.string ⟨(yb19++[32]).toArray⟩) (.string ⟨yb19.toArray⟩):=zac rfl (by kernel_rfl)
def yb20:List UInt8:=[75,97,116,97,107,97,110,97]
theorem wdL17d:Pl1 105 (.string ⟨(32::yb20).toArray⟩) (.string ⟨yb20.toArray⟩):=zac rfl (by kernel_rfl)
theorem wdL18a:Pl1 103 (.string ⟨wdB18.toArray⟩) (.string ⟨wdB18.toArray⟩):=zac rfl (by kernel_rfl)
theorem wdL18b:Pl1 104 (.string ⟨wdB18.toArray⟩) (.int .i64 56):=zac rfl (by kernel_rfl)
def yb21:List UInt8:=[91,76,101,116,116,101,114,32,72,101,98,114,101,119,32,68,105,103,105,116,32,75,97,116,97,107,97,110,97,32,76,111,119,93,32,91,69,120,116,101,110,100,32,70,111,114,109,97,116,32,90,119,106,93,42]
theorem wdL18c:Pl1 105 (.string ⟨(yb21++[32]).toArray⟩) (.string ⟨yb21.toArray⟩):=zac rfl (by kernel_rfl)
theorem wdL18d:Pl1 105 (.string ⟨#[32,76,111,119]⟩) (.string ⟨#[76,111,119]⟩):=zac rfl (by kernel_rfl)
theorem wdL19a:Pl1 103 (.string ⟨wdB19.toArray⟩) (.string ⟨wdB19.toArray⟩):=zac rfl (by kernel_rfl)
theorem wdL19b:Pl1 104 (.string ⟨wdB19.toArray⟩) (.int .i64 25):=zac rfl (by kernel_rfl)
def yb22:List UInt8:=[76,111,119,32,91,69,120,116,101,110,100,32,70,111,114,109,97,116,32,90,119,106,93,42]
theorem wdL19c:Pl1 105 (.string ⟨(yb22++[32]).toArray⟩) (.string ⟨yb22.toArray⟩):=zac rfl (by kernel_rfl)
def yb23:List UInt8:=[91,76,101,116,116,101,114,32,72,101,98,114,101,119,32,68,105,103,105,116,32,75,97,116,97,107,97,110,97,93]
theorem wdL19d:Pl1 105 (.string ⟨(32::yb23).toArray⟩) (.string ⟨yb23.toArray⟩):=zac rfl (by kernel_rfl)
theorem wdL20a:Pl1 103 (.string ⟨wdB20.toArray⟩) (.string ⟨wdB20.toArray⟩):=zac rfl (by kernel_rfl)
theorem wdL20b:Pl1 104 (.string ⟨wdB20.toArray⟩) (.int .i64 110):=zac rfl (by kernel_rfl)
def yb24:List UInt8:=[94,32,91,69,120,116,101,110,100,32,70,111,114,109,97,116,32,90,119,106,93,42,32,40,82,101,103,105,111,110,32,91,69,120,116,101,110,100,32,70,111,114,109,97,116,32,90,119,106,93,42,32,82,101,103,105,111,110,32,91,69,120,116,101,110,100,32,70,111,114,109,97,116,32,90,119,106,93,42,41,42,32,82,101,103,105,111,110,32,91,69,120,116,101,110,100,32,70,111,114,109,97,116,32,90,119,106,93,42]
theorem wdL20c:Pl1 105 (.string ⟨(yb24++[32]).toArray⟩) (.string ⟨yb24.toArray⟩):=zac rfl (by kernel_rfl)
def yb25:List UInt8:=[82,101,103,105,111,110]
theorem wdL20d:Pl1 105 (.string ⟨(32::yb25).toArray⟩) (.string ⟨yb25.toArray⟩):=zac rfl (by kernel_rfl)
theorem wdL21a:Pl1 103 (.string ⟨wdB21.toArray⟩) (.string ⟨wdB21.toArray⟩):=zac rfl (by kernel_rfl)
theorem wdL21b:Pl1 104 (.string ⟨wdB21.toArray⟩) (.int .i64 136):=zac rfl (by kernel_rfl)
def yb26:List UInt8:=[91,94,82,101,103,105,111,110,32,69,120,116,101,110,100,32,70,111,114,109,97,116,32,90,119,106,93,32,91,69,120,116,101,110,100,32,70,111,114,109,97,116,32,90,119,106,93,42,32,40,82,101,103,105,111,110,32,91,69,120,116,101,110,100,32,70,111,114,109,97,116,32,90,119,106,93,42,32,82,101,103,105,111,110,32,91,69,120,116,101,110,100,32,70,111,114,109,97,116,32,90,119,106,93,42,41,42,32,82,101,103,105,111,110,32,91,69,120,116,101,110,100,32,70,111,114,109,97,116,32,90,119,106,93,42]
theorem wdL21c:Pl1 105 (.string ⟨(yb26++[32]).toArray⟩) (.string ⟨yb26.toArray⟩):=zac rfl (by kernel_rfl)
theorem wdL21d:Pl1 105 (.string ⟨(32::yb25).toArray⟩) (.string ⟨yb25.toArray⟩):=zac rfl (by kernel_rfl)
theorem wdL22a:Pl1 103 (.string ⟨yb1.toArray⟩) (.string ⟨yb1.toArray⟩):=zac rfl (by kernel_rfl)
theorem wdL22b:Pl1 104 (.string ⟨yb1.toArray⟩) (.int .i64 5):=zac rfl (by kernel_rfl)
theorem wdL22c:Pl1 105 (.string ⟨#[114,101,115,116,32]⟩) (.string ⟨#[114,101,115,116]⟩):=zac rfl (by kernel_rfl)
theorem wdL22d:Pl1 105 (.string ⟨#[]⟩) (.string ⟨#[]⟩):=zac rfl (by kernel_rfl)
theorem wdL23a:Pl1 103 (.string ⟨#[]⟩) (.string ⟨#[]⟩):=zac rfl (by kernel_rfl)
set_option maxRecDepth 100000 in
theorem wd_line (g nc:Nat):∀(j:Nat) (s:List UInt8),wdLs[j]? =some s->∀(B X:Nat) (vo:Option Addr) (n vc:Nat) (xs:List Value) (W:World),RrAt B W X g nc wdNm vo n vc (wdRs.take j) xs true (Nat.blt 22 j)->Calls Tryz.prog 72 #[.pointer (some ⟨X,0,none⟩),.string ⟨s.toArray⟩] W (LnQ B W X g nc wdNm (wdRs.take (j+1)) true (Nat.blt 22 (j+1))):=fun j s hj=>match j,hj with
 | 0,hj=>by
  cases hj
  intro B X vo n vc xs W h;have hn:n<=60:=by rw[h.hn];exact Nat.le_trans (List.length_take_le _ _) (by decide)
  exact zar B X g nc wdNm vo n vc _ xs true W yb0 yb0 [67,114] [76,102] 3 false wdP0 wdP1 h hn wdL0a wdL0b (by decide) (by decide) (by decide) (by decide) (show Pl1 _ (.string ((⟨yb0.toArray⟩:ByteArray).extract 0 3)) _ from(show((⟨yb0.toArray⟩:ByteArray).extract 0 3)=⟨#[67,114,32]⟩ by rfl) ▸ wdL0c) (show Pl1 _ (.string ((⟨yb0.toArray⟩:ByteArray).extract 4 7)) _ from(show((⟨yb0.toArray⟩:ByteArray).extract 4 7)=⟨#[32,76,102]⟩ by rfl) ▸ wdL0d) (by decide) (by decide) (by decide) (fun W hN=>wdP0_parse g nc W hN) (fun W hN=>wdP1_parse g nc W hN)
 | 1,hj=>by
  cases hj
  intro B X vo n vc xs W h;have hn:n<=60:=by rw[h.hn];exact Nat.le_trans (List.length_take_le _ _) (by decide)
  exact zar B X g nc wdNm vo n vc _ xs true W wdB1 wdB1 yb2 [] 16 true wdP2 wdP3 h hn wdL1a wdL1b (by decide) (by decide) (by decide) (by decide) (show Pl1 _ (.string ((⟨wdB1.toArray⟩:ByteArray).extract 0 16)) _ from(show((⟨wdB1.toArray⟩:ByteArray).extract 0 16)=⟨(yb2++[32]).toArray⟩ by rfl) ▸ wdL1c) (show Pl1 _ (.string ((⟨wdB1.toArray⟩:ByteArray).extract 17 17)) _ from(show((⟨wdB1.toArray⟩:ByteArray).extract 17 17)=⟨#[]⟩ by rfl) ▸ wdL1d) (by decide) (by decide) (by decide) (fun W hN=>wdP2_parse g nc W hN) (fun W hN=>zdp g nc W hN)
 | 2,hj=>by
  cases hj
  intro B X vo n vc xs W h;have hn:n<=60:=by rw[h.hn];exact Nat.le_trans (List.length_take_le _ _) (by decide)
  exact zar B X g nc wdNm vo n vc _ xs true W wdB2 wdB2 [] yb2 0 true wdP3 wdP2 h hn wdL2a wdL2b (by decide) (by decide) (by decide) (by decide) (show Pl1 _ (.string ((⟨wdB2.toArray⟩:ByteArray).extract 0 0)) _ from(show((⟨wdB2.toArray⟩:ByteArray).extract 0 0)=⟨#[]⟩ by rfl) ▸ wdL2c) (show Pl1 _ (.string ((⟨wdB2.toArray⟩:ByteArray).extract 1 17)) _ from(show((⟨wdB2.toArray⟩:ByteArray).extract 1 17)=⟨(32::yb2).toArray⟩ by rfl) ▸ wdL2d) (by decide) (by decide) (by decide) (fun W hN=>zdp g nc W hN) (fun W hN=>wdP2_parse g nc W hN)
 | 3,hj=>by
  cases hj
  intro B X vo n vc xs W h;have hn:n<=60:=by rw[h.hn];exact Nat.le_trans (List.length_take_le _ _) (by decide)
  exact zar B X g nc wdNm vo n vc _ xs true W wdB3 wdB3 [90,119,106] [80,105,99,116] 4 false wdP4 wdP5 h hn wdL3a wdL3b (by decide) (by decide) (by decide) (by decide) (show Pl1 _ (.string ((⟨wdB3.toArray⟩:ByteArray).extract 0 4)) _ from(show((⟨wdB3.toArray⟩:ByteArray).extract 0 4)=⟨#[90,119,106,32]⟩ by rfl) ▸ wdL3c) (show Pl1 _ (.string ((⟨wdB3.toArray⟩:ByteArray).extract 5 10)) _ from(show((⟨wdB3.toArray⟩:ByteArray).extract 5 10)=⟨#[32,80,105,99,116]⟩ by rfl) ▸ wdL3d) (by decide) (by decide) (by decide) (fun W hN=>wdP4_parse g nc W hN) (fun W hN=>wdP5_parse g nc W hN)
 | 4,hj=>by
  cases hj
  intro B X vo n vc xs W h;have hn:n<=60:=by rw[h.hn];exact Nat.le_trans (List.length_take_le _ _) (by decide)
  exact zar B X g nc wdNm vo n vc _ xs true W wdB4 wdB4 [83,112,97,99,101] [83,112,97,99,101] 6 false wdP6 wdP6 h hn wdL4a wdL4b (by decide) (by decide) (by decide) (by decide) (show Pl1 _ (.string ((⟨wdB4.toArray⟩:ByteArray).extract 0 6)) _ from(show((⟨wdB4.toArray⟩:ByteArray).extract 0 6)=⟨yb3.toArray⟩ by rfl) ▸ wdL4c) (show Pl1 _ (.string ((⟨wdB4.toArray⟩:ByteArray).extract 7 13)) _ from(show((⟨wdB4.toArray⟩:ByteArray).extract 7 13)=⟨yb4.toArray⟩ by rfl) ▸ wdL4d) (by decide) (by decide) (by decide) (fun W hN=>wdP6_parse g nc W hN) (fun W hN=>wdP6_parse g nc W hN)
 | 5,hj=>by
  cases hj
  intro B X vo n vc xs W h;have hn:n<=60:=by rw[h.hn];exact Nat.le_trans (List.length_take_le _ _) (by decide)
  exact zar B X g nc wdNm vo n vc _ xs true W wdB5 wdB5 [] yb5 0 false wdP3 wdP7 h hn wdL5a wdL5b (by decide) (by decide) (by decide) (by decide) (show Pl1 _ (.string ((⟨wdB5.toArray⟩:ByteArray).extract 0 0)) _ from(show((⟨wdB5.toArray⟩:ByteArray).extract 0 0)=⟨#[]⟩ by rfl) ▸ wdL5c) (show Pl1 _ (.string ((⟨wdB5.toArray⟩:ByteArray).extract 1 21)) _ from(show((⟨wdB5.toArray⟩:ByteArray).extract 1 21)=⟨(32::yb5).toArray⟩ by rfl) ▸ wdL5d) (by decide) (by decide) (by decide) (fun W hN=>zdp g nc W hN) (fun W hN=>wdP7_parse g nc W hN)
 | 6,hj=>by
  cases hj
  intro B X vo n vc xs W h;have hn:n<=60:=by rw[h.hn];exact Nat.le_trans (List.length_take_le _ _) (by decide)
  exact zar B X g nc wdNm vo n vc _ xs true W wdB6 wdB6 yb6 yb7 37 false wdP8 wdP9 h hn wdL6a wdL6b (by decide) (by decide) (by decide) (by decide) (show Pl1 _ (.string ((⟨wdB6.toArray⟩:ByteArray).extract 0 37)) _ from(show((⟨wdB6.toArray⟩:ByteArray).extract 0 37)=⟨(yb6++[32]).toArray⟩ by rfl) ▸ wdL6c) (show Pl1 _ (.string ((⟨wdB6.toArray⟩:ByteArray).extract 38 54)) _ from(show((⟨wdB6.toArray⟩:ByteArray).extract 38 54)=⟨(32::yb7).toArray⟩ by rfl) ▸ wdL6d) (by decide) (by decide) (by decide) (fun W hN=>zdo g nc W hN) (fun W hN=>zdn g nc W hN)
 | 7,hj=>by
  cases hj
  intro B X vo n vc xs W h;have hn:n<=60:=by rw[h.hn];exact Nat.le_trans (List.length_take_le _ _) (by decide)
  exact zar B X g nc wdNm vo n vc _ xs true W wdB7 wdB7 yb6 yb8 37 false wdP8 wdP10 h hn wdL7a wdL7b (by decide) (by decide) (by decide) (by decide) (show Pl1 _ (.string ((⟨wdB7.toArray⟩:ByteArray).extract 0 37)) _ from(show((⟨wdB7.toArray⟩:ByteArray).extract 0 37)=⟨(yb6++[32]).toArray⟩ by rfl) ▸ wdL7c) (show Pl1 _ (.string ((⟨wdB7.toArray⟩:ByteArray).extract 38 103)) _ from(show((⟨wdB7.toArray⟩:ByteArray).extract 38 103)=⟨(32::yb8).toArray⟩ by rfl) ▸ wdL7d) (by decide) (by decide) (by decide) (fun W hN=>zdo g nc W hN) (fun W hN=>wdP10_parse g nc W hN)
 | 8,hj=>by
  cases hj
  intro B X vo n vc xs W h;have hn:n<=60:=by rw[h.hn];exact Nat.le_trans (List.length_take_le _ _) (by decide)
  exact zar B X g nc wdNm vo n vc _ xs true W wdB8 wdB8 yb9 yb7 86 false wdP11 wdP9 h hn wdL8a wdL8b (by decide) (by decide) (by decide) (by decide) (show Pl1 _ (.string ((⟨wdB8.toArray⟩:ByteArray).extract 0 86)) _ from(show((⟨wdB8.toArray⟩:ByteArray).extract 0 86)=⟨(yb9++[32]).toArray⟩ by rfl) ▸ wdL8c) (show Pl1 _ (.string ((⟨wdB8.toArray⟩:ByteArray).extract 87 103)) _ from(show((⟨wdB8.toArray⟩:ByteArray).extract 87 103)=⟨(32::yb7).toArray⟩ by rfl) ▸ wdL8d) (by decide) (by decide) (by decide) (fun W hN=>wdP11_parse g nc W hN) (fun W hN=>zdn g nc W hN)
 | 9,hj=>by
  cases hj
  intro B X vo n vc xs W h;have hn:n<=60:=by rw[h.hn];exact Nat.le_trans (List.length_take_le _ _) (by decide)
  exact zar B X g nc wdNm vo n vc _ xs true W wdB9 wdB9 yb10 [81,117,111,116,101] 28 false wdP12 wdP13 h hn wdL9a wdL9b (by decide) (by decide) (by decide) (by decide) (show Pl1 _ (.string ((⟨wdB9.toArray⟩:ByteArray).extract 0 28)) _ from(show((⟨wdB9.toArray⟩:ByteArray).extract 0 28)=⟨(yb10++[32]).toArray⟩ by rfl) ▸ wdL9c) (show Pl1 _ (.string ((⟨wdB9.toArray⟩:ByteArray).extract 29 35)) _ from(show((⟨wdB9.toArray⟩:ByteArray).extract 29 35)=⟨yb11.toArray⟩ by rfl) ▸ wdL9d) (by decide) (by decide) (by decide) (fun W hN=>zet g nc W hN) (fun W hN=>wdP13_parse g nc W hN)
 | 10,hj=>by
  cases hj
  intro B X vo n vc xs W h;have hn:n<=60:=by rw[h.hn];exact Nat.le_trans (List.length_take_le _ _) (by decide)
  exact zar B X g nc wdNm vo n vc _ xs true W wdB10 wdB10 yb10 yb12 28 false wdP12 wdP14 h hn wdL10a wdL10b (by decide) (by decide) (by decide) (by decide) (show Pl1 _ (.string ((⟨wdB10.toArray⟩:ByteArray).extract 0 28)) _ from(show((⟨wdB10.toArray⟩:ByteArray).extract 0 28)=⟨(yb10++[32]).toArray⟩ by rfl) ▸ wdL10c) (show Pl1 _ (.string ((⟨wdB10.toArray⟩:ByteArray).extract 29 64)) _ from(show((⟨wdB10.toArray⟩:ByteArray).extract 29 64)=⟨(32::yb12).toArray⟩ by rfl) ▸ wdL10d) (by decide) (by decide) (by decide) (fun W hN=>zet g nc W hN) (fun W hN=>wdP14_parse g nc W hN)
 | 11,hj=>by
  cases hj
  intro B X vo n vc xs W h;have hn:n<=60:=by rw[h.hn];exact Nat.le_trans (List.length_take_le _ _) (by decide)
  exact zar B X g nc wdNm vo n vc _ xs true W wdB11 wdB11 yb13 yb14 56 false wdP15 wdP16 h hn wdL11a wdL11b (by decide) (by decide) (by decide) (by decide) (show Pl1 _ (.string ((⟨wdB11.toArray⟩:ByteArray).extract 0 56)) _ from(show((⟨wdB11.toArray⟩:ByteArray).extract 0 56)=⟨(yb13++[32]).toArray⟩ by rfl) ▸ wdL11c) (show Pl1 _ (.string ((⟨wdB11.toArray⟩:ByteArray).extract 57 64)) _ from(show((⟨wdB11.toArray⟩:ByteArray).extract 57 64)=⟨(32::yb14).toArray⟩ by rfl) ▸ wdL11d) (by decide) (by decide) (by decide) (fun W hN=>wdP15_parse g nc W hN) (fun W hN=>wdP16_parse g nc W hN)
 | 12,hj=>by
  cases hj
  intro B X vo n vc xs W h;have hn:n<=60:=by rw[h.hn];exact Nat.le_trans (List.length_take_le _ _) (by decide)
  exact zar B X g nc wdNm vo n vc _ xs true W wdB12 wdB12 yb15 [68,105,103,105,116] 27 false wdP17 wdP18 h hn wdL12a wdL12b (by decide) (by decide) (by decide) (by decide) (show Pl1 _ (.string ((⟨wdB12.toArray⟩:ByteArray).extract 0 27)) _ from(show((⟨wdB12.toArray⟩:ByteArray).extract 0 27)=⟨(yb15++[32]).toArray⟩ by rfl) ▸ wdL12c) (show Pl1 _ (.string ((⟨wdB12.toArray⟩:ByteArray).extract 28 34)) _ from(show((⟨wdB12.toArray⟩:ByteArray).extract 28 34)=⟨yb16.toArray⟩ by rfl) ▸ wdL12d) (by decide) (by decide) (by decide) (fun W hN=>zcJ g nc W hN) (fun W hN=>zcI g nc W hN)
 | 13,hj=>by
  cases hj
  intro B X vo n vc xs W h;have hn:n<=60:=by rw[h.hn];exact Nat.le_trans (List.length_take_le _ _) (by decide)
  exact zar B X g nc wdNm vo n vc _ xs true W wdB13 wdB13 yb6 [68,105,103,105,116] 37 false wdP8 wdP18 h hn wdL13a wdL13b (by decide) (by decide) (by decide) (by decide) (show Pl1 _ (.string ((⟨wdB13.toArray⟩:ByteArray).extract 0 37)) _ from(show((⟨wdB13.toArray⟩:ByteArray).extract 0 37)=⟨(yb6++[32]).toArray⟩ by rfl) ▸ wdL13c) (show Pl1 _ (.string ((⟨wdB13.toArray⟩:ByteArray).extract 38 44)) _ from(show((⟨wdB13.toArray⟩:ByteArray).extract 38 44)=⟨yb16.toArray⟩ by rfl) ▸ wdL13d) (by decide) (by decide) (by decide) (fun W hN=>zdo g nc W hN) (fun W hN=>zcI g nc W hN)
 | 14,hj=>by
  cases hj
  intro B X vo n vc xs W h;have hn:n<=60:=by rw[h.hn];exact Nat.le_trans (List.length_take_le _ _) (by decide)
  exact zar B X g nc wdNm vo n vc _ xs true W wdB14 wdB14 yb15 yb7 27 false wdP17 wdP9 h hn wdL14a wdL14b (by decide) (by decide) (by decide) (by decide) (show Pl1 _ (.string ((⟨wdB14.toArray⟩:ByteArray).extract 0 27)) _ from(show((⟨wdB14.toArray⟩:ByteArray).extract 0 27)=⟨(yb15++[32]).toArray⟩ by rfl) ▸ wdL14c) (show Pl1 _ (.string ((⟨wdB14.toArray⟩:ByteArray).extract 28 44)) _ from(show((⟨wdB14.toArray⟩:ByteArray).extract 28 44)=⟨(32::yb7).toArray⟩ by rfl) ▸ wdL14d) (by decide) (by decide) (by decide) (fun W hN=>zcJ g nc W hN) (fun W hN=>zdn g nc W hN)
 | 15,hj=>by
  cases hj
  intro B X vo n vc xs W h;have hn:n<=60:=by rw[h.hn];exact Nat.le_trans (List.length_take_le _ _) (by decide)
  exact zar B X g nc wdNm vo n vc _ xs true W wdB15 wdB15 yb17 [68,105,103,105,116] 73 false wdP19 wdP18 h hn wdL15a wdL15b (by decide) (by decide) (by decide) (by decide) (show Pl1 _ (.string ((⟨wdB15.toArray⟩:ByteArray).extract 0 73)) _ from(show((⟨wdB15.toArray⟩:ByteArray).extract 0 73)=⟨(yb17++[32]).toArray⟩ by rfl) ▸ wdL15c) (show Pl1 _ (.string ((⟨wdB15.toArray⟩:ByteArray).extract 74 80)) _ from(show((⟨wdB15.toArray⟩:ByteArray).extract 74 80)=⟨yb16.toArray⟩ by rfl) ▸ wdL15d) (by decide) (by decide) (by decide) (fun W hN=>wdP19_parse g nc W hN) (fun W hN=>zcI g nc W hN)
 | 16,hj=>by
  cases hj
  intro B X vo n vc xs W h;have hn:n<=60:=by rw[h.hn];exact Nat.le_trans (List.length_take_le _ _) (by decide)
  exact zar B X g nc wdNm vo n vc _ xs true W wdB16 wdB16 yb15 yb18 27 false wdP17 wdP20 h hn wdL16a wdL16b (by decide) (by decide) (by decide) (by decide) (show Pl1 _ (.string ((⟨wdB16.toArray⟩:ByteArray).extract 0 27)) _ from(show((⟨wdB16.toArray⟩:ByteArray).extract 0 27)=⟨(yb15++[32]).toArray⟩ by rfl) ▸ wdL16c) (show Pl1 _ (.string ((⟨wdB16.toArray⟩:ByteArray).extract 28 80)) _ from(show((⟨wdB16.toArray⟩:ByteArray).extract 28 80)=⟨(32::yb18).toArray⟩ by rfl) ▸ wdL16d) (by decide) (by decide) (by decide) (fun W hN=>zcJ g nc W hN) (fun W hN=>wdP20_parse g nc W hN)
 | 17,hj=>by
  cases hj
  intro B X vo n vc xs W h;have hn:n<=60:=by rw[h.hn];exact Nat.le_trans (List.length_take_le _ _) (by decide)
  exact zar B X g nc wdNm vo n vc _ xs true W wdB17 wdB17 yb19 yb20 30 false wdP21 wdP22 h hn wdL17a wdL17b (by decide) (by decide) (by decide) (by decide) (show Pl1 _ (.string ((⟨wdB17.toArray⟩:ByteArray).extract 0 30)) _ from(show((⟨wdB17.toArray⟩:ByteArray).extract 0 30)=⟨(yb19++[32]).toArray⟩ by rfl) ▸ wdL17c) (show Pl1 _ (.string ((⟨wdB17.toArray⟩:ByteArray).extract 31 40)) _ from(show((⟨wdB17.toArray⟩:ByteArray).extract 31 40)=⟨(32::yb20).toArray⟩ by rfl) ▸ wdL17d) (by decide) (by decide) (by decide) (fun W hN=>wdP21_parse g nc W hN) (fun W hN=>wdP22_parse g nc W hN)
 | 18,hj=>by
  cases hj
  intro B X vo n vc xs W h;have hn:n<=60:=by rw[h.hn];exact Nat.le_trans (List.length_take_le _ _) (by decide)
  exact zar B X g nc wdNm vo n vc _ xs true W wdB18 wdB18 yb21 [76,111,119] 56 false wdP23 wdP24 h hn wdL18a wdL18b (by decide) (by decide) (by decide) (by decide) (show Pl1 _ (.string ((⟨wdB18.toArray⟩:ByteArray).extract 0 56)) _ from(show((⟨wdB18.toArray⟩:ByteArray).extract 0 56)=⟨(yb21++[32]).toArray⟩ by rfl) ▸ wdL18c) (show Pl1 _ (.string ((⟨wdB18.toArray⟩:ByteArray).extract 57 61)) _ from(show((⟨wdB18.toArray⟩:ByteArray).extract 57 61)=⟨#[32,76,111,119]⟩ by rfl) ▸ wdL18d) (by decide) (by decide) (by decide) (fun W hN=>wdP23_parse g nc W hN) (fun W hN=>wdP24_parse g nc W hN)
 | 19,hj=>by
  cases hj
  intro B X vo n vc xs W h;have hn:n<=60:=by rw[h.hn];exact Nat.le_trans (List.length_take_le _ _) (by decide)
  exact zar B X g nc wdNm vo n vc _ xs true W wdB19 wdB19 yb22 yb23 25 false wdP25 wdP26 h hn wdL19a wdL19b (by decide) (by decide) (by decide) (by decide) (show Pl1 _ (.string ((⟨wdB19.toArray⟩:ByteArray).extract 0 25)) _ from(show((⟨wdB19.toArray⟩:ByteArray).extract 0 25)=⟨(yb22++[32]).toArray⟩ by rfl) ▸ wdL19c) (show Pl1 _ (.string ((⟨wdB19.toArray⟩:ByteArray).extract 26 57)) _ from(show((⟨wdB19.toArray⟩:ByteArray).extract 26 57)=⟨(32::yb23).toArray⟩ by rfl) ▸ wdL19d) (by decide) (by decide) (by decide) (fun W hN=>wdP25_parse g nc W hN) (fun W hN=>wdP26_parse g nc W hN)
 | 20,hj=>by
  cases hj
  intro B X vo n vc xs W h;have hn:n<=60:=by rw[h.hn];exact Nat.le_trans (List.length_take_le _ _) (by decide)
  exact line_start B X g nc wdNm vo n vc _ xs true W wdB20 wdB20 yb24 yb25 110 false wdP27 wdP28 h hn wdL20a wdL20b (by decide) (by decide) (by decide) (by decide) (show Pl1 _ (.string ((⟨wdB20.toArray⟩:ByteArray).extract 0 110)) _ from(show((⟨wdB20.toArray⟩:ByteArray).extract 0 110)=⟨(yb24++[32]).toArray⟩ by rfl) ▸ wdL20c) (show Pl1 _ (.string ((⟨wdB20.toArray⟩:ByteArray).extract 111 118)) _ from(show((⟨wdB20.toArray⟩:ByteArray).extract 111 118)=⟨(32::yb25).toArray⟩ by rfl) ▸ wdL20d) (by decide) (by decide) (by decide) (by decide) (fun W hN=>wdP27_parse g nc W hN) (fun W hN=>zes g nc W hN)
 | 21,hj=>by
  cases hj
  intro B X vo n vc xs W h;have hn:n<=60:=by rw[h.hn];exact Nat.le_trans (List.length_take_le _ _) (by decide)
  exact zar B X g nc wdNm vo n vc _ xs true W wdB21 wdB21 yb26 yb25 136 false wdP29 wdP28 h hn wdL21a wdL21b (by decide) (by decide) (by decide) (by decide) (show Pl1 _ (.string ((⟨wdB21.toArray⟩:ByteArray).extract 0 136)) _ from(show((⟨wdB21.toArray⟩:ByteArray).extract 0 136)=⟨(yb26++[32]).toArray⟩ by rfl) ▸ wdL21c) (show Pl1 _ (.string ((⟨wdB21.toArray⟩:ByteArray).extract 137 144)) _ from(show((⟨wdB21.toArray⟩:ByteArray).extract 137 144)=⟨(32::yb25).toArray⟩ by rfl) ▸ wdL21d) (by decide) (by decide) (by decide) (fun W hN=>wdP29_parse g nc W hN) (fun W hN=>zes g nc W hN)
 | 22,hj=>by
  cases hj
  intro B X vo n vc xs W h;exact line_rest B X g nc wdNm vo n vc _ xs true W yb1 yb1 5 true h wdL22a wdL22b (by decide) (by decide) (by decide) (show Pl1 _ (.string ((⟨yb1.toArray⟩:ByteArray).extract 0 5)) _ from(show((⟨yb1.toArray⟩:ByteArray).extract 0 5)=⟨#[114,101,115,116,32]⟩ by rfl) ▸ wdL22c) (show Pl1 _ (.string ((⟨yb1.toArray⟩:ByteArray).extract 6 6)) _ from(show((⟨yb1.toArray⟩:ByteArray).extract 6 6)=⟨#[]⟩ by rfl) ▸ wdL22d)
 | 23,hj=>by
  cases hj
  exact fun B X vo n vc xs W h=>line_blank B X g nc wdNm vo n vc _ xs _ _ W [] h wdL23a
 | j+24,hj=>by
  have:=(List.getElem?_eq_some_iff.1 hj).1;exact absurd this (by simp[wdLs])
theorem wd_parse (g nc:Nat) (w:World) (hN:NmAt w g nc wdNm):Calls Tryz.prog 45 #[.string ⟨wdRt.toArray⟩,.slice (some ⟨g,0,none⟩) 20 nc] w (PrQ g w wdRs true):=by
 have h:=parse8_any wdRt (Nat.le_of_ble_eq_true (by kernel_rfl)) wdNm g nc wdLs (fun j=>wdRs.take j) (fun j=>true) (fun j=>(Nat.blt 22 j)) w hN (by decide) rfl rfl rfl (fun W hW=>names_of (zdO zbA (fun _ hc=>zci mixed zbA hc) 60) zah wdNm_run g nc W hW) (fun W=>lines_any wdRt wdLs wdLs_spl (Nat.le_of_ble_eq_true (by kernel_rfl)) W) (wd_line g nc)
 exact h
end Pt
end
end Go.Proofs.YtokpjifnlifafaaGreatDoor
