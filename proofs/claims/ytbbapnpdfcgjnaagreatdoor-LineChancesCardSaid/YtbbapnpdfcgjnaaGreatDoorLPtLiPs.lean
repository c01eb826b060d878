/- PtLiPs: parts of the proof, joined. -/
import Derived.Test.YtbbapnpdfcgjnaaGreatDoorLDcNm
import Derived.Test.YtbbapnpdfcgjnaaGreatDoorLPtRunLi0
open List renaming length_take_le->xa
open Nat renaming le_trans->xb, le_of_ble_eq_true->xd, blt->xe
set_option maxHeartbeats 64000000
namespace Go.Proofs.YtbbapnpdfcgjnaaGreatDoor
section
open Ev Go.RowKit
namespace Pt
def lnRt:List UInt8:=[67,114,32,126,32,76,102,10,91,66,107,32,67,114,32,76,102,93,32,47,10,126,32,91,66,107,32,67,114,32,76,102,32,83,112,32,90,119,93,10,90,119,32,83,112,42,32,47,10,91,94,66,107,32,67,114,32,76,102,32,83,112,32,90,119,93,32,126,32,67,109,10,126,32,87,106,10,87,106,32,67,109,42,32,126,10,71,108,32,67,109,42,32,126,10,91,94,83,112,32,66,97,32,72,121,32,67,109,93,32,67,109,42,32,126,32,71,108,10,94,32,67,109,32,67,109,42,32,126,32,71,108,10,126,32,91,67,108,32,67,112,32,69,120,32,73,115,32,83,121,93,10,79,112,32,67,109,42,32,83,112,42,32,126,10,81,117,32,67,109,42,32,83,112,42,32,126,32,79,112,10,91,67,108,32,67,112,93,32,67,109,42,32,83,112,42,32,126,32,78,115,10,68,97,115,104,32,67,109,42,32,83,112,42,32,126,32,68,97,115,104,10,83,112,32,47,10,126,32,81,117,10,81,117,32,67,109,42,32,126,10,126,32,91,66,97,32,72,121,32,78,115,93,10,126,32,73,110,10,79,116,104,101,114,32,67,109,42,32,126,32,78,117,10,78,117,32,67,109,42,32,126,32,79,116,104,101,114,10,80,114,32,67,109,42,32,126,32,73,100,10,73,100,32,67,109,42,32,126,32,80,111,10,91,80,114,32,80,111,93,32,67,109,42,32,126,32,79,116,104,101,114,10,79,116,104,101,114,32,67,109,42,32,126,32,91,80,114,32,80,111,93,10,78,117,32,67,109,42,32,91,73,115,32,83,121,93,63,32,67,109,42,32,91,67,108,32,67,112,93,63,32,67,109,42,32,126,32,91,80,111,32,80,114,93,10,91,80,111,32,80,114,93,32,67,109,42,32,126,32,40,79,112,32,124,32,72,121,41,63,32,78,117,10,91,72,121,32,73,115,32,83,121,32,78,117,93,32,67,109,42,32,126,32,78,117,10,79,116,104,101,114,32,67,109,42,32,126,32,79,116,104,101,114,10,73,115,32,67,109,42,32,126,32,79,116,104,101,114,10,91,79,116,104,101,114,32,78,117,93,32,67,109,42,32,126,32,79,112,10,67,112,32,67,109,42,32,126,32,91,79,116,104,101,114,32,78,117,93,10,94,32,67,109,42,32,40,82,105,32,67,109,42,32,82,105,32,67,109,42,41,42,32,82,105,32,67,109,42,32,126,32,82,105,10,91,94,82,105,32,67,109,93,32,67,109,42,32,40,82,105,32,67,109,42,32,82,105,32,67,109,42,41,42,32,82,105,32,67,109,42,32,126,32,82,105,10,114,101,115,116,32,47,10]
def zgQ:List UInt8:=[78,117,32,67,109,42,32,91,73,115,32,83,121,93,63,32,67,109,42,32,91,67,108,32,67,112,93,63,32,67,109,42,32,126,32,91,80,111,32,80,114,93]
def zgI:List UInt8:=[91,94,82,105,32,67,109,93,32,67,109,42,32,40,82,105,32,67,109,42,32,82,105,32,67,109,42,41,42,32,82,105,32,67,109,42,32,126,32,82,105]
def zgJ:List UInt8:=[94,32,67,109,42,32,40,82,105,32,67,109,42,32,82,105,32,67,109,42,41,42,32,82,105,32,67,109,42,32,126,32,82,105]
def zgP:List UInt8:=[91,80,111,32,80,114,93,32,67,109,42,32,126,32,40,79,112,32,124,32,72,121,41,63,32,78,117]
def zvB:List UInt8:=[91,94,83,112,32,66,97,32,72,121,32,67,109,93,32,67,109,42,32,126,32,71,108]
def zvE:List UInt8:=[91,94,66,107,32,67,114,32,76,102,32,83,112,32,90,119,93,32,126,32,67,109]
def zgO:List UInt8:=[91,72,121,32,73,115,32,83,121,32,78,117,93,32,67,109,42,32,126,32,78,117]
def zha:List UInt8:=[91,67,108,32,67,112,93,32,67,109,42,32,83,112,42,32,126,32,78,115]
def zgS:List UInt8:=[91,80,114,32,80,111,93,32,67,109,42,32,126,32,79,116,104,101,114]
def zgR:List UInt8:=[79,116,104,101,114,32,67,109,42,32,126,32,91,80,114,32,80,111,93]
def zgL:List UInt8:=[91,79,116,104,101,114,32,78,117,93,32,67,109,42,32,126,32,79,112]
def zgK:List UInt8:=[67,112,32,67,109,42,32,126,32,91,79,116,104,101,114,32,78,117,93]
def zgZ:List UInt8:=[68,97,115,104,32,67,109,42,32,83,112,42,32,126,32,68,97,115,104]
def zvG:List UInt8:=[126,32,91,66,107,32,67,114,32,76,102,32,83,112,32,90,119,93]
def zhd:List UInt8:=[126,32,91,67,108,32,67,112,32,69,120,32,73,115,32,83,121,93]
def zgN:List UInt8:=[79,116,104,101,114,32,67,109,42,32,126,32,79,116,104,101,114]
def zhb:List UInt8:=[81,117,32,67,109,42,32,83,112,42,32,126,32,79,112]
def zgW:List UInt8:=[79,116,104,101,114,32,67,109,42,32,126,32,78,117]
def zgV:List UInt8:=[78,117,32,67,109,42,32,126,32,79,116,104,101,114]
def zgM:List UInt8:=[73,115,32,67,109,42,32,126,32,79,116,104,101,114]
def zvA:List UInt8:=[94,32,67,109,32,67,109,42,32,126,32,71,108]
def zhc:List UInt8:=[79,112,32,67,109,42,32,83,112,42,32,126]
def zvH:List UInt8:=[91,66,107,32,67,114,32,76,102,93,32,47]
def zgX:List UInt8:=[126,32,91,66,97,32,72,121,32,78,115,93]
def zgU:List UInt8:=[80,114,32,67,109,42,32,126,32,73,100]
def zgT:List UInt8:=[73,100,32,67,109,42,32,126,32,80,111]
def zvD:List UInt8:=[87,106,32,67,109,42,32,126]
def zvC:List UInt8:=[71,108,32,67,109,42,32,126]
def zgY:List UInt8:=[81,117,32,67,109,42,32,126]
def zvF:List UInt8:=[90,119,32,83,112,42,32,47]
def yb0:List UInt8:=[67,114,32,126,32,76,102]
def yb1:List UInt8:=[114,101,115,116,32,47]
def zDC:List (List UInt8):=[
 yb0,
 zvH,
 zvG,
 zvF,
 zvE,
 [126,32,87,106],
 zvD,
 zvC,
 zvB,
 zvA,
 zhd,
 zhc,
 zhb,
 zha,
 zgZ,
 [83,112,32,47],
 [126,32,81,117],
 zgY,
 zgX,
 [126,32,73,110],
 zgW,
 zgV,
 zgU,
 zgT,
 zgS,
 zgR,
 zgQ,
 zgP,
 zgO,
 zgN,
 zgM,
 zgL,
 zgK,
 zgJ,
 zgI,
 yb1,
 []]
theorem zwQ:zgF [] lnRt=zDC:=by kernel_rfl
theorem zaa {f:FuncId} {a v:Value} (ha:zbk [a]=true) (h:runA Tryz.prog zlR 1000000 60 [] f [a] v=true):Pl1 f a v:=fun W=>zng mixed zbV rfl ha h W (fun x hx=>by cases hx)
theorem lnL0a:Pl1 103 (.string ⟨yb0.toArray⟩) (.string ⟨yb0.toArray⟩):=zaa rfl (by kernel_rfl)
theorem lnL0b:Pl1 104 (.string ⟨yb0.toArray⟩) (.int .i64 3):=zaa rfl (by kernel_rfl)
theorem lnL0c:Pl1 105 (.string ⟨#[67,114,32]⟩) (.string ⟨#[67,114]⟩):=zaa rfl (by kernel_rfl)
theorem lnL0d:Pl1 105 (.string ⟨#[32,76,102]⟩) (.string ⟨#[76,102]⟩):=zaa rfl (by kernel_rfl)
theorem lnL1a:Pl1 103 (.string ⟨zvH.toArray⟩) (.string ⟨zvH.toArray⟩):=zaa rfl (by kernel_rfl)
theorem lnL1b:Pl1 104 (.string ⟨zvH.toArray⟩) (.int .i64 11):=zaa rfl (by kernel_rfl)
def yb2:List UInt8:=[91,66,107,32,67,114,32,76,102,93]
theorem lnL1c:Pl1 105 (.string ⟨(yb2++[32]).toArray⟩) (.string ⟨yb2.toArray⟩):=zaa rfl (by kernel_rfl)
theorem lnL1d:Pl1 105 (.string ⟨#[]⟩) (.string ⟨#[]⟩):=zaa rfl (by kernel_rfl)
theorem lnL2a:Pl1 103 (.string ⟨zvG.toArray⟩) (.string ⟨zvG.toArray⟩):=zaa rfl (by kernel_rfl)
theorem lnL2b:Pl1 104 (.string ⟨zvG.toArray⟩) (.int .i64 0):=zaa rfl (by kernel_rfl)
theorem lnL2c:Pl1 105 (.string ⟨#[]⟩) (.string ⟨#[]⟩):=zaa rfl (by kernel_rfl)
def yb3:List UInt8:=[91,66,107,32,67,114,32,76,102,32,83,112,32,90,119,93]
theorem lnL2d:Pl1 105 (.string ⟨(32::yb3).toArray⟩) (.string ⟨yb3.toArray⟩):=zaa rfl (by kernel_rfl)
theorem lnL3a:Pl1 103 (.string ⟨zvF.toArray⟩) (.string ⟨zvF.toArray⟩):=zaa rfl (by kernel_rfl)
theorem lnL3b:Pl1 104 (.string ⟨zvF.toArray⟩) (.int .i64 7):=zaa rfl (by kernel_rfl)
def yb4:List UInt8:=[90,119,32,83,112,42]
theorem lnL3c:Pl1 105 (.string ⟨(yb4++[32]).toArray⟩) (.string ⟨yb4.toArray⟩):=zaa rfl (by kernel_rfl)
theorem lnL3d:Pl1 105 (.string ⟨#[]⟩) (.string ⟨#[]⟩):=zaa rfl (by kernel_rfl)
theorem lnL4a:Pl1 103 (.string ⟨zvE.toArray⟩) (.string ⟨zvE.toArray⟩):=zaa rfl (by kernel_rfl)
theorem lnL4b:Pl1 104 (.string ⟨zvE.toArray⟩) (.int .i64 18):=zaa rfl (by kernel_rfl)
def yb5:List UInt8:=[91,94,66,107,32,67,114,32,76,102,32,83,112,32,90,119,93]
theorem lnL4c:Pl1 105 (.string ⟨(yb5++[32]).toArray⟩) (.string ⟨yb5.toArray⟩):=zaa rfl (by kernel_rfl)
theorem lnL4d:Pl1 105 (.string ⟨#[32,67,109]⟩) (.string ⟨#[67,109]⟩):=zaa rfl (by kernel_rfl)
theorem lnL5a:Pl1 103 (.string ⟨#[126,32,87,106]⟩) (.string ⟨#[126,32,87,106]⟩):=zaa rfl (by kernel_rfl)
theorem lnL5b:Pl1 104 (.string ⟨#[126,32,87,106]⟩) (.int .i64 0):=zaa rfl (by kernel_rfl)
theorem lnL5c:Pl1 105 (.string ⟨#[]⟩) (.string ⟨#[]⟩):=zaa rfl (by kernel_rfl)
theorem lnL5d:Pl1 105 (.string ⟨#[32,87,106]⟩) (.string ⟨#[87,106]⟩):=zaa rfl (by kernel_rfl)
theorem lnL6a:Pl1 103 (.string ⟨zvD.toArray⟩) (.string ⟨zvD.toArray⟩):=zaa rfl (by kernel_rfl)
theorem lnL6b:Pl1 104 (.string ⟨zvD.toArray⟩) (.int .i64 7):=zaa rfl (by kernel_rfl)
def yb6:List UInt8:=[87,106,32,67,109,42]
theorem lnL6c:Pl1 105 (.string ⟨(yb6++[32]).toArray⟩) (.string ⟨yb6.toArray⟩):=zaa rfl (by kernel_rfl)
theorem lnL6d:Pl1 105 (.string ⟨#[]⟩) (.string ⟨#[]⟩):=zaa rfl (by kernel_rfl)
theorem lnL7a:Pl1 103 (.string ⟨zvC.toArray⟩) (.string ⟨zvC.toArray⟩):=zaa rfl (by kernel_rfl)
theorem lnL7b:Pl1 104 (.string ⟨zvC.toArray⟩) (.int .i64 7):=zaa rfl (by kernel_rfl)
def yb7:List UInt8:=[71,108,32,67,109,42]
theorem lnL7c:Pl1 105 (.string ⟨(yb7++[32]).toArray⟩) (.string ⟨yb7.toArray⟩):=zaa rfl (by kernel_rfl)
theorem lnL7d:Pl1 105 (.string ⟨#[]⟩) (.string ⟨#[]⟩):=zaa rfl (by kernel_rfl)
theorem lnL8a:Pl1 103 (.string ⟨zvB.toArray⟩) (.string ⟨zvB.toArray⟩):=zaa rfl (by kernel_rfl)
theorem lnL8b:Pl1 104 (.string ⟨zvB.toArray⟩) (.int .i64 19):=zaa rfl (by kernel_rfl)
def yb8:List UInt8:=[91,94,83,112,32,66,97,32,72,121,32,67,109,93,32,67,109,42]
theorem lnL8c:Pl1 105 (.string ⟨(yb8++[32]).toArray⟩) (.string ⟨yb8.toArray⟩):=zaa rfl (by kernel_rfl)
theorem lnL8d:Pl1 105 (.string ⟨#[32,71,108]⟩) (.string ⟨#[71,108]⟩):=zaa rfl (by kernel_rfl)
theorem lnL9a:Pl1 103 (.string ⟨zvA.toArray⟩) (.string ⟨zvA.toArray⟩):=zaa rfl (by kernel_rfl)
theorem lnL9b:Pl1 104 (.string ⟨zvA.toArray⟩) (.int .i64 9):=zaa rfl (by kernel_rfl)
def yb9:List UInt8:=[94,32,67,109,32,67,109,42]
theorem lnL9c:Pl1 105 (.string ⟨(yb9++[32]).toArray⟩) (.string ⟨yb9.toArray⟩):=zaa rfl (by kernel_rfl)
theorem lnL9d:Pl1 105 (.string ⟨#[32,71,108]⟩) (.string ⟨#[71,108]⟩):=zaa rfl (by kernel_rfl)
theorem zFD:Pl1 103 (.string ⟨zhd.toArray⟩) (.string ⟨zhd.toArray⟩):=zaa rfl (by kernel_rfl)
theorem zFC:Pl1 104 (.string ⟨zhd.toArray⟩) (.int .i64 0):=zaa rfl (by kernel_rfl)
theorem zFB:Pl1 105 (.string ⟨#[]⟩) (.string ⟨#[]⟩):=zaa rfl (by kernel_rfl)
def yb10:List UInt8:=[91,67,108,32,67,112,32,69,120,32,73,115,32,83,121,93]
theorem zFA:Pl1 105 (.string ⟨(32::yb10).toArray⟩) (.string ⟨yb10.toArray⟩):=zaa rfl (by kernel_rfl)
theorem zFz:Pl1 103 (.string ⟨zhc.toArray⟩) (.string ⟨zhc.toArray⟩):=zaa rfl (by kernel_rfl)
theorem zFy:Pl1 104 (.string ⟨zhc.toArray⟩) (.int .i64 11):=zaa rfl (by kernel_rfl)
def yb11:List UInt8:=[79,112,32,67,109,42,32,83,112,42]
theorem zFx:Pl1 105 (.string ⟨(yb11++[32]).toArray⟩) (.string ⟨yb11.toArray⟩):=zaa rfl (by kernel_rfl)
theorem zFw:Pl1 105 (.string ⟨#[]⟩) (.string ⟨#[]⟩):=zaa rfl (by kernel_rfl)
theorem zFv:Pl1 103 (.string ⟨zhb.toArray⟩) (.string ⟨zhb.toArray⟩):=zaa rfl (by kernel_rfl)
theorem zFu:Pl1 104 (.string ⟨zhb.toArray⟩) (.int .i64 11):=zaa rfl (by kernel_rfl)
def yb12:List UInt8:=[81,117,32,67,109,42,32,83,112,42]
theorem zFt:Pl1 105 (.string ⟨(yb12++[32]).toArray⟩) (.string ⟨yb12.toArray⟩):=zaa rfl (by kernel_rfl)
theorem zFs:Pl1 105 (.string ⟨#[32,79,112]⟩) (.string ⟨#[79,112]⟩):=zaa rfl (by kernel_rfl)
theorem zFr:Pl1 103 (.string ⟨zha.toArray⟩) (.string ⟨zha.toArray⟩):=zaa rfl (by kernel_rfl)
theorem zFq:Pl1 104 (.string ⟨zha.toArray⟩) (.int .i64 16):=zaa rfl (by kernel_rfl)
def yb13:List UInt8:=[91,67,108,32,67,112,93,32,67,109,42,32,83,112,42]
theorem zFp:Pl1 105 (.string ⟨(yb13++[32]).toArray⟩) (.string ⟨yb13.toArray⟩):=zaa rfl (by kernel_rfl)
theorem zFo:Pl1 105 (.string ⟨#[32,78,115]⟩) (.string ⟨#[78,115]⟩):=zaa rfl (by kernel_rfl)
theorem zFn:Pl1 103 (.string ⟨zgZ.toArray⟩) (.string ⟨zgZ.toArray⟩):=zaa rfl (by kernel_rfl)
theorem zFm:Pl1 104 (.string ⟨zgZ.toArray⟩) (.int .i64 13):=zaa rfl (by kernel_rfl)
def yb14:List UInt8:=[68,97,115,104,32,67,109,42,32,83,112,42]
theorem zFl:Pl1 105 (.string ⟨(yb14++[32]).toArray⟩) (.string ⟨yb14.toArray⟩):=zaa rfl (by kernel_rfl)
theorem zFk:Pl1 105 (.string ⟨#[32,68,97,115,104]⟩) (.string ⟨#[68,97,115,104]⟩):=zaa rfl (by kernel_rfl)
theorem zFj:Pl1 103 (.string ⟨#[83,112,32,47]⟩) (.string ⟨#[83,112,32,47]⟩):=zaa rfl (by kernel_rfl)
theorem zFi:Pl1 104 (.string ⟨#[83,112,32,47]⟩) (.int .i64 3):=zaa rfl (by kernel_rfl)
theorem zFh:Pl1 105 (.string ⟨#[83,112,32]⟩) (.string ⟨#[83,112]⟩):=zaa rfl (by kernel_rfl)
theorem zFg:Pl1 105 (.string ⟨#[]⟩) (.string ⟨#[]⟩):=zaa rfl (by kernel_rfl)
theorem zFf:Pl1 103 (.string ⟨#[126,32,81,117]⟩) (.string ⟨#[126,32,81,117]⟩):=zaa rfl (by kernel_rfl)
theorem zFe:Pl1 104 (.string ⟨#[126,32,81,117]⟩) (.int .i64 0):=zaa rfl (by kernel_rfl)
theorem zFd:Pl1 105 (.string ⟨#[]⟩) (.string ⟨#[]⟩):=zaa rfl (by kernel_rfl)
theorem zFc:Pl1 105 (.string ⟨#[32,81,117]⟩) (.string ⟨#[81,117]⟩):=zaa rfl (by kernel_rfl)
theorem zFb:Pl1 103 (.string ⟨zgY.toArray⟩) (.string ⟨zgY.toArray⟩):=zaa rfl (by kernel_rfl)
theorem zFa:Pl1 104 (.string ⟨zgY.toArray⟩) (.int .i64 7):=zaa rfl (by kernel_rfl)
def yb15:List UInt8:=[81,117,32,67,109,42]
theorem zEZ:Pl1 105 (.string ⟨(yb15++[32]).toArray⟩) (.string ⟨yb15.toArray⟩):=zaa rfl (by kernel_rfl)
theorem zEY:Pl1 105 (.string ⟨#[]⟩) (.string ⟨#[]⟩):=zaa rfl (by kernel_rfl)
theorem zEX:Pl1 103 (.string ⟨zgX.toArray⟩) (.string ⟨zgX.toArray⟩):=zaa rfl (by kernel_rfl)
theorem zEW:Pl1 104 (.string ⟨zgX.toArray⟩) (.int .i64 0):=zaa rfl (by kernel_rfl)
theorem zEV:Pl1 105 (.string ⟨#[]⟩) (.string ⟨#[]⟩):=zaa rfl (by kernel_rfl)
def yb16:List UInt8:=[91,66,97,32,72,121,32,78,115,93]
theorem zEU:Pl1 105 (.string ⟨(32::yb16).toArray⟩) (.string ⟨yb16.toArray⟩):=zaa rfl (by kernel_rfl)
theorem zET:Pl1 103 (.string ⟨#[126,32,73,110]⟩) (.string ⟨#[126,32,73,110]⟩):=zaa rfl (by kernel_rfl)
theorem zES:Pl1 104 (.string ⟨#[126,32,73,110]⟩) (.int .i64 0):=zaa rfl (by kernel_rfl)
theorem zER:Pl1 105 (.string ⟨#[]⟩) (.string ⟨#[]⟩):=zaa rfl (by kernel_rfl)
theorem zEQ:Pl1 105 (.string ⟨#[32,73,110]⟩) (.string ⟨#[73,110]⟩):=zaa rfl (by kernel_rfl)
theorem zEP:Pl1 103 (.string ⟨zgW.toArray⟩) (.string ⟨zgW.toArray⟩):=zaa rfl (by kernel_rfl)
theorem zEO:Pl1 104 (.string ⟨zgW.toArray⟩) (.int .i64 10):=zaa rfl (by kernel_rfl)
def zqL:List UInt8:=[79,116,104,101,114,32,67,109,42]
theorem zEN:Pl1 105 (.string ⟨(zqL++[32]).toArray⟩) (.string ⟨zqL.toArray⟩):=zaa rfl (by kernel_rfl)
theorem zEM:Pl1 105 (.string ⟨#[32,78,117]⟩) (.string ⟨#[78,117]⟩):=zaa rfl (by kernel_rfl)
theorem zEL:Pl1 103 (.string ⟨zgV.toArray⟩) (.string ⟨zgV.toArray⟩):=zaa rfl (by kernel_rfl)
theorem zEK:Pl1 104 (.string ⟨zgV.toArray⟩) (.int .i64 7):=zaa rfl (by kernel_rfl)
def yb18:List UInt8:=[78,117,32,67,109,42]
theorem zEJ:Pl1 105 (.string ⟨(yb18++[32]).toArray⟩) (.string ⟨yb18.toArray⟩):=zaa rfl (by kernel_rfl)
def zyi:List UInt8:=[32,79,116,104,101,114]
theorem zEI:Pl1 105 (.string ⟨zyi.toArray⟩) (.string ⟨#[79,116,104,101,114]⟩):=zaa rfl (by kernel_rfl)
theorem zEH:Pl1 103 (.string ⟨zgU.toArray⟩) (.string ⟨zgU.toArray⟩):=zaa rfl (by kernel_rfl)
theorem zEG:Pl1 104 (.string ⟨zgU.toArray⟩) (.int .i64 7):=zaa rfl (by kernel_rfl)
def yb20:List UInt8:=[80,114,32,67,109,42]
theorem zEF:Pl1 105 (.string ⟨(yb20++[32]).toArray⟩) (.string ⟨yb20.toArray⟩):=zaa rfl (by kernel_rfl)
theorem zEE:Pl1 105 (.string ⟨#[32,73,100]⟩) (.string ⟨#[73,100]⟩):=zaa rfl (by kernel_rfl)
theorem zED:Pl1 103 (.string ⟨zgT.toArray⟩) (.string ⟨zgT.toArray⟩):=zaa rfl (by kernel_rfl)
theorem zEC:Pl1 104 (.string ⟨zgT.toArray⟩) (.int .i64 7):=zaa rfl (by kernel_rfl)
def yb21:List UInt8:=[73,100,32,67,109,42]
theorem zEB:Pl1 105 (.string ⟨(yb21++[32]).toArray⟩) (.string ⟨yb21.toArray⟩):=zaa rfl (by kernel_rfl)
theorem zEA:Pl1 105 (.string ⟨#[32,80,111]⟩) (.string ⟨#[80,111]⟩):=zaa rfl (by kernel_rfl)
theorem zEz:Pl1 103 (.string ⟨zgS.toArray⟩) (.string ⟨zgS.toArray⟩):=zaa rfl (by kernel_rfl)
theorem zEy:Pl1 104 (.string ⟨zgS.toArray⟩) (.int .i64 12):=zaa rfl (by kernel_rfl)
def yb22:List UInt8:=[91,80,114,32,80,111,93,32,67,109,42]
theorem zEx:Pl1 105 (.string ⟨(yb22++[32]).toArray⟩) (.string ⟨yb22.toArray⟩):=zaa rfl (by kernel_rfl)
theorem zEw:Pl1 105 (.string ⟨zyi.toArray⟩) (.string ⟨#[79,116,104,101,114]⟩):=zaa rfl (by kernel_rfl)
theorem zEv:Pl1 103 (.string ⟨zgR.toArray⟩) (.string ⟨zgR.toArray⟩):=zaa rfl (by kernel_rfl)
theorem zEu:Pl1 104 (.string ⟨zgR.toArray⟩) (.int .i64 10):=zaa rfl (by kernel_rfl)
theorem zEt:Pl1 105 (.string ⟨(zqL++[32]).toArray⟩) (.string ⟨zqL.toArray⟩):=zaa rfl (by kernel_rfl)
def yb23:List UInt8:=[91,80,114,32,80,111,93]
theorem zEs:Pl1 105 (.string ⟨(32::yb23).toArray⟩) (.string ⟨yb23.toArray⟩):=zaa rfl (by kernel_rfl)
theorem zEr:Pl1 103 (.string ⟨zgQ.toArray⟩) (.string ⟨zgQ.toArray⟩):=zaa rfl (by kernel_rfl)
theorem zEq:Pl1 104 (.string ⟨zgQ.toArray⟩) (.int .i64 33):=zaa rfl (by kernel_rfl)
def yb24:List UInt8:=[78,117,32,67,109,42,32,91,73,115,32,83,121,93,63,32,67,109,42,32,91,67,108,32,67,112,93,63,32,67,109,42]
theorem zEp:Pl1 105 (.string ⟨(yb24++[32]).toArray⟩) (.string ⟨yb24.toArray⟩):=zaa rfl (by kernel_rfl)
def yb25:List UInt8:=[91,80,111,32,80,114,93]
theorem zEo:Pl1 105 (.string ⟨(32::yb25).toArray⟩) (.string ⟨yb25.toArray⟩):=zaa rfl (by kernel_rfl)
theorem zEn:Pl1 103 (.string ⟨zgP.toArray⟩) (.string ⟨zgP.toArray⟩):=zaa rfl (by kernel_rfl)
theorem zEm:Pl1 104 (.string ⟨zgP.toArray⟩) (.int .i64 12):=zaa rfl (by kernel_rfl)
def yb26:List UInt8:=[91,80,111,32,80,114,93,32,67,109,42]
theorem zEl:Pl1 105 (.string ⟨(yb26++[32]).toArray⟩) (.string ⟨yb26.toArray⟩):=zaa rfl (by kernel_rfl)
def yb27:List UInt8:=[40,79,112,32,124,32,72,121,41,63,32,78,117]
theorem zEk:Pl1 105 (.string ⟨(32::yb27).toArray⟩) (.string ⟨yb27.toArray⟩):=zaa rfl (by kernel_rfl)
theorem zEj:Pl1 103 (.string ⟨zgO.toArray⟩) (.string ⟨zgO.toArray⟩):=zaa rfl (by kernel_rfl)
theorem zEi:Pl1 104 (.string ⟨zgO.toArray⟩) (.int .i64 18):=zaa rfl (by kernel_rfl)
def yb28:List UInt8:=[91,72,121,32,73,115,32,83,121,32,78,117,93,32,67,109,42]
theorem zEh:Pl1 105 (.string ⟨(yb28++[32]).toArray⟩) (.string ⟨yb28.toArray⟩):=zaa rfl (by kernel_rfl)
theorem zEg:Pl1 105 (.string ⟨#[32,78,117]⟩) (.string ⟨#[78,117]⟩):=zaa rfl (by kernel_rfl)
theorem zEf:Pl1 103 (.string ⟨zgN.toArray⟩) (.string ⟨zgN.toArray⟩):=zaa rfl (by kernel_rfl)
theorem zEe:Pl1 104 (.string ⟨zgN.toArray⟩) (.int .i64 10):=zaa rfl (by kernel_rfl)
theorem zEd:Pl1 105 (.string ⟨(zqL++[32]).toArray⟩) (.string ⟨zqL.toArray⟩):=zaa rfl (by kernel_rfl)
theorem zEc:Pl1 105 (.string ⟨zyi.toArray⟩) (.string ⟨#[79,116,104,101,114]⟩):=zaa rfl (by kernel_rfl)
theorem zEb:Pl1 103 (.string ⟨zgM.toArray⟩) (.string ⟨zgM.toArray⟩):=zaa rfl (by kernel_rfl)
theorem zEa:Pl1 104 (.string ⟨zgM.toArray⟩) (.int .i64 7):=zaa rfl (by kernel_rfl)
def yb29:List UInt8:=[73,115,32,67,109,42]
theorem zDZ:Pl1 105 (.string ⟨(yb29++[32]).toArray⟩) (.string ⟨yb29.toArray⟩):=zaa rfl (by kernel_rfl)
theorem zDY:Pl1 105 (.string ⟨zyi.toArray⟩) (.string ⟨#[79,116,104,101,114]⟩):=zaa rfl (by kernel_rfl)
theorem zDX:Pl1 103 (.string ⟨zgL.toArray⟩) (.string ⟨zgL.toArray⟩):=zaa rfl (by kernel_rfl)
theorem zDW:Pl1 104 (.string ⟨zgL.toArray⟩) (.int .i64 15):=zaa rfl (by kernel_rfl)
def yb30:List UInt8:=[91,79,116,104,101,114,32,78,117,93,32,67,109,42]
theorem zDV:Pl1 105 (.string ⟨(yb30++[32]).toArray⟩) (.string ⟨yb30.toArray⟩):=zaa rfl (by kernel_rfl)
theorem zDU:Pl1 105 (.string ⟨#[32,79,112]⟩) (.string ⟨#[79,112]⟩):=zaa rfl (by kernel_rfl)
theorem zDT:Pl1 103 (.string ⟨zgK.toArray⟩) (.string ⟨zgK.toArray⟩):=zaa rfl (by kernel_rfl)
theorem zDS:Pl1 104 (.string ⟨zgK.toArray⟩) (.int .i64 7):=zaa rfl (by kernel_rfl)
def yb31:List UInt8:=[67,112,32,67,109,42]
theorem zDR:Pl1 105 (.string ⟨(yb31++[32]).toArray⟩) (.string ⟨yb31.toArray⟩):=zaa rfl (by kernel_rfl)
def yb32:List UInt8:=[91,79,116,104,101,114,32,78,117,93]
theorem zDQ:Pl1 105 (.string ⟨(32::yb32).toArray⟩) (.string ⟨yb32.toArray⟩):=zaa rfl (by kernel_rfl)
theorem zDP:Pl1 103 (.string ⟨zgJ.toArray⟩) (.string ⟨zgJ.toArray⟩):=zaa rfl (by kernel_rfl)
theorem zDO:Pl1 104 (.string ⟨zgJ.toArray⟩) (.int .i64 30):=zaa rfl (by kernel_rfl)
def yb33:List UInt8:=[94,32,67,109,42,32,40,82,105,32,67,109,42,32,82,105,32,67,109,42,41,42,32,82,105,32,67,109,42]
theorem zDN:Pl1 105 (.string ⟨(yb33++[32]).toArray⟩) (.string ⟨yb33.toArray⟩):=zaa rfl (by kernel_rfl)
theorem zDM:Pl1 105 (.string ⟨#[32,82,105]⟩) (.string ⟨#[82,105]⟩):=zaa rfl (by kernel_rfl)
theorem zDL:Pl1 103 (.string ⟨zgI.toArray⟩) (.string ⟨zgI.toArray⟩):=zaa rfl (by kernel_rfl)
theorem zDK:Pl1 104 (.string ⟨zgI.toArray⟩) (.int .i64 37):=zaa rfl (by kernel_rfl)
def yb34:List UInt8:=[91,94,82,105,32,67,109,93,32,67,109,42,32,40,82,105,32,67,109,42,32,82,105,32,67,109,42,41,42,32,82,105,32,67,109,42]
theorem zDJ:Pl1 105 (.string ⟨(yb34++[32]).toArray⟩) (.string ⟨yb34.toArray⟩):=zaa rfl (by kernel_rfl)
theorem zDI:Pl1 105 (.string ⟨#[32,82,105]⟩) (.string ⟨#[82,105]⟩):=zaa rfl (by kernel_rfl)
theorem zDH:Pl1 103 (.string ⟨yb1.toArray⟩) (.string ⟨yb1.toArray⟩):=zaa rfl (by kernel_rfl)
theorem zDG:Pl1 104 (.string ⟨yb1.toArray⟩) (.int .i64 5):=zaa rfl (by kernel_rfl)
theorem zDF:Pl1 105 (.string ⟨#[114,101,115,116,32]⟩) (.string ⟨#[114,101,115,116]⟩):=zaa rfl (by kernel_rfl)
theorem zDE:Pl1 105 (.string ⟨#[]⟩) (.string ⟨#[]⟩):=zaa rfl (by kernel_rfl)
theorem zDD:Pl1 103 (.string ⟨#[]⟩) (.string ⟨#[]⟩):=zaa rfl (by kernel_rfl)
set_option maxRecDepth 100000 in
theorem zAP (g nc:Nat):∀(j:Nat) (s:List UInt8),zDC[j]? =some s->∀(B X:Nat) (vo:Option Addr) (n vc:Nat) (xs:List Value) (W:World),zdM B W X g nc zan vo n vc (zvz.take j) xs true (xe 35 j)->Calls Tryz.prog 72 #[.pointer (some ⟨X,0,none⟩),.string ⟨s.toArray⟩] W (LnQ B W X g nc zan (zvz.take (j+1)) true (xe 35 (j+1))):=fun j s hj=>match j,hj with
 | 0,hj=>by
  cases hj
  intro B X vo n vc xs W h;have hn:n<=60:=by rw[h.hn];exact xb (xa _ _) (by decide)
  exact zaj B X g nc zan vo n vc _ xs true W yb0 yb0 [67,114] [76,102] 3 false zDB zDz h hn lnL0a lnL0b (by decide) (by decide) (by decide) (by decide) (show Pl1 _ (.string ((⟨yb0.toArray⟩:ByteArray).extract 0 3)) _ from(show((⟨yb0.toArray⟩:ByteArray).extract 0 3)=⟨#[67,114,32]⟩ by rfl) ▸ lnL0c) (show Pl1 _ (.string ((⟨yb0.toArray⟩:ByteArray).extract 4 7)) _ from(show((⟨yb0.toArray⟩:ByteArray).extract 4 7)=⟨#[32,76,102]⟩ by rfl) ▸ lnL0d) (by decide) (by decide) (by decide) (fun W hN=>zqj g nc W hN) (fun W hN=>zqi g nc W hN)
 | 1,hj=>by
  cases hj
  intro B X vo n vc xs W h;have hn:n<=60:=by rw[h.hn];exact xb (xa _ _) (by decide)
  exact zaj B X g nc zan vo n vc _ xs true W zvH zvH yb2 [] 11 true zDx zct h hn lnL1a lnL1b (by decide) (by decide) (by decide) (by decide) (show Pl1 _ (.string ((⟨zvH.toArray⟩:ByteArray).extract 0 11)) _ from(show((⟨zvH.toArray⟩:ByteArray).extract 0 11)=⟨(yb2++[32]).toArray⟩ by rfl) ▸ lnL1c) (show Pl1 _ (.string ((⟨zvH.toArray⟩:ByteArray).extract 12 12)) _ from(show((⟨zvH.toArray⟩:ByteArray).extract 12 12)=⟨#[]⟩ by rfl) ▸ lnL1d) (by decide) (by decide) (by decide) (fun W hN=>zqh g nc W hN) (fun W hN=>zaF g nc W hN)
 | 2,hj=>by
  cases hj
  intro B X vo n vc xs W h;have hn:n<=60:=by rw[h.hn];exact xb (xa _ _) (by decide)
  exact zaj B X g nc zan vo n vc _ xs true W zvG zvG [] yb3 0 false zct zDu h hn lnL2a lnL2b (by decide) (by decide) (by decide) (by decide) (show Pl1 _ (.string ((⟨zvG.toArray⟩:ByteArray).extract 0 0)) _ from(show((⟨zvG.toArray⟩:ByteArray).extract 0 0)=⟨#[]⟩ by rfl) ▸ lnL2c) (show Pl1 _ (.string ((⟨zvG.toArray⟩:ByteArray).extract 1 18)) _ from(show((⟨zvG.toArray⟩:ByteArray).extract 1 18)=⟨(32::yb3).toArray⟩ by rfl) ▸ lnL2d) (by decide) (by decide) (by decide) (fun W hN=>zaF g nc W hN) (fun W hN=>zqe g nc W hN)
 | 3,hj=>by
  cases hj
  intro B X vo n vc xs W h;have hn:n<=60:=by rw[h.hn];exact xb (xa _ _) (by decide)
  exact zaj B X g nc zan vo n vc _ xs true W zvF zvF yb4 [] 7 true zDs zct h hn lnL3a lnL3b (by decide) (by decide) (by decide) (by decide) (show Pl1 _ (.string ((⟨zvF.toArray⟩:ByteArray).extract 0 7)) _ from(show((⟨zvF.toArray⟩:ByteArray).extract 0 7)=⟨(yb4++[32]).toArray⟩ by rfl) ▸ lnL3c) (show Pl1 _ (.string ((⟨zvF.toArray⟩:ByteArray).extract 8 8)) _ from(show((⟨zvF.toArray⟩:ByteArray).extract 8 8)=⟨#[]⟩ by rfl) ▸ lnL3d) (by decide) (by decide) (by decide) (fun W hN=>zqd g nc W hN) (fun W hN=>zaF g nc W hN)
 | 4,hj=>by
  cases hj
  intro B X vo n vc xs W h;have hn:n<=60:=by rw[h.hn];exact xb (xa _ _) (by decide)
  exact zaj B X g nc zan vo n vc _ xs true W zvE zvE yb5 [67,109] 18 false zDq zDo h hn lnL4a lnL4b (by decide) (by decide) (by decide) (by decide) (show Pl1 _ (.string ((⟨zvE.toArray⟩:ByteArray).extract 0 18)) _ from(show((⟨zvE.toArray⟩:ByteArray).extract 0 18)=⟨(yb5++[32]).toArray⟩ by rfl) ▸ lnL4c) (show Pl1 _ (.string ((⟨zvE.toArray⟩:ByteArray).extract 19 22)) _ from(show((⟨zvE.toArray⟩:ByteArray).extract 19 22)=⟨#[32,67,109]⟩ by rfl) ▸ lnL4d) (by decide) (by decide) (by decide) (fun W hN=>zqc g nc W hN) (fun W hN=>zqb g nc W hN)
 | 5,hj=>by
  cases hj
  intro B X vo n vc xs W h;have hn:n<=60:=by rw[h.hn];exact xb (xa _ _) (by decide)
  exact zaj B X g nc zan vo n vc _ xs true W [126,32,87,106] [126,32,87,106] [] [87,106] 0 false zct zDm h hn lnL5a lnL5b (by decide) (by decide) (by decide) (by decide) (show Pl1 _ (.string ((⟨#[126,32,87,106]⟩:ByteArray).extract 0 0)) _ from(show((⟨#[126,32,87,106]⟩:ByteArray).extract 0 0)=⟨#[]⟩ by rfl) ▸ lnL5c) (show Pl1 _ (.string ((⟨#[126,32,87,106]⟩:ByteArray).extract 1 4)) _ from(show((⟨#[126,32,87,106]⟩:ByteArray).extract 1 4)=⟨#[32,87,106]⟩ by rfl) ▸ lnL5d) (by decide) (by decide) (by decide) (fun W hN=>zaF g nc W hN) (fun W hN=>zqa g nc W hN)
 | 6,hj=>by
  cases hj
  intro B X vo n vc xs W h;have hn:n<=60:=by rw[h.hn];exact xb (xa _ _) (by decide)
  exact zaj B X g nc zan vo n vc _ xs true W zvD zvD yb6 [] 7 false zDk zct h hn lnL6a lnL6b (by decide) (by decide) (by decide) (by decide) (show Pl1 _ (.string ((⟨zvD.toArray⟩:ByteArray).extract 0 7)) _ from(show((⟨zvD.toArray⟩:ByteArray).extract 0 7)=⟨(yb6++[32]).toArray⟩ by rfl) ▸ lnL6c) (show Pl1 _ (.string ((⟨zvD.toArray⟩:ByteArray).extract 8 8)) _ from(show((⟨zvD.toArray⟩:ByteArray).extract 8 8)=⟨#[]⟩ by rfl) ▸ lnL6d) (by decide) (by decide) (by decide) (fun W hN=>zpZ g nc W hN) (fun W hN=>zaF g nc W hN)
 | 7,hj=>by
  cases hj
  intro B X vo n vc xs W h;have hn:n<=60:=by rw[h.hn];exact xb (xa _ _) (by decide)
  exact zaj B X g nc zan vo n vc _ xs true W zvC zvC yb7 [] 7 false ztF zct h hn lnL7a lnL7b (by decide) (by decide) (by decide) (by decide) (show Pl1 _ (.string ((⟨zvC.toArray⟩:ByteArray).extract 0 7)) _ from(show((⟨zvC.toArray⟩:ByteArray).extract 0 7)=⟨(yb7++[32]).toArray⟩ by rfl) ▸ lnL7c) (show Pl1 _ (.string ((⟨zvC.toArray⟩:ByteArray).extract 8 8)) _ from(show((⟨zvC.toArray⟩:ByteArray).extract 8 8)=⟨#[]⟩ by rfl) ▸ lnL7d) (by decide) (by decide) (by decide) (fun W hN=>zmM g nc W hN) (fun W hN=>zaF g nc W hN)
 | 8,hj=>by
  cases hj
  intro B X vo n vc xs W h;have hn:n<=60:=by rw[h.hn];exact xb (xa _ _) (by decide)
  exact zaj B X g nc zan vo n vc _ xs true W zvB zvB yb8 [71,108] 19 false ztD zkn h hn lnL8a lnL8b (by decide) (by decide) (by decide) (by decide) (show Pl1 _ (.string ((⟨zvB.toArray⟩:ByteArray).extract 0 19)) _ from(show((⟨zvB.toArray⟩:ByteArray).extract 0 19)=⟨(yb8++[32]).toArray⟩ by rfl) ▸ lnL8c) (show Pl1 _ (.string ((⟨zvB.toArray⟩:ByteArray).extract 20 23)) _ from(show((⟨zvB.toArray⟩:ByteArray).extract 20 23)=⟨#[32,71,108]⟩ by rfl) ▸ lnL8d) (by decide) (by decide) (by decide) (fun W hN=>zmL g nc W hN) (fun W hN=>zgg g nc W hN)
 | 9,hj=>by
  cases hj
  intro B X vo n vc xs W h;have hn:n<=60:=by rw[h.hn];exact xb (xa _ _) (by decide)
  exact zhx B X g nc zan vo n vc _ xs true W zvA zvA yb9 [71,108] 9 false zkm zkn h hn lnL9a lnL9b (by decide) (by decide) (by decide) (by decide) (show Pl1 _ (.string ((⟨zvA.toArray⟩:ByteArray).extract 0 9)) _ from(show((⟨zvA.toArray⟩:ByteArray).extract 0 9)=⟨(yb9++[32]).toArray⟩ by rfl) ▸ lnL9c) (show Pl1 _ (.string ((⟨zvA.toArray⟩:ByteArray).extract 10 13)) _ from(show((⟨zvA.toArray⟩:ByteArray).extract 10 13)=⟨#[32,71,108]⟩ by rfl) ▸ lnL9d) (by decide) (by decide) (by decide) (by decide) (fun W hN=>zmK g nc W hN) (fun W hN=>zgg g nc W hN)
 | 10,hj=>by
  cases hj
  intro B X vo n vc xs W h;have hn:n<=60:=by rw[h.hn];exact xb (xa _ _) (by decide)
  exact zaj B X g nc zan vo n vc _ xs true W zhd zhd [] yb10 0 false zct ztz h hn zFD zFC (by decide) (by decide) (by decide) (by decide) (show Pl1 _ (.string ((⟨zhd.toArray⟩:ByteArray).extract 0 0)) _ from(show((⟨zhd.toArray⟩:ByteArray).extract 0 0)=⟨#[]⟩ by rfl) ▸ zFB) (show Pl1 _ (.string ((⟨zhd.toArray⟩:ByteArray).extract 1 18)) _ from(show((⟨zhd.toArray⟩:ByteArray).extract 1 18)=⟨(32::yb10).toArray⟩ by rfl) ▸ zFA) (by decide) (by decide) (by decide) (fun W hN=>zaF g nc W hN) (fun W hN=>zmJ g nc W hN)
 | 11,hj=>by
  cases hj
  intro B X vo n vc xs W h;have hn:n<=60:=by rw[h.hn];exact xb (xa _ _) (by decide)
  exact zaj B X g nc zan vo n vc _ xs true W zhc zhc yb11 [] 11 false ztx zct h hn zFz zFy (by decide) (by decide) (by decide) (by decide) (show Pl1 _ (.string ((⟨zhc.toArray⟩:ByteArray).extract 0 11)) _ from(show((⟨zhc.toArray⟩:ByteArray).extract 0 11)=⟨(yb11++[32]).toArray⟩ by rfl) ▸ zFx) (show Pl1 _ (.string ((⟨zhc.toArray⟩:ByteArray).extract 12 12)) _ from(show((⟨zhc.toArray⟩:ByteArray).extract 12 12)=⟨#[]⟩ by rfl) ▸ zFw) (by decide) (by decide) (by decide) (fun W hN=>zmI g nc W hN) (fun W hN=>zaF g nc W hN)
 | 12,hj=>by
  cases hj
  intro B X vo n vc xs W h;have hn:n<=60:=by rw[h.hn];exact xb (xa _ _) (by decide)
  exact zaj B X g nc zan vo n vc _ xs true W zhb zhb yb12 [79,112] 11 false ztv zkl h hn zFv zFu (by decide) (by decide) (by decide) (by decide) (show Pl1 _ (.string ((⟨zhb.toArray⟩:ByteArray).extract 0 11)) _ from(show((⟨zhb.toArray⟩:ByteArray).extract 0 11)=⟨(yb12++[32]).toArray⟩ by rfl) ▸ zFt) (show Pl1 _ (.string ((⟨zhb.toArray⟩:ByteArray).extract 12 15)) _ from(show((⟨zhb.toArray⟩:ByteArray).extract 12 15)=⟨#[32,79,112]⟩ by rfl) ▸ zFs) (by decide) (by decide) (by decide) (fun W hN=>zmH g nc W hN) (fun W hN=>zgf g nc W hN)
 | 13,hj=>by
  cases hj
  intro B X vo n vc xs W h;have hn:n<=60:=by rw[h.hn];exact xb (xa _ _) (by decide)
  exact zaj B X g nc zan vo n vc _ xs true W zha zha yb13 [78,115] 16 false zts ztq h hn zFr zFq (by decide) (by decide) (by decide) (by decide) (show Pl1 _ (.string ((⟨zha.toArray⟩:ByteArray).extract 0 16)) _ from(show((⟨zha.toArray⟩:ByteArray).extract 0 16)=⟨(yb13++[32]).toArray⟩ by rfl) ▸ zFp) (show Pl1 _ (.string ((⟨zha.toArray⟩:ByteArray).extract 17 20)) _ from(show((⟨zha.toArray⟩:ByteArray).extract 17 20)=⟨#[32,78,115]⟩ by rfl) ▸ zFo) (by decide) (by decide) (by decide) (fun W hN=>zmG g nc W hN) (fun W hN=>zmF g nc W hN)
 | 14,hj=>by
  cases hj
  intro B X vo n vc xs W h;have hn:n<=60:=by rw[h.hn];exact xb (xa _ _) (by decide)
  exact zaj B X g nc zan vo n vc _ xs true W zgZ zgZ yb14 [68,97,115,104] 13 false zto ztm h hn zFn zFm (by decide) (by decide) (by decide) (by decide) (show Pl1 _ (.string ((⟨zgZ.toArray⟩:ByteArray).extract 0 13)) _ from(show((⟨zgZ.toArray⟩:ByteArray).extract 0 13)=⟨(yb14++[32]).toArray⟩ by rfl) ▸ zFl) (show Pl1 _ (.string ((⟨zgZ.toArray⟩:ByteArray).extract 14 19)) _ from(show((⟨zgZ.toArray⟩:ByteArray).extract 14 19)=⟨#[32,68,97,115,104]⟩ by rfl) ▸ zFk) (by decide) (by decide) (by decide) (fun W hN=>zmE g nc W hN) (fun W hN=>zmD g nc W hN)
 | 15,hj=>by
  cases hj
  intro B X vo n vc xs W h;have hn:n<=60:=by rw[h.hn];exact xb (xa _ _) (by decide)
  exact zaj B X g nc zan vo n vc _ xs true W [83,112,32,47] [83,112,32,47] [83,112] [] 3 true ztk zct h hn zFj zFi (by decide) (by decide) (by decide) (by decide) (show Pl1 _ (.string ((⟨#[83,112,32,47]⟩:ByteArray).extract 0 3)) _ from(show((⟨#[83,112,32,47]⟩:ByteArray).extract 0 3)=⟨#[83,112,32]⟩ by rfl) ▸ zFh) (show Pl1 _ (.string ((⟨#[83,112,32,47]⟩:ByteArray).extract 4 4)) _ from(show((⟨#[83,112,32,47]⟩:ByteArray).extract 4 4)=⟨#[]⟩ by rfl) ▸ zFg) (by decide) (by decide) (by decide) (fun W hN=>zmC g nc W hN) (fun W hN=>zaF g nc W hN)
 | 16,hj=>by
  cases hj
  intro B X vo n vc xs W h;have hn:n<=60:=by rw[h.hn];exact xb (xa _ _) (by decide)
  exact zaj B X g nc zan vo n vc _ xs true W [126,32,81,117] [126,32,81,117] [] [81,117] 0 false zct zti h hn zFf zFe (by decide) (by decide) (by decide) (by decide) (show Pl1 _ (.string ((⟨#[126,32,81,117]⟩:ByteArray).extract 0 0)) _ from(show((⟨#[126,32,81,117]⟩:ByteArray).extract 0 0)=⟨#[]⟩ by rfl) ▸ zFd) (show Pl1 _ (.string ((⟨#[126,32,81,117]⟩:ByteArray).extract 1 4)) _ from(show((⟨#[126,32,81,117]⟩:ByteArray).extract 1 4)=⟨#[32,81,117]⟩ by rfl) ▸ zFc) (by decide) (by decide) (by decide) (fun W hN=>zaF g nc W hN) (fun W hN=>zmB g nc W hN)
 | 17,hj=>by
  cases hj
  intro B X vo n vc xs W h;have hn:n<=60:=by rw[h.hn];exact xb (xa _ _) (by decide)
  exact zaj B X g nc zan vo n vc _ xs true W zgY zgY yb15 [] 7 false ztg zct h hn zFb zFa (by decide) (by decide) (by decide) (by decide) (show Pl1 _ (.string ((⟨zgY.toArray⟩:ByteArray).extract 0 7)) _ from(show((⟨zgY.toArray⟩:ByteArray).extract 0 7)=⟨(yb15++[32]).toArray⟩ by rfl) ▸ zEZ) (show Pl1 _ (.string ((⟨zgY.toArray⟩:ByteArray).extract 8 8)) _ from(show((⟨zgY.toArray⟩:ByteArray).extract 8 8)=⟨#[]⟩ by rfl) ▸ zEY) (by decide) (by decide) (by decide) (fun W hN=>zmA g nc W hN) (fun W hN=>zaF g nc W hN)
 | 18,hj=>by
  cases hj
  intro B X vo n vc xs W h;have hn:n<=60:=by rw[h.hn];exact xb (xa _ _) (by decide)
  exact zaj B X g nc zan vo n vc _ xs true W zgX zgX [] yb16 0 false zct zte h hn zEX zEW (by decide) (by decide) (by decide) (by decide) (show Pl1 _ (.string ((⟨zgX.toArray⟩:ByteArray).extract 0 0)) _ from(show((⟨zgX.toArray⟩:ByteArray).extract 0 0)=⟨#[]⟩ by rfl) ▸ zEV) (show Pl1 _ (.string ((⟨zgX.toArray⟩:ByteArray).extract 1 12)) _ from(show((⟨zgX.toArray⟩:ByteArray).extract 1 12)=⟨(32::yb16).toArray⟩ by rfl) ▸ zEU) (by decide) (by decide) (by decide) (fun W hN=>zaF g nc W hN) (fun W hN=>zmz g nc W hN)
 | 19,hj=>by
  cases hj
  intro B X vo n vc xs W h;have hn:n<=60:=by rw[h.hn];exact xb (xa _ _) (by decide)
  exact zaj B X g nc zan vo n vc _ xs true W [126,32,73,110] [126,32,73,110] [] [73,110] 0 false zct ztc h hn zET zES (by decide) (by decide) (by decide) (by decide) (show Pl1 _ (.string ((⟨#[126,32,73,110]⟩:ByteArray).extract 0 0)) _ from(show((⟨#[126,32,73,110]⟩:ByteArray).extract 0 0)=⟨#[]⟩ by rfl) ▸ zER) (show Pl1 _ (.string ((⟨#[126,32,73,110]⟩:ByteArray).extract 1 4)) _ from(show((⟨#[126,32,73,110]⟩:ByteArray).extract 1 4)=⟨#[32,73,110]⟩ by rfl) ▸ zEQ) (by decide) (by decide) (by decide) (fun W hN=>zaF g nc W hN) (fun W hN=>zmy g nc W hN)
 | 20,hj=>by
  cases hj
  intro B X vo n vc xs W h;have hn:n<=60:=by rw[h.hn];exact xb (xa _ _) (by decide)
  exact zaj B X g nc zan vo n vc _ xs true W zgW zgW zqL [78,117] 10 false zge zkk h hn zEP zEO (by decide) (by decide) (by decide) (by decide) (show Pl1 _ (.string ((⟨zgW.toArray⟩:ByteArray).extract 0 10)) _ from(show((⟨zgW.toArray⟩:ByteArray).extract 0 10)=⟨(zqL++[32]).toArray⟩ by rfl) ▸ zEN) (show Pl1 _ (.string ((⟨zgW.toArray⟩:ByteArray).extract 11 14)) _ from(show((⟨zgW.toArray⟩:ByteArray).extract 11 14)=⟨#[32,78,117]⟩ by rfl) ▸ zEM) (by decide) (by decide) (by decide) (fun W hN=>zdI g nc W hN) (fun W hN=>zgd g nc W hN)
 | 21,hj=>by
  cases hj
  intro B X vo n vc xs W h;have hn:n<=60:=by rw[h.hn];exact xb (xa _ _) (by decide)
  exact zaj B X g nc zan vo n vc _ xs true W zgV zgV yb18 [79,116,104,101,114] 7 false zsY zeb h hn zEL zEK (by decide) (by decide) (by decide) (by decide) (show Pl1 _ (.string ((⟨zgV.toArray⟩:ByteArray).extract 0 7)) _ from(show((⟨zgV.toArray⟩:ByteArray).extract 0 7)=⟨(yb18++[32]).toArray⟩ by rfl) ▸ zEJ) (show Pl1 _ (.string ((⟨zgV.toArray⟩:ByteArray).extract 8 14)) _ from(show((⟨zgV.toArray⟩:ByteArray).extract 8 14)=⟨zyi.toArray⟩ by rfl) ▸ zEI) (by decide) (by decide) (by decide) (fun W hN=>zmx g nc W hN) (fun W hN=>zcK g nc W hN)
 | 22,hj=>by
  cases hj
  intro B X vo n vc xs W h;have hn:n<=60:=by rw[h.hn];exact xb (xa _ _) (by decide)
  exact zaj B X g nc zan vo n vc _ xs true W zgU zgU yb20 [73,100] 7 false zsV zsT h hn zEH zEG (by decide) (by decide) (by decide) (by decide) (show Pl1 _ (.string ((⟨zgU.toArray⟩:ByteArray).extract 0 7)) _ from(show((⟨zgU.toArray⟩:ByteArray).extract 0 7)=⟨(yb20++[32]).toArray⟩ by rfl) ▸ zEF) (show Pl1 _ (.string ((⟨zgU.toArray⟩:ByteArray).extract 8 11)) _ from(show((⟨zgU.toArray⟩:ByteArray).extract 8 11)=⟨#[32,73,100]⟩ by rfl) ▸ zEE) (by decide) (by decide) (by decide) (fun W hN=>zmw g nc W hN) (fun W hN=>zmv g nc W hN)
 | 23,hj=>by
  cases hj
  intro B X vo n vc xs W h;have hn:n<=60:=by rw[h.hn];exact xb (xa _ _) (by decide)
  exact zaj B X g nc zan vo n vc _ xs true W zgT zgT yb21 [80,111] 7 false zsR zsP h hn zED zEC (by decide) (by decide) (by decide) (by decide) (show Pl1 _ (.string ((⟨zgT.toArray⟩:ByteArray).extract 0 7)) _ from(show((⟨zgT.toArray⟩:ByteArray).extract 0 7)=⟨(yb21++[32]).toArray⟩ by rfl) ▸ zEB) (show Pl1 _ (.string ((⟨zgT.toArray⟩:ByteArray).extract 8 11)) _ from(show((⟨zgT.toArray⟩:ByteArray).extract 8 11)=⟨#[32,80,111]⟩ by rfl) ▸ zEA) (by decide) (by decide) (by decide) (fun W hN=>zmu g nc W hN) (fun W hN=>zmt g nc W hN)
 | 24,hj=>by
  cases hj
  intro B X vo n vc xs W h;have hn:n<=60:=by rw[h.hn];exact xb (xa _ _) (by decide)
  exact zaj B X g nc zan vo n vc _ xs true W zgS zgS yb22 [79,116,104,101,114] 12 false zsN zeb h hn zEz zEy (by decide) (by decide) (by decide) (by decide) (show Pl1 _ (.string ((⟨zgS.toArray⟩:ByteArray).extract 0 12)) _ from(show((⟨zgS.toArray⟩:ByteArray).extract 0 12)=⟨(yb22++[32]).toArray⟩ by rfl) ▸ zEx) (show Pl1 _ (.string ((⟨zgS.toArray⟩:ByteArray).extract 13 19)) _ from(show((⟨zgS.toArray⟩:ByteArray).extract 13 19)=⟨zyi.toArray⟩ by rfl) ▸ zEw) (by decide) (by decide) (by decide) (fun W hN=>zms g nc W hN) (fun W hN=>zcK g nc W hN)
 | 25,hj=>by
  cases hj
  intro B X vo n vc xs W h;have hn:n<=60:=by rw[h.hn];exact xb (xa _ _) (by decide)
  exact zaj B X g nc zan vo n vc _ xs true W zgR zgR zqL yb23 10 false zge zsL h hn zEv zEu (by decide) (by decide) (by decide) (by decide) (show Pl1 _ (.string ((⟨zgR.toArray⟩:ByteArray).extract 0 10)) _ from(show((⟨zgR.toArray⟩:ByteArray).extract 0 10)=⟨(zqL++[32]).toArray⟩ by rfl) ▸ zEt) (show Pl1 _ (.string ((⟨zgR.toArray⟩:ByteArray).extract 11 19)) _ from(show((⟨zgR.toArray⟩:ByteArray).extract 11 19)=⟨(32::yb23).toArray⟩ by rfl) ▸ zEs) (by decide) (by decide) (by decide) (fun W hN=>zdI g nc W hN) (fun W hN=>zmr g nc W hN)
 | 26,hj=>by
  cases hj
  intro B X vo n vc xs W h;have hn:n<=60:=by rw[h.hn];exact xb (xa _ _) (by decide)
  exact zaj B X g nc zan vo n vc _ xs true W zgQ zgQ yb24 yb25 33 false zqg zsI h hn zEr zEq (by decide) (by decide) (by decide) (by decide) (show Pl1 _ (.string ((⟨zgQ.toArray⟩:ByteArray).extract 0 33)) _ from(show((⟨zgQ.toArray⟩:ByteArray).extract 0 33)=⟨(yb24++[32]).toArray⟩ by rfl) ▸ zEp) (show Pl1 _ (.string ((⟨zgQ.toArray⟩:ByteArray).extract 34 42)) _ from(show((⟨zgQ.toArray⟩:ByteArray).extract 34 42)=⟨(32::yb25).toArray⟩ by rfl) ▸ zEo) (by decide) (by decide) (by decide) (fun W hN=>zmq g nc W hN) (fun W hN=>zmp g nc W hN)
 | 27,hj=>by
  cases hj
  intro B X vo n vc xs W h;have hn:n<=60:=by rw[h.hn];exact xb (xa _ _) (by decide)
  exact zaj B X g nc zan vo n vc _ xs true W zgP zgP yb26 yb27 12 false zsG zmn h hn zEn zEm (by decide) (by decide) (by decide) (by decide) (show Pl1 _ (.string ((⟨zgP.toArray⟩:ByteArray).extract 0 12)) _ from(show((⟨zgP.toArray⟩:ByteArray).extract 0 12)=⟨(yb26++[32]).toArray⟩ by rfl) ▸ zEl) (show Pl1 _ (.string ((⟨zgP.toArray⟩:ByteArray).extract 13 27)) _ from(show((⟨zgP.toArray⟩:ByteArray).extract 13 27)=⟨(32::yb27).toArray⟩ by rfl) ▸ zEk) (by decide) (by decide) (by decide) (fun W hN=>zmo g nc W hN) (fun W hN=>zmm g nc W hN)
 | 28,hj=>by
  cases hj
  intro B X vo n vc xs W h;have hn:n<=60:=by rw[h.hn];exact xb (xa _ _) (by decide)
  exact zaj B X g nc zan vo n vc _ xs true W zgO zgO yb28 [78,117] 18 false zsD zkk h hn zEj zEi (by decide) (by decide) (by decide) (by decide) (show Pl1 _ (.string ((⟨zgO.toArray⟩:ByteArray).extract 0 18)) _ from(show((⟨zgO.toArray⟩:ByteArray).extract 0 18)=⟨(yb28++[32]).toArray⟩ by rfl) ▸ zEh) (show Pl1 _ (.string ((⟨zgO.toArray⟩:ByteArray).extract 19 22)) _ from(show((⟨zgO.toArray⟩:ByteArray).extract 19 22)=⟨#[32,78,117]⟩ by rfl) ▸ zEg) (by decide) (by decide) (by decide) (fun W hN=>zml g nc W hN) (fun W hN=>zgd g nc W hN)
 | 29,hj=>by
  cases hj
  intro B X vo n vc xs W h;have hn:n<=60:=by rw[h.hn];exact xb (xa _ _) (by decide)
  exact zaj B X g nc zan vo n vc _ xs true W zgN zgN zqL [79,116,104,101,114] 10 false zge zeb h hn zEf zEe (by decide) (by decide) (by decide) (by decide) (show Pl1 _ (.string ((⟨zgN.toArray⟩:ByteArray).extract 0 10)) _ from(show((⟨zgN.toArray⟩:ByteArray).extract 0 10)=⟨(zqL++[32]).toArray⟩ by rfl) ▸ zEd) (show Pl1 _ (.string ((⟨zgN.toArray⟩:ByteArray).extract 11 17)) _ from(show((⟨zgN.toArray⟩:ByteArray).extract 11 17)=⟨zyi.toArray⟩ by rfl) ▸ zEc) (by decide) (by decide) (by decide) (fun W hN=>zdI g nc W hN) (fun W hN=>zcK g nc W hN)
 | 30,hj=>by
  cases hj
  intro B X vo n vc xs W h;have hn:n<=60:=by rw[h.hn];exact xb (xa _ _) (by decide)
  exact zaj B X g nc zan vo n vc _ xs true W zgM zgM yb29 [79,116,104,101,114] 7 false zsB zeb h hn zEb zEa (by decide) (by decide) (by decide) (by decide) (show Pl1 _ (.string ((⟨zgM.toArray⟩:ByteArray).extract 0 7)) _ from(show((⟨zgM.toArray⟩:ByteArray).extract 0 7)=⟨(yb29++[32]).toArray⟩ by rfl) ▸ zDZ) (show Pl1 _ (.string ((⟨zgM.toArray⟩:ByteArray).extract 8 14)) _ from(show((⟨zgM.toArray⟩:ByteArray).extract 8 14)=⟨zyi.toArray⟩ by rfl) ▸ zDY) (by decide) (by decide) (by decide) (fun W hN=>zmk g nc W hN) (fun W hN=>zcK g nc W hN)
 | 31,hj=>by
  cases hj
  intro B X vo n vc xs W h;have hn:n<=60:=by rw[h.hn];exact xb (xa _ _) (by decide)
  exact zaj B X g nc zan vo n vc _ xs true W zgL zgL yb30 [79,112] 15 false zsz zkl h hn zDX zDW (by decide) (by decide) (by decide) (by decide) (show Pl1 _ (.string ((⟨zgL.toArray⟩:ByteArray).extract 0 15)) _ from(show((⟨zgL.toArray⟩:ByteArray).extract 0 15)=⟨(yb30++[32]).toArray⟩ by rfl) ▸ zDV) (show Pl1 _ (.string ((⟨zgL.toArray⟩:ByteArray).extract 16 19)) _ from(show((⟨zgL.toArray⟩:ByteArray).extract 16 19)=⟨#[32,79,112]⟩ by rfl) ▸ zDU) (by decide) (by decide) (by decide) (fun W hN=>zmj g nc W hN) (fun W hN=>zgf g nc W hN)
 | 32,hj=>by
  cases hj
  intro B X vo n vc xs W h;have hn:n<=60:=by rw[h.hn];exact xb (xa _ _) (by decide)
  exact zaj B X g nc zan vo n vc _ xs true W zgK zgK yb31 yb32 7 false zsx zsv h hn zDT zDS (by decide) (by decide) (by decide) (by decide) (show Pl1 _ (.string ((⟨zgK.toArray⟩:ByteArray).extract 0 7)) _ from(show((⟨zgK.toArray⟩:ByteArray).extract 0 7)=⟨(yb31++[32]).toArray⟩ by rfl) ▸ zDR) (show Pl1 _ (.string ((⟨zgK.toArray⟩:ByteArray).extract 8 19)) _ from(show((⟨zgK.toArray⟩:ByteArray).extract 8 19)=⟨(32::yb32).toArray⟩ by rfl) ▸ zDQ) (by decide) (by decide) (by decide) (fun W hN=>zmi g nc W hN) (fun W hN=>zmh g nc W hN)
 | 33,hj=>by
  cases hj
  intro B X vo n vc xs W h;have hn:n<=60:=by rw[h.hn];exact xb (xa _ _) (by decide)
  exact zhx B X g nc zan vo n vc _ xs true W zgJ zgJ yb33 [82,105] 30 false zqf zkj h hn zDP zDO (by decide) (by decide) (by decide) (by decide) (show Pl1 _ (.string ((⟨zgJ.toArray⟩:ByteArray).extract 0 30)) _ from(show((⟨zgJ.toArray⟩:ByteArray).extract 0 30)=⟨(yb33++[32]).toArray⟩ by rfl) ▸ zDN) (show Pl1 _ (.string ((⟨zgJ.toArray⟩:ByteArray).extract 31 34)) _ from(show((⟨zgJ.toArray⟩:ByteArray).extract 31 34)=⟨#[32,82,105]⟩ by rfl) ▸ zDM) (by decide) (by decide) (by decide) (by decide) (fun W hN=>zmg g nc W hN) (fun W hN=>zgc g nc W hN)
 | 34,hj=>by
  cases hj
  intro B X vo n vc xs W h;have hn:n<=60:=by rw[h.hn];exact xb (xa _ _) (by decide)
  exact zaj B X g nc zan vo n vc _ xs true W zgI zgI yb34 [82,105] 37 false zmf zkj h hn zDL zDK (by decide) (by decide) (by decide) (by decide) (show Pl1 _ (.string ((⟨zgI.toArray⟩:ByteArray).extract 0 37)) _ from(show((⟨zgI.toArray⟩:ByteArray).extract 0 37)=⟨(yb34++[32]).toArray⟩ by rfl) ▸ zDJ) (show Pl1 _ (.string ((⟨zgI.toArray⟩:ByteArray).extract 38 41)) _ from(show((⟨zgI.toArray⟩:ByteArray).extract 38 41)=⟨#[32,82,105]⟩ by rfl) ▸ zDI) (by decide) (by decide) (by decide) (fun W hN=>zme g nc W hN) (fun W hN=>zgc g nc W hN)
 | 35,hj=>by
  cases hj
  intro B X vo n vc xs W h;exact ztK B X g nc zan vo n vc _ xs true W yb1 yb1 5 true h zDH zDG (by decide) (by decide) (by decide) (show Pl1 _ (.string ((⟨yb1.toArray⟩:ByteArray).extract 0 5)) _ from(show((⟨yb1.toArray⟩:ByteArray).extract 0 5)=⟨#[114,101,115,116,32]⟩ by rfl) ▸ zDF) (show Pl1 _ (.string ((⟨yb1.toArray⟩:ByteArray).extract 6 6)) _ from(show((⟨yb1.toArray⟩:ByteArray).extract 6 6)=⟨#[]⟩ by rfl) ▸ zDE)
 | 36,hj=>by
  cases hj
  exact fun B X vo n vc xs W h=>zqk B X g nc zan vo n vc _ xs _ _ W [] h zDD
 | j+37,hj=>by
  have:=(List.getElem?_eq_some_iff.1 hj).1;exact absurd this (by simp[zDC])
theorem zwF (g nc:Nat) (w:World) (hN:zbb w g nc zan):Calls Tryz.prog 45 #[.string ⟨lnRt.toArray⟩,.slice (some ⟨g,0,none⟩) 26 nc] w (PrQ g w zvz true):=by
 have h:=zpN lnRt (xd (by kernel_rfl)) zan g nc zDC (fun j=>zvz.take j) (fun j=>true) (fun j=>(xe 35 j)) w hN (by decide) rfl rfl rfl (fun W hW=>zwz (zeX zbV (fun _ hc=>zda mixed zbV hc) 60) zae zot g nc W hW) (fun W=>ztJ lnRt zDC zwQ (xd (by kernel_rfl)) W) (zAP g nc)
 exact h
end Pt
end
end Go.Proofs.YtbbapnpdfcgjnaaGreatDoor
