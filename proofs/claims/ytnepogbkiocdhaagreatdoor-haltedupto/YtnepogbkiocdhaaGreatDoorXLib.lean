import Derived.Test.YtnepogbkiocdhaaGreatDoorBase
import Derived.Test.YtnepogbkiocdhaaGreatDoorProg
import Derived.Conc.WgLib
set_option linter.all false
open Go
open Go.Proofs.Tryz
namespace Go.Proofs
abbrev Tryz.link:Go.Conc.Lib.WgLink:={ add:=58,done:=60,wait:=62,relMerge:=91,disable:=92,enable:=93,inBubble:=94,associate:=95,fatal:=96,uOr:=97,uAdd:=98,raceRead:=99,uLoad:=100,uStore:=101,disassociate:=102,semrelease:=103,acquire:=107,isAssociated:=108,uCas:=109,raceWrite:=110,semacquire:=111,orU64:=149,addU64:=150,loadU64:=151,storeU64:=152,casU64:=154,tWgP:=154,tUP:=156,tAssoc:=157,tWg:=125,tAU:=122,tU64:=120,tUint:=75,tU32:=123,tPU32:=161,tPAU:=217,tPU64:=219,tNoCopy:=117,tANoCopy:=118,tAlign64:=119 }
def Tryz.wgLib:Go.Conc.Lib.WgLib prog Tryz.link:=
 ⟨func58,func60,func62,func91,func92,func93,func94,func95,func96,func97,func98,func99,func100,func101,func102,func103,func107,func108,func109,func110,func111,func149,func150,func151,func152,func154,underlying154,runUnderlying154,sizeOf154,isAgg154,zeroValue154,underlying156,runUnderlying156,sizeOf156,isAgg156,zeroValue156,underlying157,runUnderlying157,sizeOf157,isAgg157,zeroValue157,underlying125,runUnderlying125,sizeOf125,isAgg125,zeroValue125,underlying122,runUnderlying122,sizeOf122,isAgg122,zeroValue122,underlying120,runUnderlying120,sizeOf120,isAgg120,zeroValue120,underlying75,runUnderlying75,sizeOf75,isAgg75,zeroValue75,underlying123,runUnderlying123,sizeOf123,isAgg123,zeroValue123,underlying161,runUnderlying161,sizeOf161,isAgg161,zeroValue161,underlying217,runUnderlying217,sizeOf217,isAgg217,zeroValue217,underlying219,runUnderlying219,sizeOf219,isAgg219,zeroValue219,underlying0,runUnderlying0,sizeOf0,isAgg0,zeroValue0,underlying3,runUnderlying3,sizeOf3,isAgg3,zeroValue3,underlying4,runUnderlying4,sizeOf4,isAgg4,zeroValue4,underlying9,runUnderlying9,sizeOf9,isAgg9,zeroValue9,underlying20,runUnderlying20,sizeOf20,isAgg20,zeroValue20,underlying21,runUnderlying21,sizeOf21,isAgg21,zeroValue21,Ab,Ab⟩
end Go.Proofs
