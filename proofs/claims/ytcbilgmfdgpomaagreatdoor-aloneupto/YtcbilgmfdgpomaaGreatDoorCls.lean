import Derived.Test.YtcbilgmfdgpomaaGreatDoorQ05
set_option linter.all false
open Option renaming some → E,none → jh
open Bool renaming false → sd
open Go.Obj renaming cells → oh
namespace Go.Proofs.YtcbilgmfdgpomaaGreatDoor
section
variable {W:World} {g:Nat} {cs:gY} {t:TypeId} {X:Nat×Nat} {a b c d e f i j:Value} {l:gZ}
def Sj(h:W.1[g]?=E (oh cs t X))(k):W.cell? (iD g k)=cs.toList[k]?:=by simp[cell_of_row W g k cs t X h]
def Abz(h:W.1[g]?=E (oh cs t X))(r:cs.toList=a::b::l):W.cell? (iC g)=E a/\W.cell? (iD g 1)=E b:=by simp[Sj h,r]
def Jh(h:W.1[g]?=E (oh cs t X))(r:cs.toList=a::b::c::l):W.cell? (iC g)=E a/\W.cell? (iD g 1)=E b/\W.cell? (iD g 2)=E c:=by simp[Sj h,r]
def Aj8(h:W.1[g]?=E (oh cs t X))(r:cs.toList=a::b::c::d::l):W.cell? (iC g)=E a/\W.cell? (iD g 1)=E b/\W.cell? (iD g 2)=E c/\W.cell? (iD g 3)=E d:=by simp[Sj h,r]
def T0(h:W.1[g]?=E (oh cs t X))(r:cs.toList=a::b::c::d::e::l):W.cell? (iC g)=E a/\W.cell? (iD g 1)=E b/\W.cell? (iD g 2)=E c/\W.cell? (iD g 3)=E d/\W.cell? (iD g 4)=E e:=by simp[Sj h,r]
def N4(h:W.1[g]?=E (oh cs t X))(r:cs.toList=a::b::c::d::e::f::l):W.cell? (iC g)=E a/\W.cell? (iD g 1)=E b/\W.cell? (iD g 2)=E c/\W.cell? (iD g 3)=E d/\W.cell? (iD g 4)=E e/\W.cell? (iD g 5)=E f:=by simp[Sj h,r]
def M4(h:W.1[g]?=E (oh cs t X))(r:cs.toList=a::b::c::d::e::f::i::l):W.cell? (iC g)=E a/\W.cell? (iD g 1)=E b/\W.cell? (iD g 2)=E c/\W.cell? (iD g 3)=E d/\W.cell? (iD g 4)=E e/\W.cell? (iD g 5)=E f/\W.cell? (iD g 6)=E i:=by simp[Sj h,r]
def XB(h:W.1[g]?=E (oh cs t X))(r:cs.toList=a::b::c::d::e::f::i::j::l):W.cell? (iC g)=E a/\W.cell? (iD g 1)=E b/\W.cell? (iD g 2)=E c/\W.cell? (iD g 3)=E d/\W.cell? (iD g 4)=E e/\W.cell? (iD g 5)=E f/\W.cell? (iD g 6)=E i/\W.cell? (iD g 7)=E j:=by simp[Sj h,r]
def Gu(h:W.1[g]?=E (oh cs t (0,0))):W.frozen? (iC g)=sd/\W.frozen? (iD g 1)=sd/\W.frozen? (iD g 2)=sd/\W.frozen? (iD g 3)=sd/\W.frozen? (iD g 4)=sd/\W.frozen? (iD g 5)=sd/\W.frozen? (iD g 6)=sd/\W.frozen? (iD g 7)=sd:=by simp[Dm h]
end
end Go.Proofs.YtcbilgmfdgpomaaGreatDoor
