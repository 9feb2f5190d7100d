import Derived.Test.YtnepogbkiocdhaaGreatDoorQ05
set_option linter.all false
open Option renaming some->I,none->zt
open Bool renaming false->vy
open Go.Obj renaming cells->pf
open Go renaming iR->E
open Go
namespace Go.Proofs.Y
section
variable {W:World} {g:Nat} {cs:iJ} {t:TypeId} {X:Nat×Nat} {a b c d e f i j:Value} {l:iK}
def Ul(h:W.1[g]?=I (pf cs t X))(k):W.cell? (E g k)=cs.toList[k]?:=by simp[cell_of_row W g k cs t X h]
def Aek(h:W.1[g]?=I (pf cs t X))(r:cs.toList=a::b::l):W.cell? (iQ g)=I a/\W.cell? (E g 1)=I b:=by simp[Ul h,r]
def Kg(h:W.1[g]?=I (pf cs t X))(r:cs.toList=a::b::c::l):W.cell? (iQ g)=I a/\W.cell? (E g 1)=I b/\W.cell? (E g 2)=I c:=by simp[Ul h,r]
def Am2(h:W.1[g]?=I (pf cs t X))(r:cs.toList=a::b::c::d::l):W.cell? (iQ g)=I a/\W.cell? (E g 1)=I b/\W.cell? (E g 2)=I c/\W.cell? (E g 3)=I d:=by simp[Ul h,r]
def Un(h:W.1[g]?=I (pf cs t X))(r:cs.toList=a::b::c::d::e::l):W.cell? (iQ g)=I a/\W.cell? (E g 1)=I b/\W.cell? (E g 2)=I c/\W.cell? (E g 3)=I d/\W.cell? (E g 4)=I e:=by simp[Ul h,r]
def Lj(h:W.1[g]?=I (pf cs t X))(r:cs.toList=a::b::c::d::e::f::l):W.cell? (iQ g)=I a/\W.cell? (E g 1)=I b/\W.cell? (E g 2)=I c/\W.cell? (E g 3)=I d/\W.cell? (E g 4)=I e/\W.cell? (E g 5)=I f:=by simp[Ul h,r]
def Z9(h:W.1[g]?=I (pf cs t X))(r:cs.toList=a::b::c::d::e::f::i::l):W.cell? (iQ g)=I a/\W.cell? (E g 1)=I b/\W.cell? (E g 2)=I c/\W.cell? (E g 3)=I d/\W.cell? (E g 4)=I e/\W.cell? (E g 5)=I f/\W.cell? (E g 6)=I i:=by simp[Ul h,r]
def FN(h:W.1[g]?=I (pf cs t X))(r:cs.toList=a::b::c::d::e::f::i::j::l):W.cell? (iQ g)=I a/\W.cell? (E g 1)=I b/\W.cell? (E g 2)=I c/\W.cell? (E g 3)=I d/\W.cell? (E g 4)=I e/\W.cell? (E g 5)=I f/\W.cell? (E g 6)=I i/\W.cell? (E g 7)=I j:=by simp[Ul h,r]
def It(h:W.1[g]?=I (pf cs t (0,0))):W.frozen? (iQ g)=vy/\W.frozen? (E g 1)=vy/\W.frozen? (E g 2)=vy/\W.frozen? (E g 3)=vy/\W.frozen? (E g 4)=vy/\W.frozen? (E g 5)=vy/\W.frozen? (E g 6)=vy/\W.frozen? (E g 7)=vy:=by simp[Ej h]
end
end Go.Proofs.Y
