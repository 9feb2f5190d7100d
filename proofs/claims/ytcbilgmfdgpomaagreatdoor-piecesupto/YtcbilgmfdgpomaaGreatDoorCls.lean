import Derived.Test.YtcbilgmfdgpomaaGreatDoorQ05
set_option linter.all false
open Option renaming some → E
open Bool renaming false → o9
open Go.Obj renaming cells → jf
namespace Go.Proofs.YtcbilgmfdgpomaaGreatDoor
section
variable {W:World} {g:Nat} {cs:iB} {t:TypeId} {X:Nat×Nat} {a b c d e f i j:Value} {l:iC}
def Te(h:W.1[g]?=E (jf cs t X))(k):W.cell? (iK g k)=cs.toList[k]?:=by simp[cell_of_row W g k cs t X h]
def Ab4(h:W.1[g]?=E (jf cs t X))(r:cs.toList=a::b::l):W.cell? (iJ g)=E a/\W.cell? (iK g 1)=E b:=by simp[Te h,r]
def Jn(h:W.1[g]?=E (jf cs t X))(r:cs.toList=a::b::c::l):W.cell? (iJ g)=E a/\W.cell? (iK g 1)=E b/\W.cell? (iK g 2)=E c:=by simp[Te h,r]
def Ake(h:W.1[g]?=E (jf cs t X))(r:cs.toList=a::b::c::d::l):W.cell? (iJ g)=E a/\W.cell? (iK g 1)=E b/\W.cell? (iK g 2)=E c/\W.cell? (iK g 3)=E d:=by simp[Te h,r]
def Wd(h:W.1[g]?=E (jf cs t X))(r:cs.toList=a::b::c::d::e::l):W.cell? (iJ g)=E a/\W.cell? (iK g 1)=E b/\W.cell? (iK g 2)=E c/\W.cell? (iK g 3)=E d/\W.cell? (iK g 4)=E e:=by simp[Te h,r]
def My(h:W.1[g]?=E (jf cs t X))(r:cs.toList=a::b::c::d::e::f::l):W.cell? (iJ g)=E a/\W.cell? (iK g 1)=E b/\W.cell? (iK g 2)=E c/\W.cell? (iK g 3)=E d/\W.cell? (iK g 4)=E e/\W.cell? (iK g 5)=E f:=by simp[Te h,r]
def P9(h:W.1[g]?=E (jf cs t X))(r:cs.toList=a::b::c::d::e::f::i::l):W.cell? (iJ g)=E a/\W.cell? (iK g 1)=E b/\W.cell? (iK g 2)=E c/\W.cell? (iK g 3)=E d/\W.cell? (iK g 4)=E e/\W.cell? (iK g 5)=E f/\W.cell? (iK g 6)=E i:=by simp[Te h,r]
def XC(h:W.1[g]?=E (jf cs t X))(r:cs.toList=a::b::c::d::e::f::i::j::l):W.cell? (iJ g)=E a/\W.cell? (iK g 1)=E b/\W.cell? (iK g 2)=E c/\W.cell? (iK g 3)=E d/\W.cell? (iK g 4)=E e/\W.cell? (iK g 5)=E f/\W.cell? (iK g 6)=E i/\W.cell? (iK g 7)=E j:=by simp[Te h,r]
def Iv(h:W.1[g]?=E (jf cs t (0,0))):W.frozen? (iJ g)=o9/\W.frozen? (iK g 1)=o9/\W.frozen? (iK g 2)=o9/\W.frozen? (iK g 3)=o9/\W.frozen? (iK g 4)=o9/\W.frozen? (iK g 5)=o9/\W.frozen? (iK g 6)=o9/\W.frozen? (iK g 7)=o9:=by simp[Dr h]
