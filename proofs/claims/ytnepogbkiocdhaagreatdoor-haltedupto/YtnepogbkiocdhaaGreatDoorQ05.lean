import Derived.Test.YtnepogbkiocdhaaGreatDoorBase
import Derived.Test.YtnepogbkiocdhaaGreatDoorProg
import Derived.WalkSpells
import Derived.WalkLawsBesides
import Derived.Handy
import Derived.Deep.Light
import Derived.Lib.Strings
import Derived.Deep.AppendLies
import Derived.Deep.RegionWith
open Array renaming size->iZ,size->Y
set_option maxHeartbeats 400000
set_option linter.all false
open Option renaming some->je,none->zt
open Go renaming World->qi,Value->p8,Calls->yf,heap_alloc_new->iy,Value->z,World->r,Calls->L
open ByteArray renaming empty->lp
open Go.Proofs.Tryz renaming prog->ow,ntmps155->qv,ntmps215->ig,func155->sk,func215->vh,prog->m
open Go.RowKit renaming Below->jg
open UInt8 renaming ofNat->lh,toNat_ofNat'->kh
open Go.RowKit.Below renaming heap_alloc->np,refl->zi
open Bool renaming false->vy
open Int renaming add_mul_ediv_right->y8
open List renaming take_succ_cons->zb,length->iY,length->T
open Prod renaming fst->jw
open Go.Value renaming int->wy,string->zx,slice->xh,bool->o0
open Go.IntKind renaming i64->yh,u8->ry
open Go.Ending renaming returned->ia
open Go renaming iE->y,Aa->R,iS->O,iW->U,iR->Z,iT->E,Ae->M,aL->u
open Go
open Go.Proofs.Tryz
variable {B W w:r}{F:iI}{I b g j k off:Nat}{N S:iG}{a:Type}{cs:iJ}{o:iD}{p q:Prop}{v:z}
def Zk5(k:q)(h:Hd q->p:=by
 intro kz;have L:pre = []:=by
  have:=Q [];simp only[V.l,aR,takeE,bL,aU,dE]at this;exact this.2
 revert L;exact kz.1):p:=h ⟨k⟩
def Qsy(k:q)(h:Hd q->p:=by
 intro kz;have m:=M 1 _ iW;have o:=M 2 _ iW;have N:=M 3 _ iW;have q:=M 4 _ iW;have r:=M 5 _ iW;revert m o N q r;exact kz.1):p:=h ⟨k⟩
def R9j(k:q)(h:Hd q->p:=by
 intro kz;have b:Hid (H.ownsRow c 5 1 U (X++(Orch.be n a).take (a - m)).length (A4 (X++(Orch.be n a).take (a - m)))):=by
  show World.ownsRow _ _ _ _ _ _ _;rw[HT.out,Gz];rw[HB.out]at J;simpa[A4] using J
 revert b;exact kz.1):p:=h ⟨k⟩
def P32(k:q)(h:Hd q->p:=by
 intro kz;have d:(X++(Orch.be n a).take (a - (m+1))).length<=100008:=by
  rw[aH,dI,Orch.be_length];omega
 have HT:Hid (X++(Orch.be n a).take (a - m)=(X++(Orch.be n a).take (a - (m+1)))++[UInt8.ofNat ((n / 256 ^ m) % 256).toNat]):=by
  show _=_;rw[XO n m a a1,bY]
 revert d HT;exact kz.1):p:=h ⟨k⟩
def Tyc(h:p:=by
 go_wp2;go_roundw
 case rel=>exact⟨m,Aa,by go_num,b,V⟩
 case measure=>first|(simp[intOf];done)|(simp[intOf];omega)):p:=h
def H00(h:p:=by
 rw[(gM Aa),show l.length - n=0 by omega];exact⟨b,off,0,iW,aA _,Y,λi V=>by simp at V⟩):p:=h
def Bi0(h:p:=by
 go_wp2;go_ret;have e:(Orch.be n a).take (a - 0)=Orch.be n a:=by rw[bE JN]
 have C:=O.out;rw[e]at C;exact⟨_,iW,C,x.out⟩):p:=h
def O1v(h:p:=by
 have D:Hid _:=Z;generalize E:p.ps.length=a at *;go_enter Tryz.func203,Tryz.ntmps203;go_wp2;exact bodyPost_ret (by simp[results,Tryz.results203,go_sem]) iW ⟨_,iW,D.out,E5 _ _ _⟩):p:=h
def K0s(h:p:=by
 induction h with
 |nil a c=>exact .nil a c
 |row e g I F C H M Y O=>
  exact .row e g I F C (d g H) (λj u r=>by rw[World.cell?_of_block (w:=w) (a:=⟨g,j,none⟩) (W g H)];exact M j u r) (λp Q=>O p Q)):p:=h
def Qdm(h:p:=by
 rw[b];have z:Hid _:=b;go_enter Tryz.func202,Tryz.ntmps202;go_wp2
 all_goals go_ret
 all_goals refine⟨Ib ?_,Pw _ _ _ _⟩
 all_goals rw[←z.out]
 all_goals clear z
 all_goals go_light
 all_goals try simp only[toList_nil]at *
 all_goals grind):p:=h
namespace Orch
structure Lt where
 sign:UInt8
 shape:Nat
 size:Nat
 least:Int
 most:Int
 text:Bool
 fin:UInt8
instance:Inhabited Lt:=⟨⟨0,0,0,0,0,vy,0⟩⟩
def letters:List Lt:=
 [⟨63,0,1,0,1,vy,0⟩,⟨52,0,4,-2147483648,2147483647,vy,0⟩,⟨56,0,8,-9223372036854775808,9223372036854775807,vy,0⟩,
  ⟨98,1,0,0,0,vy,0⟩,⟨116,1,0,0,0,true,0⟩,⟨91,2,0,0,0,vy,93⟩,⟨40,3,0,0,0,vy,41⟩]
def find(c:UInt8):Option Lt:=letters.find? λl=>l.sign==c
inductive Ty where
 |mk (l:Lt) (ps:List Ty)
instance:Inhabited Ty:=⟨.mk default []⟩
def Ty.l:Ty->Lt|.mk l _=>l
def Ty.ps:Ty->List Ty|.mk _ ps=>ps
inductive V where
 |mk (n:Int) (s:iF) (l:List V)
def V.n:V->Int|.mk n _ _=>n
def V.s:V->iF|.mk _ s _=>s
def V.l:V->List V|.mk _ _ l=>l
def part(t:Ty)(i:Nat):Ty:=if t.l.shape=2 then t.ps.getD 0 default else t.ps.getD i default
def parts(f:y->Option (Ty×y))(l:Lt):Nat->y->List Ty->Option (List Ty×y)
 |0,_,_=>zt
 |_+1,[],_=>zt
 |n+1,c::r,acc=>
  if c=l.fin then(if T acc=0∨l.shape=2/\1<T acc then zt else je (acc,r))
  else match f (c::r) with
   |none=>zt
   |some (t,rest)=>parts f l n rest (acc++[t])
def ptype:Nat->y->Option (Ty×y)
 |0,_=>zt
 |_+1,[]=>zt
 |k+1,c::r=>match find c with
  |none=>zt
  |some l=>if l.fin=0 then je (.mk l [],r) else match parts (ptype k) l (T r+1) r [] with
   |none=>zt
   |some (ps,rest)=>je (.mk l ps,rest)
def parse(s:y):Option Ty:=
 if 64<T s then zt else match ptype 9 s with
  |some (t,[])=>je t
  |_=>zt
def be(n:Int):Nat->y
 |0=>[]
 |k+1=>lh ((n / 256 ^ k) % 256).toNat::be n k
def uns(l:y):Nat:=l.foldl (λx c=>x * 256+c.toNat) 0
def sgn(l:y):Int:=if 256 ^ T l<=2 * uns l then(uns l:Int) - 256 ^ T l else uns l
def be_length(n):∀k,(be n k).length=k
 |0=>rfl|k+1=>by simp[be,be_length n k]
def Ac6(l:y):∀x,l.foldl (λx c=>x * 256+c.toNat) x=x * 256 ^ T l+uns l:=by induction l with|nil=>intro x;simp[uns]|cons c r O=>intro x;simp[fR,aW,uns];grind
def FD(c)(r:y):uns (c::r)=c.toNat * 256 ^ T r+uns r:=by show List.foldl _ _ _=_;rw[fR,Ac6,Nat.zero_mul,aY]
def uns_lt(l):uns l<256 ^ T l:=by induction l with|nil=>simp[uns]|cons c r O=>rw[FD,aW,Nat.pow_succ];have h:=c.toNat_lt;have:c.toNat * 256 ^ T r<=255 * 256 ^ T r:=Nat.mul_le_mul_right _ R;omega
def BR(n m):∀k,be (n+m * 256 ^ k) k=be n k
 |0=>rfl|k+1=>by (have Q:(256:Int) ^ k≠0:=by have:(0:Int)<256 ^ k:=Int.pow_pos R;omega);have e:n+m * 256 ^ (k+1)=n+(m * 256) * 256 ^ k:=Aj;rw[be,e,BR n _ k,y8 _ _ Q];congr 3;omega
def TM(l):be (uns l) (T l)=l:=by induction l with|nil=>rfl|cons c r O=>have Y:=uns_lt r;have M:=c.toNat_lt;(have v:((uns r:Nat):Int)<256 ^ T r:=by grind);(have e:((uns (c::r):Nat):Int)=(uns r:Int)+(c.toNat:Int) * 256 ^ T r:=by rw[FD,Int.natCast_add,Int.natCast_mul,Int.natCast_pow,Int.add_comm];rfl);rw[aW,be,e,BR,O,y8 _ _ R,Int.ediv_eq_zero_of_lt R v];have:((0+(c.toNat:Int)) % 256).toNat=c.toNat:=R;rw[this];simp
def Amv(l):be (sgn l) (T l)=l:=by rw[sgn];split;have h:=BR (uns l) (-1) (T l);rwa[TM,show((uns l:Nat):Int) + -1 * 256 ^ T l=(uns l:Int) - 256 ^ T l by omega]at h;exact TM l
section
variable (f:iD)
def fits(t:Ty)(v:V):Bool:=
 match t.l.shape with
 |0=>decide (t.l.least<=v.n)&&decide (v.n<=t.l.5)&&decide (v.s.size=0)&&decide (T v.l=0)
 |1=>decide (v.n=0)&&(decide (v.s.size<=200)&&(!t.l.text||f v.s))&&decide (T v.l=0)
 |2=>decide (v.n=0)&&decide (v.s.size=0)&&decide (T v.l<=32)
 |_=>decide (v.n=0)&&decide (v.s.size=0)&&decide (T v.l=T t.ps)
def head(t:Ty)(v:V):y:=
 match t.l.shape with
 |0=>be v.n t.l.size
 |1=>be v.s.size 4++v.s.data.toList
 |2=>be (T v.l) 4
 |_=>[]
def putE(f:y->Ty->V->Option (y))(t:Ty):List V->Nat->y->Option (y)
 |[],_,out=>je out
 |e::r,i,out=>match f out (part t i) e with
  |none=>zt
  |some out'=>putE f t r (i+1) out'
def put:Nat->y->Ty->V->Option (y)
 |0,_,_,_=>zt
 |k+1,out,t,v=>
  if fits f t v then
   match putE (put k) t v.l 0 (out++head t v) with
   |none=>zt
   |some o=>if T o<=1000 then je o else zt
  else zt
def count(b:y)(most:Nat):Option (Nat×y):=
 if T b<4 then zt else if most<uns (b.take 4) then zt else je (uns (b.take 4),b.drop 4)
def takeE(f:Ty->y->Option (V×y))(t:Ty):Nat->Nat->y->Option (List V×y)
 |0,_,b=>je ([],b)
 |m+1,i,b=>match f (part t i) b with
  |none=>zt
  |some (e,rest)=>match takeE f t m (i+1) rest with
   |none=>zt
   |some (es,r)=>je (e::es,r)
def bytesV(l:y):V:=.mk 0 ⟨l.toArray⟩ []
def listV(r:List V×y):V×y:=(.mk 0 lp r.1,r.2)
def take:Nat->Ty->y->Option (V×y)
 |0,_,_=>zt
 |k+1,t,b=>
  match t.l.shape with
  |0=>if T b<t.l.size then zt else
    if fits f t (.mk (sgn (b.take t.l.size)) lp []) then je (.mk (sgn (b.take t.l.size)) lp [],b.drop t.l.size) else zt
  |1=>match count b 200 with
   |none=>zt
   |some (n,rest)=>if T rest<n then zt else
    if fits f t (bytesV (rest.take n)) then je (bytesV (rest.take n),rest.drop n) else zt
  |2=>match count b 32 with
   |none=>zt
   |some (n,rest)=>(takeE (take k) t n 0 rest).map listV
  |_=>(takeE (take k) t (T t.ps) 0 b).map listV
def encode(s:y)(v:V):Except Nat (y):=
 match parse s with
 |none=>.error 1
 |some t=>match put f 9 [] t v with
  |none=>.error 2
  |some b=>.ok b
def decode(s:y)(b:y):Except Nat V:=
 match parse s with
 |none=>.error 1
 |some t=>if 1000<T b then .error 3 else match take f 9 t b with
  |some (v,[])=>.ok v
  |_=>.error 3
def Qm(f:Ty->y->Option (V×y))(t):∀m i b X r,takeE f t m i b=je (X,r)->T X=m:=by intro m;induction m with|zero=>intro i b X r h;simp[takeE]at h;simp[←h.1]|succ m O=>intro i b X r h;rw[takeE]at h;grind
def EC(k t)(O:∀t b v c,take f k t b=je (v,c)->∃pre,b=pre++c/\∀a,T a+T pre<=1000->put f k a t v=je (a++pre)):∀m i b X c,takeE (take f k) t m i b=je (X,c)->∃pre,b=pre++c/\∀a,T a+T pre<=1000->putE (put f k) t X i a=je (a++pre):=by intro m;induction m with|zero=>intro i b X c h;obtain⟨rfl,rfl⟩:=h;exact⟨[],U,λa _=>by simp[putE]⟩|succ m d=>intro i b X c h;rw[takeE]at h;split at h;cases h;rename_i j l I;split at h;cases h;rename_i G n N;simp[aU,dE]at h;obtain⟨g,M,e⟩:=O _ _ _ _ I;obtain⟨r,D,o⟩:=d _ _ _ _ N;refine⟨g++r,Aj,λa K=>?_⟩;rw[aH]at K;rw[←h.1,putE,e a R];grind
def count_some{b m n a}(h:count b m=je (n,a)):n<=m/\be n 4++a=b/\T a+4=T b:=by rw[count]at h;split at h;cases h;split at h;cases h;obtain⟨rfl,rfl⟩:=h;have:=TM (b.take 4);simp_all
def put_take:∀k t b v a,take f k t b=je (v,a)->∃pre,b=pre++a/\∀e,T e+T pre<=1000->put f k e t v=je (e++pre):=by intro k;induction k with|zero=>intro t b v a h;simp[take]at h|succ k O=>intro t b v a h;rw[take]at h;split at h;rename_i P;split at h;cases h;split at h;rename_i d R;simp[aU,dE]at h;obtain⟨rfl,rfl⟩:=h;refine⟨b.take t.l.3,by rw[eN],λe K=>?_⟩;have j:(b.take t.l.3).length=t.l.3:=Al;have D:=Amv (b.take t.l.3);rw[j]at D K;rw[put,u R];simp[head,P,V.n,V.l,putE,D];grind;cases h;rename_i P;split at h;cases h;rename_i n M g;split at h;cases h;split at h;rename_i d R;simp[aU,dE]at h;obtain⟨rfl,rfl⟩:=h;obtain⟨z,D,Y⟩:=count_some g;have j:(M.take n).length=n:=Al;refine⟨be n 4++M.take n,by rw[bY,eN,D],λe K=>?_⟩;(have m:(bytesV (M.take n)).s.size=n:=by simp[bytesV,V.s,ByteArray.size,j]);rw[put,u R];simp[head,P];(have y:(bytesV (M.take n)).s.1.1=M.take n:=by simp[bytesV,V.s]);have c:(bytesV (M.take n)).l = []:=U;rw[m,y,c,putE];simp only;rw[u (by rwa[aH])];cases h;rename_i P;split at h;cases h;rename_i n M g;obtain⟨⟨X,r⟩,N,L⟩:=bA.1 h;simp[listV,dE]at L;obtain⟨rfl,rfl⟩:=L;obtain⟨z,D,Y⟩:=count_some g;obtain⟨p,Q,Z⟩:=EC f k t O _ _ _ _ _ N;have d:=Qm _ _ _ _ _ _ _ N;refine⟨be n 4++p,by rw[bY,←Q,D],λe K=>?_⟩;have l:=be_length n 4;(have R:fits f t (.mk 0 lp X)=true:=by simp[fits,P,V.n,V.s,V.l,d,z]);rw[put,u R];simp[head,P,V.l];rw[d,Z _ (by rw[aH]at K⊢;omega)];simp only;rw[u (by simp[aH]at K⊢;omega),bY];rename_i F C J;obtain⟨⟨X,r⟩,N,L⟩:=bA.1 h;simp[listV,dE]at L;obtain⟨rfl,rfl⟩:=L;obtain⟨p,Q,Z⟩:=EC f k t O _ _ _ _ _ N;refine⟨p,Q,λe K=>?_⟩;(have R:fits f t (.mk 0 lp X)=true:=by simp[fits,V.n,V.s,V.l,(Qm _ _ _ _ _ _ _ N)]);(have i:head t (.mk 0 lp X) = []:=by simp[head]);rw[put,u R,i];simp[V.l,bL];rw[Z _ K];simp only;rw[u (by rwa[aH])]
end
def Agx(k):(0:Int)<256 ^ k:=Int.pow_pos R
def uns_be(n):∀k,((uns (be n k):Nat):Int)=n % 256 ^ k
 |0=>by simp[be,uns,Int.emod_one]
 |k+1=>by
  have Q:=Agx k;have F:0<=(n / 256 ^ k) % 256:=Int.emod_nonneg _ R;have D:(lh ((n / 256 ^ k) % 256).toNat).toNat=((n / 256 ^ k) % 256).toNat:=by
   simp[kh];omega
  rw[be,FD,be_length,D,Int.natCast_add,(uns_be n k),Int.natCast_mul,Int.natCast_pow,Int.toNat_of_nonneg F]
  show(n / 256 ^ k) % 256 * 256 ^ k+n % 256 ^ k=_;have S:=Int.mul_ediv_add_emod n (256 ^ k);have U:=Int.emod_nonneg n (show(256:Int) ^ k≠0 by omega);generalize f:n / 256 ^ k=q at *;generalize e:n % 256 ^ k=r at *;generalize a:q / 256=z at *;generalize d:q % 256=G at *;have b:n=(G * 256 ^ k+r)+256 ^ (k+1) * z:=by
   grind
  have Y:G * 256 ^ k+r<256 ^ (k+1):=by
   have:G * 256 ^ k<=255 * 256 ^ k:=Int.mul_le_mul_of_nonneg_right R R;omega
  have v:0<=G * 256 ^ k+r:=Int.add_nonneg (Int.mul_nonneg F R) U;rw[b,Int.add_mul_emod_self_left,fG v Y]
def Ald(n:Nat)(h:n<=200):uns (be n 4)=n:=by have:=uns_be n 4;omega
def sgn_be(n k)(F:-(256 ^ k)<=2 * n)(C:2 * n<256 ^ k):sgn (be n k)=n:=by have r:=uns_be n k;have a:((256 ^ k:Nat):Int)=256 ^ k:=Ac;rw[sgn,be_length];rcases(by omega:n<0∨0<=n) with z|z;(have e:n % 256 ^ k=n+256 ^ k:=by rw[←Int.add_emod_right,fG R R]);omega;rw[fG z R]at r;omega
def Apt(l:Lt):Prop:=l.shape=0->-(256 ^ l.size:Int)<=2 * l.least/\2 * l.5<256 ^ l.size
def TE:Nat->Ty->Prop
 |0,_=>True
 |k+1,t=>Apt t.l/\∀j,TE k (part t j)
def Qp:∀k,TE k default
 |0=>trivial|k+1=>⟨λ_=>Ad,λj=>by exact Qp k⟩
def KC{c l}(a:find c=je l):Apt l:=by have h:=fV a;simp[letters,bM,dS,or_false]at h;obtain rfl|rfl|rfl|rfl|rfl|rfl|rfl:=h<;>intro s<;>first|(constructor<;>decide)|cases s
def Aby(Q:Ty->Prop){f:y->Option (Ty×y)}(I:∀s t r,f s=je (t,r)->Q t)(l):∀n s D a r,(∀t∈D,Q t)->parts f l n s D=je (a,r)->∀t∈a,Q t:=by intro n;induction n with|zero=>intro s D a r _ h;cases s<;>simp[parts]at h|succ n O=>intro s D a r d h;cases s with|nil=>simp[parts]at h|cons c s=>rw[parts]at h;grind
def QI(Q:Ty->Prop)(y:Q default){l a}(h:∀t∈a,Q t)(j):Q (part (.mk l a) j):=by (have g:∀i,Q (a.getD i default):=λi=>by grind);rw[part];split;exact g 0;exact g j
def VO:∀k s t r,ptype k s=je (t,r)->∀m,TE m t:=by intro k;induction k with|zero=>intro s t r h;cases s<;>simp[ptype]at h|succ k O=>intro s t r h m;cases s with|nil=>simp[ptype]at h|cons c s=>rw[ptype]at h;split at h;cases h;rename_i l K;cases m with|zero=>trivial|succ m=>split at h;simp[aU,dE]at h;rw[←h.1];exact⟨KC K,QI _ (Qp m) (λ_ h=>by cases h)⟩;split at h;cases h;rename_i a b B;simp[aU,dE]at h;rw[←h.1];exact⟨KC K,QI _ (Qp m) (Aby _ (λs t r h=>O s t r h m) l _ _ _ _ _ (λ_ h=>by cases h) B)⟩
def parse_well{s t}(h:parse s=je t)(m):TE m t:=by rw[parse]at h;split at h;cases h;split at h;rename_i S R;injection h with h;subst h;exact VO _ _ _ _ R m;cases h
section
variable (f:iD)
def WQ(k t)(W:∀j,TE k (part t j))(c:∀t v a o,TE k t->put f k a t v=je o->∃pre,o=a++pre/\∀b,take f k t (pre++b)=je (v,b)):∀X i a o,putE (put f k) t X i a=je o->∃pre,o=a++pre/\∀b,takeE (take f k) t (T X) i (pre++b)=je (X,b):=by intro X;induction X with|nil=>intro i a o h;simp[putE,aU]at h;subst h;exact⟨[],M,λb=>by simp[takeE]⟩|cons e X d=>intro i a o h;rw[putE]at h;split at h;cases h;rename_i I O;obtain⟨m,rfl,C⟩:=c _ _ _ _ (W i) O;obtain⟨r,rfl,J⟩:=d _ _ _ h;refine⟨m++r,M,λb=>?_⟩;rw[aW,takeE,bY,C];simp only;rw[J]
def Jg{s:iF}(h:s.size=0):s=lp:=by simp_all
def ON(n)(m:Nat)(h:n<=m)(L:m<=200)(a):count (be n 4++a) m=je (n,a):=by have K:=be_length (n:Int) 4;rw[count,aO (by simp[K]),cR R,bE R,Ald n R,aO R,fE R,eH R,bU]
def take_put:∀k t v e o,TE k t->put f k e t v=je o->∃pre,o=e++pre/\∀c,take f k t (pre++c)=je (v,c):=by intro k;induction k with|zero=>intro t v e o _ h;simp[put]at h|succ k i=>intro t v e o W h;rw[put]at h;split at h;rename_i I;split at h;cases h;rename_i p O;split at h;injection h with h;subst h;obtain⟨pre,rfl,Q⟩:=WQ f k t W.2 i _ _ _ _ O;refine⟨head t v++pre,M,λc=>?_⟩;obtain⟨n,s,l⟩:=v;rw[take];rw[fits]at I;split;rename_i b;rw[b]at I;simp only[V.n,V.s,V.l,aQ]at I;obtain⟨⟨⟨F,C⟩,J⟩,T⟩:=I;replace F:=of_decide_eq_true F;replace C:=of_decide_eq_true C;replace J:=of_decide_eq_true J;replace T:=of_decide_eq_true T;have d:=Jg J;have g:l = []:=bJ.1 T;subst d g;refine Zk5 λL=>?_;subst L;have D:=be_length n t.l.3;(have a:head t (.mk n lp [])=be n t.l.3:=by rw[head,b];rfl);obtain⟨r,q⟩:=W.1 b;rw[a,bL,aO (by simp[D]),cR R,bE R,sgn_be n _ R R,fE R,eH R,bU,u];rw[fits,b];simp only[V.n,V.s,V.l,aQ];exact⟨⟨⟨decide_eq_true F,decide_eq_true C⟩,decide_eq_true J⟩,decide_eq_true T⟩;rename_i b;rw[b]at I;have Y:=I;simp only[V.n,V.s,V.l,aQ]at I;obtain⟨⟨F,C,_⟩,T⟩:=I;replace F:=of_decide_eq_true F;replace C:=of_decide_eq_true C;replace T:=of_decide_eq_true T;have g:l = []:=bJ.1 T;subst F g;refine Zk5 λL=>?_;subst L;(have a:head t (.mk 0 s [])=be s.size 4++s.1.1:=by rw[head,b];rfl);have K:iY s.1.1=s.size:=U;rw[a,bL,bY,ON _ _ C (aA _)];simp only;rw[aO (by simp[K]),cR R,bE R,fE R,eH R,bU,u];rfl;rw[fits];rwa[b];rename_i b;rw[b]at I;simp only[V.n,V.s,V.l,aQ]at I;obtain⟨⟨F,J⟩,T⟩:=I;replace F:=of_decide_eq_true F;replace J:=of_decide_eq_true J;replace T:=of_decide_eq_true T;have d:=Jg J;subst F d;(have a:head t (.mk 0 lp l)=be (iY l) 4:=by rw[head,b];rfl);rw[a,bY,ON _ _ T R];simp only;have:=Q c;simp[V.l]at this;rw[this];rfl;rename_i j H m;(have a:head t (.mk n s l) = []:=by rw[head];split<;>simp_all);split at I;exact absurd X6 j;exact absurd X6 H;exact absurd X6 m;simp only[V.n,V.s,V.l,aQ]at I;obtain⟨⟨F,J⟩,T⟩:=I;replace F:=of_decide_eq_true F;replace J:=of_decide_eq_true J;replace T:=of_decide_eq_true T;have d:=Jg J;subst F d;have:=Q c;simp[V.l]at this;rw[a,bU,←T,this];rfl;cases h;cases h
def put_length:∀k t v a o,put f k a t v=je o->T o<=1000:=by intro k t v a o h;cases k with|zero=>simp[put]at h|succ k=>rw[put]at h;grind
def round(s b v)(h:encode f s v=.ok b):decode f s b=.ok v/\(∀a c,b=a++[c]->decode f s a=.error 3)/\∀c,decode f s (b++[c])=.error 3:=by rw[encode]at h;split at h;cases h;rename_i t R;split at h;cases h;rename_i J D;injection h with h;subst h;obtain⟨pre,N,Q⟩:=take_put f 9 t v [] J (parse_well R 9) D;have K:=put_length f _ _ _ _ _ D;rw[bU]at N;subst N;have F:=Q [];rw[bL]at F;refine⟨?_,?_,?_⟩;rw[decode];grind;intro a c e;rw[decode,R];simp only;split;rfl;split;rename_i U q;obtain⟨u,d,Z⟩:=put_take f 9 t a U [] q;rw[bL]at d;subst d;obtain⟨r,A,G⟩:=take_put f 9 t U [] _ (parse_well R 9) (Z [] Aj);grind;rfl;intro c;rw[decode,R];simp only;split;rfl;rw[Q [c]]
end
section
variable (f:iD)
variable {f}
end
def sumStep(p:Nat×Nat)(x:UInt8):Nat×Nat:=((p.1+x.toNat) % 65521,(p.2+(p.1+x.toNat) % 65521) % 65521)
def sumP(l:y):Nat×Nat:=l.foldl sumStep (1,0)
def sum(l:y):Nat:=(sumP l).2 * 65536+(sumP l).1
def sumP_snoc(l x):sumP (l++[x])=sumStep (sumP l) x:=by rw[sumP,List.foldl_append];rfl
def XZ:∀(l:y)p,p.1<65521/\p.2<65521->(l.foldl sumStep p).1<65521/\(l.foldl sumStep p).2<65521
 |[],_,h=>h
 |x::l,p,_=>XZ l _ ⟨Nat.mod_lt _ R,Nat.mod_lt _ R⟩
def sumP_lt(l):(sumP l).1<65521/\(sumP l).2<65521:=XZ l (1,0) ⟨Ad,Ad⟩
def sum_lt(l):sum l<4294967296:=by have:=sumP_lt l;rw[sum];omega
structure Node where
 path:iF
 data:iF
 note:iF
 made:Int
 changed:Int
 version:Int
instance:Inhabited Node:=⟨⟨lp,lp,lp,0,0,0⟩⟩
end Orch
namespace Go.Proofs.Y
variable {c:Array Value}{t:TypeId}
open Go.RowKit
def Bytes(w:r)(b off:Nat)(l:y):Prop:=∀i (h:i<T l),w.cell? ⟨b,off+i,zt⟩=je (wy ry l[i].toNat)
def Akf(X c:Nat)(t:X<72057594037927936)(M:c<256):bits .or .u64 ((X:Int) * 256) (c:Int)=((X * 256+c:Nat):Int):=by have e:((X:Int) * 256)=((X * 256:Nat):Int):=R;rw[e,u64_or_nat _ _ R R];have:=Nat.shiftLeft_add_eq_or_of_lt (i:=8) R X;rw[Nat.shiftLeft_eq]at this;rw[←this]
def Qj{k a b}(h:a=b):Ending.returned (wy k a)=ia (wy k b):=by rw[h]
def ND{k a b}(h:a=b):Value.int k a=wy k b:=by rw[h]
def Gu(w b off n I)(l:y)(z:T l=n)(K:n<=8)(D:Bytes w b off l):L m 153 #[xh (je (Z b off)) n I] w λe B=>e=ia (wy .u64 (Orch.uns l))/\B=w:=by subst z;go_enter func153,ntmps153;go_wp2;go_loop [3,8] (λx a=>∃k,k<=T l/\a=O k/\x=wy .u64 (Orch.uns (l.take k))) (λ_ a=>T l - (intOf a).toNat);(case atStart=>exact⟨0,bB _,U,U⟩);case round=>obtain⟨k,E,rfl,rfl⟩:=hrel;by_cases Y:k<T l;have f:=D k Y;have V:Hid (Orch.uns (l.take (k+1))=Orch.uns (l.take k) * 256+l[k].toNat):=(by rw[bQ Y,Orch.uns,List.foldl_append];rfl);(have c:Orch.uns (l.take k)<256 ^ 7:=by exact aB (Orch.uns_lt (l.take k)) (Nat.pow_le_pow_right R Al));(have M:(Orch.uns (l.take k):Int)<72057594037927936:=by omega);have h:l[k].toNat<256:=gC _;generalize Orch.uns (l.take k)=X at *;go_wp2;go_round;(case rel=>exact⟨k+1,R,by go_num,ND (by rw[Akf X _ R h,V])⟩);(case measure=>first|(done)|(simp[intOf];omega));go_wp2;go_ret;exact⟨Qj Aj,U⟩
def WH(l:y)(n)(z:T l=n):Orch.sgn l=if 256 ^ n<=2 * Orch.uns l then(Orch.uns l:Int) - 256 ^ n else Orch.uns l:=by subst z;rfl
def Ahr(w b off I)(l:y)(z:T l=1)(D:Bytes w b off l):L m 155 #[xh (je (Z b off)) 1 I] w λe B=>e=ia (O (Orch.sgn l))/\B=w:=by (have Y:(Orch.uns l:Int)<256:=by have:=Orch.uns_lt l;rw[z]at this;omega);have n:Hid _:=WH l 1 z;go_enter sk,qv;go_wp2_with (go_at_call 153;apply(Gu w b off 1 I l z R D).mono;rintro e B⟨rfl,rfl⟩);go_ret;refine⟨Qj ?_,U⟩;rw[n,wrap64];split<;>omega
def RQ(w b off I)(l:y)(z:T l=4)(D:Bytes w b off l):L m 155 #[xh (je (Z b off)) 4 I] w λe B=>e=ia (O (Orch.sgn l))/\B=w:=by (have Y:(Orch.uns l:Int)<4294967296:=by have:=Orch.uns_lt l;rw[z]at this;omega);have n:Hid _:=WH l 4 z;go_enter sk,qv;go_wp2_with (go_at_call 153;apply(Gu w b off 4 I l z R D).mono;rintro e B⟨rfl,rfl⟩);go_ret;refine⟨Qj ?_,U⟩;rw[n,wrap64];split<;>omega
def RS(w b off I)(l:y)(z:T l=8)(D:Bytes w b off l):yf m 155 #[xh (je (Z b off)) 8 I] w λe B=>e=ia (O (Orch.sgn l))/\B=w:=by
 have c:=Gu w b off 8 I l z R D;have L:Hid (Orch.uns l<18446744073709551616):=by have:=Orch.uns_lt l;rwa[z]at this
 have n:Hid _:=WH l 8 z;generalize Orch.uns l=X at *;go_enter sk,qv;go_wp2_with (go_at_call 153;apply c.mono;rintro e B⟨rfl,rfl⟩);go_ret;refine⟨Qj ?_,U⟩;rw[n];have C:=L.out;have e:IntKind.u64.wrap (X:Int)=(X:Int):=by simp[IntKind.wrap,IntKind.bits,IntKind.signed];omega
 rw[wrap64];split<;>omega
def A4(l:y):List z:=l.map λc=>wy ry c.toNat
def Gz(a b):A4 (a++b)=A4 a++A4 b:=cP
def XO(n m):∀a,m+1<=a->(Orch.be n a).take (a - m)=(Orch.be n a).take (a - (m+1))++[lh ((n / 256 ^ m) % 256).toNat]:=by intro a;induction a with|zero=>intro h;omega|succ k O=>intro h;rw[Orch.be];by_cases e:m=k;simp_all;rw[show k+1 - m=(k - m)+1 by omega,show k+1 - (m+1)=(k - (m+1))+1 by omega,zb,zb,O R];rfl
def KS(n m)(L:m<=7):IntKind.u64.wrap n / 2 ^ (8 * m) % 256=((lh ((n / 256 ^ m) % 256).toNat).toNat:Int):=by
 have e:IntKind.u64.wrap n=n % 18446744073709551616:=by simp[IntKind.wrap,IntKind.bits,IntKind.signed]
 have f:∀q:Int,((lh (q % 256).toNat).toNat:Int)=q % 256:=λq=>by rw[kh];omega
 rw[e,f];match m,L with|0,_=>simp|1,_=>omega|2,_=>omega|3,_=>omega|4,_=>omega|5,_=>omega|6,_=>omega|7,_=>omega
def Tryz.info5:(prog.info? 5).map (λi=>(i.zero,i.size,i.bytes))=je (je (wy ry 0),1,1):=Ab
theorem TJ(w:qi)(c:Nat)(v:p8)(n:Int)(a:Nat)(X:List UInt8)(hs:a<=8)(o:w.ownsRow c 5 1 v X.length (A4 X))(g:c<=w.heap.size)(Z:X.length<=100000) :
  yf ow 77 #[v,wy yh n,wy yh a] w fun e B=>∃U,e=ia U/\B.ownsRow c 5 1 U (X++Orch.be n a).length (A4 (X++Orch.be n a))/\jg c w B:=by obtain⟨p,s,F,G,K⟩:=info_parts Tryz.info5;go_enter func77,ntmps77;go_wp2;go_loopw [0,7] (fun u i wr=>∃k:Nat,k<=a/\i=wy yh ((k:Int) - 1)/\Hid (wr.ownsRow c 5 1 u (X++(Orch.be n a).take (a - k)).length (A4 (X++(Orch.be n a).take (a - k))))/\Hid (jg c w wr)) (fun _ i _=>(intOf i+1).toNat);(case atStart=>exact⟨a,aA _,rfl,by show World.ownsRow _ _ _ _ _ _ _;rw [Nat.sub_self];simpa using o,zi _ _⟩);case round=>obtain⟨k,a1,rfl,O,x⟩:=hrel;cases k with| zero=>exact Bi0| succ m=>rw [show((m+1:Nat):Int) - 1=(m:Int) by omega];refine P32 ?_;intro d HT;have HB:Hid (IntKind.u64.wrap n / 2 ^ (8 * m) % 256=((lh ((n / 256 ^ m) % 256).toNat).toNat:Int)):=KS n m Aa;generalize X++(Orch.be n a).take (a - (m+1))=L at *;go_wp2_with (at_builtin;refine wpList_append_own _ rfl _ _ 35 rfl c 5 p (wy ry 0) 1 1 underlying35 s F G K rfl Ad _ _ _ rfl (O.alloc _) ⟨wr.1.size,0,zt⟩ 1 1 [_] rfl rfl (cell_one_new _ _ _) ?c2 ?c3 ?c4 ?c5 ?_);(case c2=>intro u r;simp at r;subst r;rfl);(case c3=>rw[maxLen];omega);(case c4=>omega);(case c5=>have:=x.4;simp;omega);intro U H J j _;have V:Hid (jg c w H):=(x.alloc (by have:=x.4;omega) _).grown j (by have:=x.4;simp;omega) (fun f E=>(O.lt f E).1);refine R9j ?_;intro b;clear J j;exact Tyc
abbrev ltv(sg sh sz lo hi:Int)(tx:Bool)(fn:Int):z:=.agg #[wy ry sg,O sh,O sz,O lo,O hi,o0 tx,wy ry fn]
abbrev Ly(sg sh sz lo hi:Int)(tx:Bool)(fn:Int)(ps:z):z:=.agg #[wy ry sg,O sh,O sz,O lo,O hi,o0 tx,wy ry fn,ps]
abbrev vv(n:Int)(s:iF)(l:z):z:=.agg #[O n,zx s,l]
def Aa4:Nat:=8
structure Hq(valid:iD)(Tabs:iI):Prop where
 gives:∀(s:iF)w,Tabs w->s.size<=200->yf ow 198 #[zx s] w λe w'=>e=ia (o0 (valid s))/\iT w w'
 kept:∀{B} {w w'},Aa4<=B->jg B w w'->Tabs w->Tabs w'
 size:∀{w},Tabs w->Aa4<=iZ w.1
def Ib{a b}(h:a=b):Ending.returned (o0 a)=ia (o0 b):=by rw[h]
def toList_nil(s:iF):s.toList = []↔s.size=0:=by rw[Lib.toList_data,Lib.size_eq];exact bJ.symm
def Bg(w o):E w (w.alloc o):=(zi _ _).alloc (aA _) o
def E5(w o I):E w ((w.alloc o).alloc I):=(Bg w o).alloc M I
def Pw(w o I A):E w (((w.alloc o).alloc I).alloc A):=(E5 w o I).alloc Ai A
section
def FR(U:Hq o F)(w)(a:F w)(h f P d c K u)(s:iF):L m 215 #[ltv h f P d c K u,zx s] w λe B=>
   e=ia (o0 (decide (s.size<=200)&&(!K||o s)))/\E w B:=by by_cases J:s.size<=200;rw[decide_eq_true J,gQ];cases K;(·go_enter vh,ig;go_wp2;go_ret;exact⟨Ib M,Bg _ _⟩);have R:F (w.alloc (.cells #[wy ry h,O f,O P,O d,O c,o0 true,wy ry u] 202)):=U.2 (U.3 a) (Bg _ _) a;have g:=U.1 s _ R J;go_enter vh,ig;go_wp2_with (go_at_call 198;apply g.mono;rintro e B⟨rfl,D⟩);go_ret;exact⟨Ib M,(Bg _ _).trans (D.mono M)⟩;go_enter vh,ig;go_wp2;go_ret;exact⟨Ib iW,Bg _ _⟩
def Anh(w h P a V K u)(F Q:iM)(p d v q n s):L m 202 #[Ly h 0 P a V K u (xh F p d),vv n s (xh Q v q)] w λe B=>
   e=ia (o0 (decide (a<=n)&&decide (n<=V)&&decide (s.size=0)&&decide (v=0)))/\E w B:=by obtain⟨R,b⟩:∃R,(decide (a<=n)&&decide (n<=V)&&decide (s.size=0)&&decide (v=0))=R:=⟨_,U⟩;exact Qdm
def Anj(w h P a V K u)(F Q:iM)(p d v q n s):L m 202 #[Ly h 2 P a V K u (xh F p d),vv n s (xh Q v q)] w λe B=>
   e=ia (o0 (decide (n=0)&&decide (s.size=0)&&decide (v<=32)))/\E w B:=by obtain⟨R,b⟩:∃R,(decide (n=0)&&decide (s.size=0)&&decide (v<=32))=R:=⟨_,U⟩;exact Qdm
def Ank(w h P a V K u)(F Q:iM)(p d v q n s):L m 202 #[Ly h 3 P a V K u (xh F p d),vv n s (xh Q v q)] w λe B=>
   e=ia (o0 (decide (n=0)&&decide (s.size=0)&&decide (v=p)))/\E w B:=by obtain⟨R,b⟩:∃R,(decide (n=0)&&decide (s.size=0)&&decide (v=p))=R:=⟨_,U⟩;exact Qdm
def Ani(U:Hq o F)(w)(hT:F w)(f P c b K u)(a Q:iM)(p d v q n s):L m 202 #[Ly f 1 P c b K u (xh a p d),vv n s (xh Q v q)] w λe B=>
   e=ia (o0 (decide (n=0)&&(decide (s.size<=200)&&(!K||o s))&&decide (v=0)))/\E w B:=by
 have g:Hid (∀B,F B->L m 215 #[ltv f 1 P c b K u,zx s] B λe t=>e=ia (o0 (decide (s.size<=200)&&(!K||o s)))/\E B t):=λB h=>FR U B h f 1 P c b K u s;generalize (decide (s.size<=200)&&(!K||o s))=C at *;by_cases z:n=0;subst z;have HT:Hid (F (((w.alloc (.cells #[wy ry f,O 1,O P,O c,O b,o0 K,wy ry u,xh a p d] 205)).alloc (.cells #[O 0,zx s,xh Q v q] 180)).alloc (.cells #[wy ry f,O 1,O P,O c,O b,o0 K,wy ry u] 202))):=U.2 (U.3 hT) (Pw _ _ _ _) hT;go_enter func202,ntmps202;go_wp2_with (go_at_call 215;refine(g _ ?hT).mono ?_);case hT=>exact HT
 rintro e B⟨rfl,D⟩;have Z:E w B:=(Pw _ _ _ _).trans (D.mono Ai);have x:B.cell? ⟨Y w.1+1,2,zt⟩=je (xh Q v q):=(D.cell (p:=⟨Y w.1+1,2,zt⟩) M).trans (by rw[World.cell?_alloc_past _ _ _ M,World.cell?_alloc_at _ _ _ _ M];rfl);clear D HT g;cases C;·go_wp2;go_ret;simp_all
 ·go_wp2;go_ret;refine⟨Ib ?_,Z⟩;rw[gU];simp
 ·(have j:(n==0)=vy:=by simpa using z);rw[decide_eq_false z,hY,hY];clear hT g z;go_enter func202,ntmps202;go_wp2;go_ret;exact⟨Ib iW,Pw _ _ _ _⟩
end
open Orch
def Rm{b:Type}(f:a->List b)(k)(I:∀x,(f x).length=k):∀(L:List a)i j,j<k->(L.flatMap f)[i * k+j]?=(L[i]?).bind λx=>(f x)[j]?:=by intro L;induction L with|nil=>intro i j _;simp|cons x r O=>intro i j l;rw[gG];cases i with|zero=>grind|succ i=>rw[dO Aj,I,show(i+1) * k+j - k=i * k+j by rw[Nat.succ_mul];omega,O i j l];simp
def Ae5{b:Type}(f:a->List b)(k)(I:∀x,(f x).length=k):∀L,(L.flatMap f).length=T L * k:=by intro L;induction L with|nil=>simp|cons x r O=>grind
abbrev US(l:Lt):z:=ltv l.sign.toNat l.shape l.size l.least l.5 l.text l.fin.toNat
abbrev Hx(l:Lt)(ps:z):z:=Ly l.sign.toNat l.shape l.size l.least l.5 l.text l.fin.toNat ps
abbrev SK(v:V)(l:z):z:=vv v.n v.s l
def Pj(p:Ty×z):List z:=[wy ry p.1.l.sign.toNat,O p.1.l.shape,O p.1.l.size,O p.1.l.least,O p.1.l.5,o0 p.1.l.text,wy ry p.1.l.fin.toNat,p.2]
def Eu(p:V×z):List z:=[O p.1.n,zx p.1.s,p.2]
inductive Ff(w:qi)(S:iG):List Ty->p8->Prop
 |nil (a:iM) (c):Ff w S [] (xh a 0 c)
 |row (ps) (g cap) (h0:ps≠[]) (hcap:iY ps<=cap) (hS:S g)
   (hc:∀j u,(ps.flatMap Pj)[j]?=je u->w.cell? (iR g j)=je u)
   (hr:∀p∈ps,Ff w S p.1.ps p.2):Ff w S (ps.map jw) (xh (je (iQ g)) (iY ps) cap)
inductive Ea(w:qi)(S:iG):List V->p8->Prop
 |nil (a:iM) (c):Ea w S [] (xh a 0 c)
 |row (ps) (g cap) (h0:ps≠[]) (hcap:iY ps<=cap) (hS:S g)
   (hc:∀j u,(ps.flatMap Eu)[j]?=je u->w.cell? (iR g j)=je u)
   (hr:∀p∈ps,Ea w S p.1.l p.2):Ea w S (ps.map jw) (xh (je (iQ g)) (iY ps) cap)
def Ff.congr(d:∀b,S b->N b)(W:∀b,S b->B.1[b]?=w.1[b]?){L}(h:Ff w S L v):Ff B N L v:=by exact K0s
def Ea.congr(d:∀b,S b->N b)(W:∀b,S b->B.1[b]?=w.1[b]?){L}(h:Ea w S L v):Ea B N L v:=by exact K0s
def Ff.shape{L}(h:Ff w S L v):∃a c,v=xh a (T L) c:=by cases h with|nil=>exact⟨_,_,U⟩|row b g I=>simp
def Ea.shape{L}(h:Ea w S L v):∃a c,v=xh a (T L) c:=by cases h with|nil=>exact⟨_,_,U⟩|row b g I=>simp
def JV(p):(Pj p).length=8:=U
def Tk(p):(Eu p).length=3:=U
def Ff.at{L v}(h:Ff w S L v)(i)(V:i<T L):∃g I x,v=xh (je (iQ g)) (T L) I/\T L<=I/\S g/\Ff w S L[i].ps x/\∀j u,(Pj (L[i],x))[j]?=je u->w.cell? ⟨g,i * 8+j,zt⟩=je u:=by cases h with|nil=>simp at V|row ps g I F C H M Y=>have p:i<T ps:=Adf;refine⟨g,I,ps[i].2,by rw[bR],Aj,H,?_,λj u r=>?_⟩;grind;apply M _ u;(have l:j<8:=by have:=(aF.1 r).1;rwa[JV]at this);rw[Rm Pj 8 JV ps i j l,aG p,dP];grind
def Ea.at{L v}(h:Ea w S L v)(i)(b:i<T L):∃g I x,v=xh (je (iQ g)) (T L) I/\T L<=I/\S g/\Ea w S L[i].l x/\∀j u,(Eu (L[i],x))[j]?=je u->w.cell? ⟨g,i * 3+j,zt⟩=je u:=by cases h with|nil=>simp at b|row d g I F C H M Y=>(have p:i<T d:=by simpa using b);refine⟨g,I,d[i].2,by rw[bR],Aj,H,?_,λj u r=>?_⟩;grind;apply M _ u;(have e:j<3:=by have:=(aF.1 r).1;rwa[Tk]at this);rw[Rm Eu 3 Tk d i j e,aG p,dP];grind
def Ff.of_own{a ps}(h:w.ownsRow a 205 8 v (T ps) (ps.flatMap Pj))(Y:∀p∈ps,Ff w S p.1.ps p.2)(c:∀g,v.ownBlock=je g->S g):Ff w S (ps.map jw) v:=by obtain⟨rfl,F⟩|⟨g,I,H,rfl,D,G,z,_,s,R⟩:=h.2;rw[bJ.1 F];exact .nil _ _;by_cases F:ps = [];subst F;exact .nil _ _;refine .row ps g I F z (c g U) (λj u r=>?_) Y;have:=h.cells U j u r;rwa[Addr.add_lit,aY]at this
def Ea.of_own{a}(h:w.ownsRow b 180 3 v (T a) (a.flatMap Eu))(Y:∀p∈a,Ea w S p.1.l p.2)(c:∀g,v.ownBlock=je g->S g):Ea w S (a.map jw) v:=by obtain⟨rfl,F⟩|⟨g,I,H,rfl,D,G,z,_,s,R⟩:=h.2;rw[bJ.1 F];exact .nil _ _;by_cases F:a = [];subst F;exact .nil _ _;refine .row a g I F z (c g U) (λj u r=>?_) Y;have:=h.cells U j u r;rwa[Addr.add_lit,aY]at this
def Ago(w S)(t:Ty)(X)(h:Ff w S t.ps X)(H:∀b,S b->b<Y w.1)(i)(P:t.l.shape=2)(F:0<T t.ps):L m 203 #[Hx t.l X,O i] w λe B=>∃x,e=ia (Hx (t.ps[0]).l x)/\Ff w S (t.ps[0]).ps x/\E w B:=by obtain⟨g,I,x,rfl,C,G,Z,M⟩:=h.at 0 F;obtain⟨J,c,rfl⟩:=Z.shape;have d:=H g G;have c0:=M 0 _ U;refine Qsy λm o N q r=>?_;have l:=M 6 _ U;have k:=M 7 _ U;generalize t.ps[0]=p at *;exact O1v
def Agn(w S)(t:Ty)(X)(h:Ff w S t.ps X)(H:∀b,S b->b<Y w.1)(i)(P:t.l.shape=3)(F:i<T t.ps)(_hb:T t.ps<=1000):L m 203 #[Hx t.l X,O i] w λe B=>∃x,e=ia (Hx (t.ps[i]).l x)/\Ff w S (t.ps[i]).ps x/\E w B:=by obtain⟨g,I,x,rfl,C,G,Z,M⟩:=h.at i F;obtain⟨J,c,rfl⟩:=Z.shape;have d:=H g G;have c0:w.cell? ⟨g,i * 8,zt⟩=_:=M 0 _ U;refine Qsy λm o N q r=>?_;have l:=M 6 _ U;have k:=M 7 _ U;generalize t.ps[i]=p at *;exact O1v
def FH:Nat->Ty->Prop
 |0,_=>False
 |k+1,t=>t.l∈letters/\(t.l.shape=2->T t.ps=1)/\T t.ps<=64/\∀p∈t.ps,FH k p
def Ol{l}(h:l∈letters):l.shape=0∨l.shape=1∨l.shape=2∨l.shape=3:=by simp[letters,bM,dS,or_false]at h;grind
def V9{l}(h:l∈letters)(F:l.shape=0):l.size=1∨l.size=4∨l.size=8:=by simp[letters,bM,dS,or_false]at h;grind
def Sx(l i)(d:a)(h:i<T l):l.getD i d=l[i]:=by grind
def YS{t}(h:FH (k+1) t)(i)(C:t.l.shape=2∨t.l.shape=3/\i<T t.ps):FH k (Orch.part t i):=by have ⟨_,J,_,Q⟩:=h;rw[Orch.part];grind
def QJ(w S t)(a:FH (k+1) t)(X)(h:Ff w S t.ps X)(H:∀b,S b->b<Y w.1)(i)(C:t.l.shape=2∨t.l.shape=3/\i<T t.ps):L m 203 #[Hx t.l X,O i] w λe B=>∃x,e=ia (Hx (Orch.part t i).l x)/\Ff w S (Orch.part t i).ps x/\E w B:=by have ⟨_,J,D,_⟩:=a;rw[Orch.part];obtain P|⟨P,V⟩:=C;rw[u P,Sx _ _ _ R];exact Ago w S t X h H i P R;rw[aO R,Sx _ _ _ V];exact Agn w S t X h H i P V R
def Hy(w:r)(v:z)(l:y):Prop:=∃b off cap,v=xh (je (Z b off)) (T l) cap/\T l<=cap/\b<Y w.1/\Bytes w b off l
def Hy.below{B a l}(h:Hy w v l)(D:jg B w a)(k:iZ w.1<=B):Hy a v l:=by have ⟨b,off,I,e,M,Y,o⟩:=h;exact⟨b,off,I,e,M,aB Y D.4,λi V=>(D.cell (p:=⟨b,off+i,zt⟩) (aB Y k)).trans (o i V)⟩
def Bytes.drop{l}(h:Bytes w b off l)(n):Bytes w b (off+n) (l.drop n):=λi V=>by rw[dD]at V;rw[List.getElem_drop,eW];exact h _ R
def Bytes.take{w b off l}(h:Bytes w b off l)(n):Bytes w b off (l.take n):=λi V=>by rw[dI]at V;rw[gI];exact h i R
def Hy.tail1{l:y}(C:T l<=I)(Y:b<iZ w.1)(n)(z:n<=T l)(N:I=n):Hy w (xh (je (Z b off)) (T l - n) 0) (l.drop n):=by exact H00
def Hy.tail{l:y}(C:T l<=I)(D:Bytes w b off l)(Y:b<iZ w.1)(n)(z:n<=T l):Hy w (if I=n then xh (je (Z b off)) (T l - n) 0 else xh (je ⟨b,off+n,zt⟩) (T l - n) (I - n)) (l.drop n):=by split;exact H00;exact(⟨b,off+n,I - n,by rw[dD],by rw[dD];omega,Y,D.drop n⟩)
def Oj(bv:z)(l:y)(rv:z)(rest:y):Prop:=∀W,Hy W bv l->Hy W rv rest
def Oj.refl(T l):Oj T l T l:=λ_ h=>h
def Oj.trans{a b c l m n}(h:Oj a l b m)(k:Oj b m c n):Oj a l c n:=λW d=>k W (h W d)
def Oj.cut(b off I)(l:y)(n)(z:n<=T l):Oj (xh (je (Z b off)) (T l) I) l (if I=n then xh (je (Z b off)) (T l - n) 0 else xh (je ⟨b,off+n,zt⟩) (T l - n) (I - n)) (l.drop n):=by intro W h;have ⟨J,Q,L,e,M,Y,D⟩:=h;obtain⟨⟨rfl,rfl⟩,rfl⟩:=e;exact Hy.tail M D Y n z
def Kl{B}(w):=(zi B w).drew
def Uc(w b off I)(l:y)(K:T l<=1000)(C:T l<=I)(D:Bytes w b off l)(m)(L:m<=1000){n a}(M:Orch.count l m=je (n,a)):yf ow 218 #[xh (je (Z b off)) (T l) I,O m] w λe B=>e=ia (.tuple #[O n,if I=4 then xh (je (Z b off)) (T l - 4) 0 else xh (je ⟨b,off+4,zt⟩) (T l - 4) (I - 4),o0 true])/\E w B:=by
 rw[Orch.count]at M;split at M;cases M;split at M;cases M;obtain⟨rfl,rfl⟩:=M;have c:=Gu w b off 4 I _ Al R (D.take 4);generalize Orch.uns _=X at *;go_enter func218,ntmps218;go_wp2_with (go_at_call 153;apply c.mono;rintro e B⟨rfl,rfl⟩);go_region;all_goals go_wp2
 all_goals go_ret3
 all_goals first|exact⟨U,Kl _⟩|omega|omega
def Yv{P c}{Q:Exit->Act->r->Prop}{a}(F:iI)(hF:F w)(h:∀W,F W->Code.wp P c Q a W):=h w hF
def cellOf{j X u}(h:W.1[g]?=je (.cells cs t X))(r:cs[j]?=je u):W.cell? (Z g j)=je u:=by rwa[cell_of_row W g j cs t X h]
def Ej{W:r}{j}(h:W.1[g]?=je (.cells cs t (0,0))):W.frozen? (Z g j)=vy:=by simp[World.frozen?,h]
def Kj{w:World}{f p}(V)(h:w.1[b]?=some (.cells c t f))(F:c[V]?=some p:=by exact iW):w.cell? ⟨b,V,none⟩=some p:=cellOf h F
def Ck2{w:World}{f p N}(V a)(h:w.1[b]?=some (.cells c t f))(F:c[V]?=some p:=by exact iW)(S:c[a]?=some N:=by exact iW):w.cell? ⟨b,V,none⟩=some p/\w.cell? ⟨b,a,none⟩=some N:=⟨cellOf h F,cellOf h S⟩
def Ck3{w:World}{f p N H}(V a d)(h:w.1[b]?=some (.cells c t f))(F:c[V]?=some p:=by exact iW)(S:c[a]?=some N:=by exact iW)(L:c[d]?=some H:=by exact iW):w.cell? ⟨b,V,none⟩=some p/\w.cell? ⟨b,a,none⟩=some N/\w.cell? ⟨b,d,none⟩=some H:=⟨cellOf h F,cellOf h S,cellOf h L⟩
def Fk1{w:r}{c:iJ}(V)(h:w.1[b]?=je (.cells c t)):w.frozen? (Z b V)=vy:=Ej h
def Fk2{w:r}{c:iJ}(V a)(h:w.1[b]?=je (.cells c t)):w.frozen? (Z b V)=vy/\w.frozen? (Z b a)=vy:=⟨Ej h,Ej h⟩
def ltOf{o}(h:W.1[g]?=je o):=(aJ.1 h).1
def Aqx(w:r)(C K I):(((w.alloc C).alloc K).alloc I).1[Y w.1]?=je C/\(((w.alloc C).alloc K).alloc I).1[Y w.1+1]?=je K/\(((w.alloc C).alloc K).alloc I).1[Y w.1+1+1]?=je I:=by refine⟨?_,?_,?_⟩;rw[np _ _ _ Ai,np _ _ _ M];exact iy w C;rw[np _ _ _ M];have:=iy (w.alloc C) K;simpa using this;have:=iy ((w.alloc C).alloc K) I;simpa using this
def AD(w:r)(C K):((w.alloc C).alloc K).1[Y w.1]?=je C/\((w.alloc C).alloc K).1[Y w.1+1]?=je K:=by refine⟨?_,?_⟩;rw[np _ _ _ M];exact iy w C;have:=iy (w.alloc C) K;simpa using this
section
def CQ(U:Hq o F)(w)(V:F w)(t)(l:FH (k+1) t)(a:iM)(d v)(Q:iM)(q):L m 202 #[Hx t.l (xh a (T t.ps) d),SK v (xh Q (T v.l) q)] w λe B=>e=ia (o0 (Orch.fits o t v))/\E w B:=by rw[Orch.fits];obtain h|h|h|h:=Ol l.1;simp only[Hx,h];exact Anh w _ _ _ _ _ _ _ _ _ _ _ _ _ _;simp only[Hx,h];exact Ani U w V _ _ _ _ _ _ _ _ _ _ _ _ _ _;simp only[Hx,h];exact Anj w _ _ _ _ _ _ _ _ _ _ _ _ _ _;simp only[Hx,h];exact Ank w _ _ _ _ _ _ _ _ _ _ _ _ _ _
end
end Go.Proofs.Y
