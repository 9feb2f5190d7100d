import Derived.Test.YtcbilgmfdgpomaaGreatDoorBase
import Derived.Test.YtcbilgmfdgpomaaGreatDoorProg
import Derived.WalkSpells
import Derived.WalkLawsBesides
import Derived.Handy
import Derived.Deep.Light
import Derived.Lib.Strings
import Derived.Deep.AppendLies
import Derived.Deep.RegionWith
set_option linter.all false
open Array renaming size → iS,size → R
set_option maxHeartbeats 400000
open Option renaming some → ni,none → su
open Go renaming World → qg,Value → w8,Calls → sf,heap_alloc_new → sx,Value → O,World → T,Calls → E
open ByteArray renaming empty → nu
open Go.Proofs.Tryz renaming prog → qz,ntmps158 → vw,ntmps218 → ll,ntmps221 → fv,func158 → js,func218 → p5,func221 → iv,prog → m
open Go.RowKit renaming Below → ri
open Bool renaming false → o9
open UInt8 renaming ofNat → yr,toNat_ofNat' → kn
open Go.RowKit.Below renaming heap_alloc → rm,refl → nq
open Int renaming add_mul_ediv_right → gx
open List renaming take_succ_cons → y9,length → iR,length → y
open Prod renaming fst → wv
open Go.Value renaming int → pq,string → x7,slice → um,bool → vp
open Go.IntKind renaming u8 → zi
open Go.Ending renaming returned → xr
open Go.Proofs.Tryz
variable {B W w:T}{F:iA}{I b g j k off:Nat}{N S:hY}{a:Type}{cs:iB}{p q:Prop}{v:O}{z:gZ}
def Zk5(k:q)(h:Hd q->p:=by
 intro kz;have L:pre = []:=by
  have:=Q [];simp only[V.l,aX,takeE,bW,aW,cW]at this;exact this.2
 revert L;exact kz.1):p:=h ⟨k⟩
def Kyl(k:q)(h:Hd q->p:=by
 intro kz;have t:Orch.uns (l.take 4)<4294967296:=by
  have:=Orch.uns_lt (l.take 4);rw[eG]at this
  rwa[show min 4 l.length=4 by omega]at this
 revert t;exact kz.1):p:=h ⟨k⟩
def Dz9(k:q)(h:Hd q->p:=by
 intro kz;have o:=M 1 _ iP;have r:=M 2 _ iP;have N:=M 3 _ iP;have u:=M 4 _ iP;have v:=M 5 _ iP;revert o r N u v;exact kz.1):p:=h ⟨k⟩
def Jir(k:q)(h:Hd q->p:=by
 intro kz;have k:Hid (H.ownsRow b 5 1 U (X++(Orch.be n a).take (a - m)).length (A5 (X++(Orch.be n a).take (a - m)))):=by
  show World.ownsRow _ _ _ _ _ _ _;rw[g.out,I4];rw[HB.out]at J;simpa[A5] using J
 revert k;exact kz.1):p:=h ⟨k⟩
def P4o(k:q)(h:Hd q->p:=by
 intro kz;have K:(X++(Orch.be n a).take (a - (m+1))).length<=100008:=by
  rw[aM,eG,Orch.be_length];omega
 have g:Hid (X++(Orch.be n a).take (a - m)=(X++(Orch.be n a).take (a - (m+1)))++[UInt8.ofNat ((n / 256 ^ m) % 256).toNat]):=by
  show _=_;rw[UE n m a l,bY]
 revert K g;exact kz.1):p:=h ⟨k⟩
def Yqt(h:p:=by
 go_wp2;go_roundw
 case rel=>exact⟨m,Aa,by go_num,k,M⟩
 case measure=>first|(simp[intOf];done)|(simp[intOf];omega)):p:=h
def H00(h:p:=by
 rw[(gH Aa),show l.length - n=0 by omega];exact⟨b,off,0,iP,aB _,Y,λi V=>by simp at V⟩):p:=h
def Lgl(h:p:=by
 go_wp2;go_ret;have c:(Orch.be n a).take (a - 0)=Orch.be n a:=by rw[bN Adu]
 have C:=O.out;rw[c]at C;exact⟨_,iP,C,x.out⟩):p:=h
def K0s(h:p:=by
 induction h with
 |nil a c=>exact .nil a c
 |row e g I F C H M Y O=>
  exact .row e g I F C (d g H) (λj u r=>by rw[World.cell?_of_block (w:=w) (a:=⟨g,j,none⟩) (W g H)];exact M j u r) (λp Q=>O p Q)):p:=h
def Zt2(h:p:=by
 generalize t.ps.length=d at *;generalize E:p.ps.length=m at *;clear E;go_enter Tryz.func206,Tryz.ntmps206;go_wp2;exact bodyPost_ret (v:=Fa p.l (.slice J m a)) (by simp[results,Tryz.results206,go_sem]) iP ⟨_,iP,D.out,Dk _ _ _⟩):p:=h
def Sld(h:p:=by
 clear b;go_enter Tryz.func205,Tryz.ntmps205;go_wp2
 all_goals go_ret
 all_goals refine⟨Gw ?_,P0 _ _ _ _⟩
 all_goals rw[←z.out]
 all_goals clear z
 all_goals go_light
 all_goals try simp only[toList_nil]at *
 all_goals (rw[eW];simp only[aS,decide_eq_true_eq,beq_iff_eq,aR];first|omega|(rw[false_iff];omega))):p:=h
namespace Orch
structure Lt where
 sign:UInt8
 shape:Nat
 size:Nat
 least:Int
 most:Int
 text:Bool
 fin:UInt8
instance:Inhabited Lt:=⟨⟨0,0,0,0,0,o9,0⟩⟩
def letters:List Lt:=
 [⟨63,0,1,0,1,o9,0⟩,⟨52,0,4,-2147483648,2147483647,o9,0⟩,⟨56,0,8,-9223372036854775808,9223372036854775807,o9,0⟩,
  ⟨98,1,0,0,0,o9,0⟩,⟨116,1,0,0,0,true,0⟩,⟨91,2,0,0,0,o9,93⟩,⟨40,3,0,0,0,o9,41⟩]
def find(c:UInt8):Option Lt:=letters.find? λl=>l.sign==c
inductive Ty where
 |mk (l:Lt) (ps:List Ty)
instance:Inhabited Ty:=⟨.mk default []⟩
def Ty.l:Ty->Lt|.mk l _=>l
def Ty.ps:Ty->List Ty|.mk _ ps=>ps
inductive V where
 |mk (n:Int) (s:hU) (l:List V)
def V.n:V->Int|.mk n _ _=>n
def V.s:V->hU|.mk _ s _=>s
def V.l:V->List V|.mk _ _ l=>l
def part(t:Ty)(i:Nat):Ty:=if t.l.shape=2 then t.ps.getD 0 default else t.ps.getD i default
def parts(f:hQ->Option (Ty×hQ))(l:Lt):Nat->hQ->List Ty->Option (List Ty×hQ)
 |0,_,_=>su
 |_+1,[],_=>su
 |n+1,c::r,acc=>
  if c=l.fin then(if y acc=0∨l.shape=2/\1<y acc then su else ni (acc,r))
  else match f (c::r) with
   |none=>su
   |some (t,rest)=>parts f l n rest (acc++[t])
def ptype:Nat->hQ->Option (Ty×hQ)
 |0,_=>su
 |_+1,[]=>su
 |k+1,c::r=>match find c with
  |none=>su
  |some l=>if l.fin=0 then ni (.mk l [],r) else match parts (ptype k) l (y r+1) r [] with
   |none=>su
   |some (ps,rest)=>ni (.mk l ps,rest)
def parse(s:hQ):Option Ty:=
 if 64<y s then su else match ptype 9 s with
  |some (t,[])=>ni t
  |_=>su
def be(n:Int):Nat->hQ
 |0=>[]
 |k+1=>yr ((n / 256 ^ k) % 256).toNat::be n k
def uns(l:hQ):Nat:=l.foldl (λx c=>x * 256+c.toNat) 0
def sgn(l:hQ):Int:=if 256 ^ y l<=2 * uns l then(uns l:Int) - 256 ^ y l else uns l
def be_length(n):∀k,(be n k).length=k
 |0=>rfl
 |k+1=>by simp[be,be_length n k]
def Aaq(l:hQ):∀x,l.foldl (λx c=>x * 256+c.toNat) x=x * 256 ^ y l+uns l:=by
 induction l with
 |nil=>intro x;simp[uns]
 |cons c r O=>
  intro x;simp only[fP,aU,uns]
  grind
def BW(c)(r:hQ):uns (c::r)=c.toNat * 256 ^ y r+uns r:=by
 show List.foldl _ _ _=_;rw[fP,Aaq,Nat.zero_mul,aY]
def uns_lt(l):uns l<256 ^ y l:=by
 induction l with
 |nil=>simp[uns]
 |cons c r O=>
  rw[BW,aU,Nat.pow_succ];have h:=c.toNat_lt;have:c.toNat * 256 ^ y r<=255 * 256 ^ y r:=Nat.mul_le_mul_right _ Aa;omega
def Zc(n m):∀k,be (n+m * 256 ^ k) k=be n k
 |0=>rfl
 |k+1=>by
  have Q:(256:Int) ^ k≠0:=by
   have:(0:Int)<256 ^ k:=Int.pow_pos Aa;omega
  have e:n+m * 256 ^ (k+1)=n+(m * 256) * 256 ^ k:=Ai;unfold be;rw[e,Zc n _ k,gx _ _ Q]
  congr 3
  omega
def QB(l):be (uns l) (y l)=l:=by
 induction l with
 |nil=>rfl
 |cons c r O=>
  have Y:=uns_lt r;have M:=c.toNat_lt;have v:((uns r:Nat):Int)<256 ^ y r:=by
   grind
  have e:((uns (c::r):Nat):Int)=(uns r:Int)+(c.toNat:Int) * 256 ^ y r:=by
   rw[BW,Int.natCast_add,Int.natCast_mul,Int.natCast_pow,Int.add_comm]
   rfl
  rw[aU,be,e,Zc,O,gx _ _ Aa,Int.ediv_eq_zero_of_lt Aa v];have:((0+(c.toNat:Int)) % 256).toNat=c.toNat:=Aa;rw[this];simp
def Aj6(l):be (sgn l) (y l)=l:=by
 unfold sgn;split
 ·have h:=Zc (uns l) (-1) (y l)
  rwa[QB,show((uns l:Nat):Int) + -1 * 256 ^ y l=(uns l:Int) - 256 ^ y l by omega]at h
 ·exact QB l
section
variable (f:gZ)
def fits(t:Ty)(v:V):Bool:=
 match t.l.shape with
 |0=>decide (t.l.least<=v.n)&&decide (v.n<=t.l.5)&&decide (v.s.size=0)&&decide (y v.l=0)
 |1=>decide (v.n=0)&&(decide (v.s.size<=200)&&(!t.l.text||f v.s))&&decide (y v.l=0)
 |2=>decide (v.n=0)&&decide (v.s.size=0)&&decide (y v.l<=32)
 |_=>decide (v.n=0)&&decide (v.s.size=0)&&decide (y v.l=y t.ps)
def head(t:Ty)(v:V):hQ:=
 match t.l.shape with
 |0=>be v.n t.l.size
 |1=>be v.s.size 4++v.s.data.toList
 |2=>be (y v.l) 4
 |_=>[]
def putE(f:hQ->Ty->V->Option (hQ))(t:Ty):List V->Nat->hQ->Option (hQ)
 |[],_,out=>ni out
 |e::r,i,out=>match f out (part t i) e with
  |none=>su
  |some out'=>putE f t r (i+1) out'
def put:Nat->hQ->Ty->V->Option (hQ)
 |0,_,_,_=>su
 |k+1,out,t,v=>
  if fits f t v then
   match putE (put k) t v.l 0 (out++head t v) with
   |none=>su
   |some o=>if y o<=1000 then ni o else su
  else su
def count(b:hQ)(most:Nat):Option (Nat×hQ):=
 if y b<4 then su else if most<uns (b.take 4) then su else ni (uns (b.take 4),b.drop 4)
def takeE(f:Ty->hQ->Option (V×hQ))(t:Ty):Nat->Nat->hQ->Option (List V×hQ)
 |0,_,b=>ni ([],b)
 |m+1,i,b=>match f (part t i) b with
  |none=>su
  |some (e,rest)=>match takeE f t m (i+1) rest with
   |none=>su
   |some (es,r)=>ni (e::es,r)
def bytesV(l:hQ):V:=.mk 0 ⟨l.toArray⟩ []
def listV(r:List V×hQ):V×hQ:=(.mk 0 nu r.1,r.2)
def take:Nat->Ty->hQ->Option (V×hQ)
 |0,_,_=>su
 |k+1,t,b=>
  match t.l.shape with
  |0=>if y b<t.l.size then su else
    if fits f t (.mk (sgn (b.take t.l.size)) nu []) then ni (.mk (sgn (b.take t.l.size)) nu [],b.drop t.l.size) else su
  |1=>match count b 200 with
   |none=>su
   |some (n,rest)=>if y rest<n then su else
    if fits f t (bytesV (rest.take n)) then ni (bytesV (rest.take n),rest.drop n) else su
  |2=>match count b 32 with
   |none=>su
   |some (n,rest)=>(takeE (take k) t n 0 rest).map listV
  |_=>(takeE (take k) t (y t.ps) 0 b).map listV
def encode(s:hQ)(v:V):Except Nat (hQ):=
 match parse s with
 |none=>.error 1
 |some t=>match put f 9 [] t v with
  |none=>.error 2
  |some b=>.ok b
def decode(s:hQ)(b:hQ):Except Nat V:=
 match parse s with
 |none=>.error 1
 |some t=>if 1000<y b then .error 3 else match take f 9 t b with
  |some (v,[])=>.ok v
  |_=>.error 3
def Pa(f:Ty->hQ->Option (V×hQ))(t):∀m i b X r,takeE f t m i b=ni (X,r)->y X=m:=by
 intro m
 induction m with
 |zero=>intro i b X r h;simp[takeE]at h;simp[←h.1]
 |succ m O=>
  intro i b X r h;unfold takeE at h
  grind
def AP(k t)(O:∀t b v c,take f k t b=ni (v,c)->∃pre,b=pre++c/\∀a,y a+y pre<=1000->put f k a t v=ni (a++pre)):∀m i b X c,takeE (take f k) t m i b=ni (X,c)->∃pre,b=pre++c/\∀a,y a+y pre<=1000->putE (put f k) t X i a=ni (a++pre):=by
 intro m
 induction m with
 |zero=>intro i b X c h;obtain⟨rfl,rfl⟩:=h;exact⟨[],iP,λa _=>by simp[putE]⟩
 |succ m d=>
  intro i b X c h;unfold takeE at h;split at h
  ·cases h
  ·rename_i j l I;split at h
   ·cases h
   ·rename_i G n N;simp only[aW,cW]at h;obtain⟨g,M,e⟩:=O _ _ _ _ I;obtain⟨r,D,o⟩:=d _ _ _ _ N;refine⟨g++r,Ai,λa K=>?_⟩;rw[aM]at K;rw[←h.1,putE,e a Aa]
    grind
def count_some{b m n a}(h:count b m=ni (n,a)):n<=m/\be n 4++a=b/\y a+4=y b:=by
 unfold count at h;split at h
 ·cases h
 ·split at h
  ·cases h
  ·obtain⟨rfl,rfl⟩:=h;have:=QB (b.take 4)
   simp_all
def put_take:∀k t b v a,take f k t b=ni (v,a)->∃pre,b=pre++a/\∀e,iR e+iR pre<=1000->put f k e t v=ni (e++pre):=by
 intro k
 induction k with
 |zero=>intro t b v a h;simp[take]at h
 |succ k O=>
  intro t b v a h;unfold take at h;split at h
  ·rename_i P;split at h
   ·cases h
   ·split at h
    ·rename_i d R;simp only[aW,cW]at h;obtain⟨rfl,rfl⟩:=h;refine⟨b.take t.l.size,by rw[dO],λe K=>?_⟩;have j:(b.take t.l.size).length=t.l.size:=Aj;have D:=Aj6 (b.take t.l.size);rw[j]at D K;unfold put;rw[aJ R];simp only[head,P,V.n,V.l,putE,D]
     grind
    ·cases h
  ·rename_i P;split at h
   ·cases h
   ·rename_i n M g;split at h
    ·cases h
    ·split at h
     ·rename_i d R;simp only[aW,cW]at h;obtain⟨rfl,rfl⟩:=h;obtain⟨z,D,Y⟩:=count_some g;have j:(M.take n).length=n:=Aj;refine⟨be n 4++M.take n,by rw[bY,dO,D],λe K=>?_⟩;have m:(bytesV (M.take n)).s.size=n:=by simp[bytesV,V.s,ByteArray.size,j]
      unfold put;rw[aJ R];simp only[head,P];have y:(bytesV (M.take n)).s.data.toList=M.take n:=by simp[bytesV,V.s]
      have c:(bytesV (M.take n)).l = []:=iP;rw[m,y,c,putE];simp only;rw[aJ (by rwa[aM])]
     ·cases h
  ·rename_i P;split at h
   ·cases h
   ·rename_i n M g;obtain⟨⟨X,r⟩,N,L⟩:=bB.1 h;simp only[listV,cW]at L;obtain⟨rfl,rfl⟩:=L;obtain⟨z,D,Y⟩:=count_some g;obtain⟨p,Q,Z⟩:=AP f k t O _ _ _ _ _ N;have d:=Pa _ _ _ _ _ _ _ N;refine⟨be n 4++p,by rw[bY,←Q,D],λe K=>?_⟩;have l:=be_length n 4;have R:fits f t (.mk 0 nu X)=true:=by
     simp[fits,P,V.n,V.s,V.l,d,z]
    unfold put;rw[aJ R];simp only[head,P,V.l];rw[d,Z _ (by rw[aM]at K⊢;omega)];simp only;rw[aJ (by simp only[aM]at K⊢;omega),bY]
  ·rename_i F C J;obtain⟨⟨X,r⟩,N,L⟩:=bB.1 h;simp only[listV,cW]at L;obtain⟨rfl,rfl⟩:=L;obtain⟨p,Q,Z⟩:=AP f k t O _ _ _ _ _ N;refine⟨p,Q,λe K=>?_⟩;have R:fits f t (.mk 0 nu X)=true:=by
    simp[fits,V.n,V.s,V.l,(Pa _ _ _ _ _ _ _ N)]
   have i:head t (.mk 0 nu X) = []:=by
    simp[head]
   unfold put;rw[aJ R,i];simp only[V.l,bW];rw[Z _ K];simp only;rw[aJ (by rwa[aM])]
end
def Aeh(k):(0:Int)<256 ^ k:=Int.pow_pos Aa
def uns_be(n):∀k,((uns (be n k):Nat):Int)=n % 256 ^ k
 |0=>by simp[be,uns,Int.emod_one]
 |k+1=>by
  have Q:=Aeh k;have F:0<=(n / 256 ^ k) % 256:=Int.emod_nonneg _ Aa;have D:(yr ((n / 256 ^ k) % 256).toNat).toNat=((n / 256 ^ k) % 256).toNat:=by
   simp only[kn];omega
  unfold be;rw[BW,be_length,D,Int.natCast_add,(uns_be n k),Int.natCast_mul,Int.natCast_pow,Int.toNat_of_nonneg F]
  show(n / 256 ^ k) % 256 * 256 ^ k+n % 256 ^ k=_;have S:=Int.mul_ediv_add_emod n (256 ^ k);have U:=Int.emod_nonneg n (show(256:Int) ^ k≠0 by omega);generalize f:n / 256 ^ k=q at *;generalize e:n % 256 ^ k=r at *;generalize a:q / 256=z at *;generalize d:q % 256=G at *;have en:n=(G * 256 ^ k+r)+256 ^ (k+1) * z:=by
   grind
  have Y:G * 256 ^ k+r<256 ^ (k+1):=by
   have:G * 256 ^ k<=255 * 256 ^ k:=Int.mul_le_mul_of_nonneg_right Aa Aa;omega
  have v:0<=G * 256 ^ k+r:=Int.add_nonneg (Int.mul_nonneg F Aa) U;rw[en,Int.add_mul_emod_self_left,gG v Y]
def Aio(n:Nat)(h:n<=200):uns (be n 4)=n:=by
 have:=uns_be n 4;omega
def Al7(n k)(F:-(256 ^ k)<=2 * n)(C:2 * n<256 ^ k):sgn (be n k)=n:=by
 have r:=uns_be n k;have a:((256 ^ k:Nat):Int)=256 ^ k:=Ac;unfold sgn;rw[be_length];rcases(by omega:n<0∨0<=n) with z|z
 ·have e:n % 256 ^ k=n+256 ^ k:=by
   rw[←Int.add_emod_right,gG Aa Aa]
  omega
 ·rw[gG z Aa]at r;omega
def Anh(l:Lt):Prop:=l.shape=0->-(256 ^ l.size:Int)<=2 * l.least/\2 * l.5<256 ^ l.size
def PR:Nat->Ty->Prop
 |0,_=>True
 |k+1,t=>Anh t.l/\∀j,PR k (part t j)
def Pb:∀k,PR k default
 |0=>trivial
 |k+1=>⟨λ_=>Ae,λj=>by exact Pb k⟩
def GC{c l}(a:find c=ni l):Anh l:=by
 have h:=List.mem_of_find?_eq_some a;simp only[letters,bG,eH,or_false]at h;rcases h with rfl|rfl|rfl|rfl|rfl|rfl|rfl<;>intro s<;>first|(constructor<;>decide)|cases s
def ZA(Q:Ty->Prop){f:hQ->Option (Ty×hQ)}(I:∀s t r,f s=ni (t,r)->Q t)(l):∀n s D a r,(∀t∈D,Q t)->parts f l n s D=ni (a,r)->∀t∈a,Q t:=by
 intro n
 induction n with
 |zero=>intro s D a r _ h;cases s<;>simp[parts]at h
 |succ n O=>
  intro s D a r d h;cases s with
  |nil=>simp[parts]at h
  |cons c s=>
   unfold parts at h
   grind
def NL(Q:Ty->Prop)(y:Q default){l a}(h:∀t∈a,Q t)(j):Q (part (.mk l a) j):=by
 have g:∀i,Q (a.getD i default):=λi=>by
  grind
 unfold part;split
 ·exact g 0
 ·exact g j
def SJ:∀k s t r,ptype k s=ni (t,r)->∀m,PR m t:=by
 intro k
 induction k with
 |zero=>intro s t r h;cases s<;>simp[ptype]at h
 |succ k O=>
  intro s t r h m;cases s with
  |nil=>simp[ptype]at h
  |cons c s=>
   unfold ptype at h;split at h
   ·cases h
   ·rename_i l K;cases m with
    |zero=>trivial
    |succ m=>
     split at h
     ·simp only[aW,cW]at h;rw[←h.1];exact⟨GC K,NL _ (Pb m) (λ_ h=>by cases h)⟩
     ·split at h
      ·cases h
      ·rename_i a b B;simp only[aW,cW]at h;rw[←h.1];exact⟨GC K,NL _ (Pb m) (ZA _ (λs t r h=>O s t r h m) l _ _ _ _ _ (λ_ h=>by cases h) B)⟩
def parse_well{s t}(h:parse s=ni t)(m):PR m t:=by
 unfold parse at h;split at h
 ·cases h
 ·split at h
  ·rename_i S R;injection h with h;subst h;exact SJ _ _ _ _ R m
  ·cases h
section
variable (f:gZ)
def TJ(k t)(W:∀j,PR k (part t j))(c:∀t v a o,PR k t->put f k a t v=ni o->∃pre,o=a++pre/\∀b,take f k t (pre++b)=ni (v,b)):∀X i a o,putE (put f k) t X i a=ni o->∃pre,o=a++pre/\∀b,takeE (take f k) t (y X) i (pre++b)=ni (X,b):=by
 intro X
 induction X with
 |nil=>intro i a o h;simp only[putE,aW]at h;subst h;exact⟨[],Ad,λb=>by simp[takeE]⟩
 |cons e X d=>
  intro i a o h;unfold putE at h;split at h
  ·cases h
  ·rename_i I O;obtain⟨m,rfl,C⟩:=c _ _ _ _ (W i) O;obtain⟨r,rfl,J⟩:=d _ _ _ h;refine⟨m++r,Ad,λb=>?_⟩;rw[aU,takeE,bY,C];simp only;rw[J]
def I6{s:hU}(h:s.size=0):s=nu:=by
 simp_all
def LJ(n)(m:Nat)(h:n<=m)(L:m<=200)(a):count (be n 4++a) m=ni (n,a):=by
 have K:=be_length (n:Int) 4;unfold count;rw[aL (by simp[K]),cV Aa,bN Aa,Aio n Aa,aL Aa,
  dY Aa,fE Aa,bR]
def take_put:∀k t v e o,PR k t->put f k e t v=ni o->∃pre,o=e++pre/\∀c,take f k t (pre++c)=ni (v,c):=by
 intro k
 induction k with
 |zero=>intro t v e o _ h;simp[put]at h
 |succ k i=>
  intro t v e o W h;unfold put at h;split at h
  ·rename_i I;split at h
   ·cases h
   ·rename_i p O;split at h
    ·injection h with h;subst h;obtain⟨pre,rfl,Q⟩:=TJ f k t W.2 i _ _ _ _ O;refine⟨head t v++pre,Ad,λc=>?_⟩;obtain⟨n,s,l⟩:=v;unfold take;unfold fits at I;split
     ·rename_i b;rw[b]at I;simp only[V.n,V.s,V.l,aS]at I;obtain⟨⟨⟨F,C⟩,J⟩,T⟩:=I;replace F:=of_decide_eq_true F;replace C:=of_decide_eq_true C;replace J:=of_decide_eq_true J;replace T:=of_decide_eq_true T;have d:=I6 J;have g:l = []:=bO.1 T;subst d g;refine Zk5 λL=>?_;subst L;have D:=be_length n t.l.size;have a:head t (.mk n nu [])=be n t.l.size:=by unfold head;rw[b];rfl
      obtain⟨r,q⟩:=W.1 b;rw[a,bW,aL Age,cV Aa,bN Aa,Al7 n _ Aa Aa,
       dY Aa,fE Aa,bR,aJ]
      unfold fits;rw[b];simp only[V.n,V.s,V.l,aS];exact⟨⟨⟨decide_eq_true F,decide_eq_true C⟩,decide_eq_true J⟩,decide_eq_true T⟩
     ·rename_i b;rw[b]at I;have Y:=I;simp only[V.n,V.s,V.l,aS]at I;obtain⟨⟨F,C,_⟩,T⟩:=I;replace F:=of_decide_eq_true F;replace C:=of_decide_eq_true C;replace T:=of_decide_eq_true T;have g:l = []:=bO.1 T;subst F g;refine Zk5 λL=>?_;subst L;have a:head t (.mk 0 s [])=be s.size 4++s.data.toList:=by unfold head;rw[b];rfl
      have K:y s.data.toList=s.size:=iP;rw[a,bW,bY,LJ _ _ C (aB _)];simp only;rw[aL (by simp[K]),cV Aa,bN Aa,dY Aa,fE Aa,bR,aJ]
      ·rfl
      ·unfold fits
       rwa[b]
     ·rename_i b;rw[b]at I;simp only[V.n,V.s,V.l,aS]at I;obtain⟨⟨F,J⟩,T⟩:=I;replace F:=of_decide_eq_true F;replace J:=of_decide_eq_true J;replace T:=of_decide_eq_true T;have d:=I6 J;subst F d;have a:head t (.mk 0 nu l)=be (y l) 4:=by unfold head;rw[b];rfl
      rw[a,bY,LJ _ _ T Aa];simp only;have:=Q c;simp only[V.l]at this;rw[this]
      rfl
     ·rename_i j H m;have a:head t (.mk n s l) = []:=by unfold head;split<;>simp_all
      split at I
      ·exact absurd HM j
      ·exact absurd HM H
      ·exact absurd HM m
      ·simp only[V.n,V.s,V.l,aS]at I;obtain⟨⟨F,J⟩,T⟩:=I;replace F:=of_decide_eq_true F;replace J:=of_decide_eq_true J;replace T:=of_decide_eq_true T;have d:=I6 J;subst F d;have:=Q c;simp only[V.l]at this;rw[a,bR,←T,this]
       rfl
    ·cases h
  ·cases h
def SL:∀k t v a o,put f k a t v=ni o->y o<=1000:=by
 intro k t v a o h;cases k with
 |zero=>simp[put]at h
 |succ k=>
  unfold put at h
  grind
def round(s b v)(h:encode f s v=.ok b):decode f s b=.ok v/\(∀a c,b=a++[c]->decode f s a=.error 3)/\∀c,decode f s (b++[c])=.error 3:=by
 unfold encode at h;split at h
 ·cases h
 ·rename_i t R;split at h
  ·cases h
  ·rename_i J D;injection h with h;subst h;obtain⟨pre,N,Q⟩:=take_put f 9 t v [] J (parse_well R 9) D;have K:=SL f _ _ _ _ _ D;rw[bR]at N;subst N;have F:=Q [];rw[bW]at F;refine⟨?_,?_,?_⟩
   ·unfold decode
    grind
   ·intro a c e;unfold decode;rw[R];simp only;split
    ·rfl
    ·split
     ·rename_i U q;obtain⟨u,d,Z⟩:=put_take f 9 t a U [] q;rw[bW]at d;subst d;obtain⟨r,A,G⟩:=take_put f 9 t U [] _ (parse_well R 9) (Z [] Ai)
      grind
     ·rfl
   ·intro c;unfold decode;rw[R];simp only;split
    ·rfl
    ·rw[Q [c]]
end
section
variable (f:gZ)
variable {f}
end
structure Node where
 path:hU
 data:hU
 note:hU
 made:Int
 changed:Int
 version:Int
instance:Inhabited Node:=⟨⟨nu,nu,nu,0,0,0⟩⟩
end Orch
namespace Go.Proofs.YtcbilgmfdgpomaaGreatDoor
variable {c:Array Value}{t:TypeId}
open Go.RowKit
def Bytes(w:T)(b off:Nat)(l:hQ):Prop:=∀i (h:i<y l),w.cell? ⟨b,off+i,su⟩=ni (pq zi l[i].toNat)
def Ahu(X c:Nat)(t:X<72057594037927936)(M:c<256):bits .or .u64 ((X:Int) * 256) (c:Int)=((X * 256+c:Nat):Int):=by
 have e:((X:Int) * 256)=((X * 256:Nat):Int):=Aa;rw[e,u64_or_nat _ _ Aa Aa];have:=Nat.shiftLeft_add_eq_or_of_lt (i:=8) Aa X;rw[Nat.shiftLeft_eq]at this;rw[←this]
def R0{k a b}(h:a=b):Ending.returned (pq k a)=xr (pq k b):=by rw[h]
def Aip{k a b}(h:a=b):Value.int k a=pq k b:=by rw[h]
def Iu(w b off n I)(l:hQ)(z:y l=n)(K:n<=8)(D:Bytes w b off l):sf m 156 #[um (ni (iK b off)) n I] w λe B=>e=xr (pq .u64 (Orch.uns l))/\B=w:=by
 subst z;go_enter func156,ntmps156;go_wp2;go_loop [3,8] (λx i=>∃k,k<=y l/\i=iL k/\x=pq .u64 (Orch.uns (l.take k))) (λ_ i=>y l - (intOf i).toNat)
 case atStart=>exact⟨0,bE _,iP,iP⟩
 case round=>
  obtain⟨k,E,rfl,rfl⟩:=hrel;by_cases Y:k<y l
  ·have f:=D k Y;have V:Hid (Orch.uns (l.take (k+1))=Orch.uns (l.take k) * 256+l[k].toNat):=(by
      rw[dM Y];unfold Orch.uns;rw[List.foldl_append]
      rfl)
   have a:Orch.uns (l.take k)<256 ^ 7:=by
    exact aC (Orch.uns_lt (l.take k)) (Nat.pow_le_pow_right Aa Aj)
   have M:(Orch.uns (l.take k):Int)<72057594037927936:=by
    omega
   have h:l[k].toNat<256:=gU _;clear a;generalize Orch.uns (l.take k)=X at *;go_wp2;go_round
   case rel=>exact⟨k+1,Aa,by go_num,Aip (by rw[Ahu X _ Aa h,V.out])⟩
   case measure=>first|(simp[intOf];done)|(simp[intOf];omega)
  ·go_wp2;go_ret;exact⟨R0 (by rw[bN Aa]),iP⟩
def TE(l:hQ)(n)(z:y l=n):Orch.sgn l=if 256 ^ n<=2 * Orch.uns l then(Orch.uns l:Int) - 256 ^ n else Orch.uns l:=by
 subst z;rfl
def Ae9(w b off I)(l:hQ)(z:y l=1)(D:Bytes w b off l):E m 158 #[um (ni (iK b off)) 1 I] w λe B=>e=xr (iL (Orch.sgn l))/\B=w:=by
 have Y:(Orch.uns l:Int)<256:=by
  have:=Orch.uns_lt l;rw[z]at this;omega
 have n:Hid _:=TE l 1 z;go_enter js,vw;go_wp2_with (go_at_call 156;apply(Iu w b off 1 I l z Aa D).mono;rintro e B⟨rfl,rfl⟩);go_ret;refine⟨R0 ?_,iP⟩;rw[n.out];unfold wrap64;split<;>omega
def BN(w b off I)(l:hQ)(z:y l=4)(D:Bytes w b off l):E m 158 #[um (ni (iK b off)) 4 I] w λe B=>e=xr (iL (Orch.sgn l))/\B=w:=by
 have Y:(Orch.uns l:Int)<4294967296:=by
  have:=Orch.uns_lt l;rw[z]at this;omega
 have n:Hid _:=TE l 4 z;go_enter js,vw;go_wp2_with (go_at_call 156;apply(Iu w b off 4 I l z Aa D).mono;rintro e B⟨rfl,rfl⟩);go_ret;refine⟨R0 ?_,iP⟩;rw[n.out];unfold wrap64;split<;>omega
def Afa(w b off I)(l:hQ)(z:y l=8)(D:Bytes w b off l):E m 158 #[um (ni (iK b off)) 8 I] w λe B=>e=xr (iL (Orch.sgn l))/\B=w:=by
 have c:=Iu w b off 8 I l z Aa D;have L:Hid (Orch.uns l<18446744073709551616):=by
  have:=Orch.uns_lt l
  rwa[z]at this
 have n:Hid _:=TE l 8 z;generalize Orch.uns l=X at *;go_enter js,vw;go_wp2_with (go_at_call 156;apply c.mono;rintro e B⟨rfl,rfl⟩);go_ret;refine⟨R0 ?_,iP⟩;rw[n.out];have C:=L.out;have e:IntKind.u64.wrap (X:Int)=(X:Int):=by
  simp[IntKind.wrap,IntKind.bits,IntKind.signed];omega
 unfold wrap64;split<;>omega
def A5(l:hQ):List O:=l.map λc=>pq zi c.toNat
def I4(a b):A5 (a++b)=A5 a++A5 b:=cP
def UE(n m):∀a,m+1<=a->(Orch.be n a).take (a - m)=(Orch.be n a).take (a - (m+1))++[yr ((n / 256 ^ m) % 256).toNat]:=by
 intro a
 induction a with
 |zero=>intro h;omega
 |succ k O=>
  intro h;unfold Orch.be;by_cases e:m=k
  ·simp_all
  ·rw[show k+1 - m=(k - m)+1 by omega,show k+1 - (m+1)=(k - (m+1))+1 by omega,y9,y9,O Aa]
   rfl
def UF(n m)(L:m<=7):IntKind.u64.wrap n / 2 ^ (8 * m) % 256=((yr ((n / 256 ^ m) % 256).toNat).toNat:Int):=by
 have e:IntKind.u64.wrap n=n % 18446744073709551616:=by simp[IntKind.wrap,IntKind.bits,IntKind.signed]
 have f:∀q:Int,((yr (q % 256).toNat).toNat:Int)=q % 256:=λq=>by
  rw[kn];omega
 rw[e,f]
 match m,L with
 |0,_=>simp
 |1,_=>omega
 |2,_=>omega
 |3,_=>omega
 |4,_=>omega
 |5,_=>omega
 |6,_=>omega
 |7,_=>omega
def Tryz.info5:(prog.info? 5).map (λi=>(i.zero,i.size,i.bytes))=ni (ni (pq zi 0),1,1):=Ab
def PZ(w b v n)(a:Nat)(X:hQ)(s:a<=8)(f:w.ownsRow b 5 1 v (y X) (A5 X))(p:b<=R w.1)(Z:y X<=100000):sf qz 80 #[v,iL n,iL a] w λc B=>∃U,c=xr U/\B.ownsRow b 5 1 U (X++Orch.be n a).length (A5 (X++Orch.be n a))/\ri b w B:=by
 obtain⟨e,V,o,W,T⟩:=info_parts Tryz.info5;go_enter func80,ntmps80;go_wp2;go_loopw [0,7] (λu i wr=>∃j,j<=a/\i=iL ((j:Int) - 1)/\Hid (wr.ownsRow b 5 1 u (X++(Orch.be n a).take (a - j)).length (A5 (X++(Orch.be n a).take (a - j))))/\Hid (ri b w wr))
  (λ_ i _=>(intOf i+1).toNat)
 case atStart=>exact⟨a,aB _,iP,by show World.ownsRow _ _ _ _ _ _ _;rw[Nat.sub_self];simpa using f,nq _ _⟩
 case round=>
  obtain⟨j,l,rfl,O,x⟩:=hrel;cases j with
  |zero=>
   exact Lgl
  |succ m=>
   rw[show((m+1:Nat):Int) - 1=(m:Int) by omega];refine P4o λK g=>?_;have HB:Hid (IntKind.u64.wrap n / 2 ^ (8 * m) % 256=((yr ((n / 256 ^ m) % 256).toNat).toNat:Int)):=UF n m Aa;generalize X++(Orch.be n a).take (a - (m+1))=L at *;go_wp2_with (at_builtin;refine wpList_append_own _ iP _ _ 37 iP b 5 e (pq zi 0) 1 1 underlying37 V o W T iP Ae _ _ _ iP (O.out.alloc _) (iJ wr.1.size) 1 1 [_] iP iP (cell_one_new _ _ _) ?c2 ?c3 ?c4 ?c5 ?_)
   case c2=>intro u r;simp at r;subst r;rfl
   case c3=>unfold maxLen;omega
   case c4=>omega
   case c5=>have:=x.out.size;simp;omega
   intro U H J d _;have M:Hid (ri b w H):=(x.out.alloc (by have:=x.out.size;omega) _).grown d (by have:=x.out.size;simp;omega) (λh E=>(O.out.lt h E).1);refine Jir λk=>?_;clear J d;exact Yqt
#print axioms PZ
abbrev ltv(sg sh sz lo hi:Int)(tx:Bool)(fn:Int):O:=.agg #[pq zi sg,iL sh,iL sz,iL lo,iL hi,vp tx,pq zi fn]
abbrev Il(sg sh sz lo hi:Int)(tx:Bool)(fn:Int)(ps:O):O:=.agg #[pq zi sg,iL sh,iL sz,iL lo,iL hi,vp tx,pq zi fn,ps]
abbrev vv(n:Int)(s:hU)(l:O):O:=.agg #[iL n,x7 s,l]
def Ak0:Nat:=8
structure Im(valid:gZ)(Tabs:iA):Prop where
 gives:∀(s:hU)w,Tabs w->s.size<=200->sf qz 201 #[x7 s] w λe w'=>e=xr (vp (valid s))/\iM w w'
 kept:∀{B} {w w'},Ak0<=B->ri B w w'->Tabs w->Tabs w'
 size:∀{w},Tabs w->Ak0<=iS w.1
def Gw{a b}(h:a=b):Ending.returned (vp a)=xr (vp b):=by rw[h]
def toList_nil(s:hU):s.toList = []↔s.size=0:=by
 rw[Lib.toList_data,Lib.size_eq];exact bO.symm
def Be(w o):iM w (w.alloc o):=(nq _ _).alloc (aB _) o
def Dk(w o I):iM w ((w.alloc o).alloc I):=(Be w o).alloc Ad I
def P0(w o I A):iM w (((w.alloc o).alloc I).alloc A):=(Dk w o I).alloc Ah A
def CO(U:Im z F)(H)(e:F H)(a b c d f K u)(s:hU):E m 218 #[ltv a b c d f K u,x7 s] H λg B=>
   g=xr (vp (decide (s.size<=200)&&(!K||z s)))/\iM H B:=by
 by_cases J:s.size<=200
 ·have h:(s.size:Int)<=200:=Aa;rw[decide_eq_true J,gJ];cases K
  ·clear e;go_enter p5,ll;go_wp2;go_ret;exact⟨Gw Ad,Be _ _⟩
  ·have R:F (H.alloc (.cells #[pq zi a,iL b,iL c,iL d,iL f,vp true,pq zi u] 205)):=U.kept (U.size e) (Be _ _) e;have i:=U.1 s _ R J;generalize z s=V at *;clear e R;go_enter p5,ll;go_wp2_with (go_at_call 201;apply i.mono;rintro g B⟨rfl,D⟩);go_ret;exact⟨Gw Ad,(Be _ _).trans (D.mono Ad)⟩
 ·have h:¬(s.size:Int)<=200:=Aa;rw[decide_eq_false J,gB];clear e;go_enter p5,ll;go_wp2;go_ret;exact⟨Gw iP,Be _ _⟩
def Akw(w h P a V K u)(F Q:iE)(p d v q n s):E m 205 #[Il h 0 P a V K u (um F p d),vv n s (um Q v q)] w λe B=>
   e=xr (vp (decide (a<=n)&&decide (n<=V)&&decide (s.size=0)&&decide (v=0)))/\iM w B:=by
 obtain⟨R,b⟩:∃R,(decide (a<=n)&&decide (n<=V)&&decide (s.size=0)&&decide (v=0))=R:=⟨_,iP⟩;rw[b];have z:Hid ((decide (a<=n)&&decide (n<=V)&&decide (s.size=0)&&decide (v=0))=R):=b;exact Sld
def Aky(w h P a V K u)(F Q:iE)(p d v q n s):E m 205 #[Il h 2 P a V K u (um F p d),vv n s (um Q v q)] w λe B=>
   e=xr (vp (decide (n=0)&&decide (s.size=0)&&decide (v<=32)))/\iM w B:=by
 obtain⟨R,b⟩:∃R,(decide (n=0)&&decide (s.size=0)&&decide (v<=32))=R:=⟨_,iP⟩;rw[b];have z:Hid ((decide (n=0)&&decide (s.size=0)&&decide (v<=32))=R):=b;exact Sld
def Akz(w h P a V K u)(F Q:iE)(p d v q n s):E m 205 #[Il h 3 P a V K u (um F p d),vv n s (um Q v q)] w λe B=>
   e=xr (vp (decide (n=0)&&decide (s.size=0)&&decide (v=p)))/\iM w B:=by
 obtain⟨R,b⟩:∃R,(decide (n=0)&&decide (s.size=0)&&decide (v=p))=R:=⟨_,iP⟩;rw[b];have z:Hid ((decide (n=0)&&decide (s.size=0)&&decide (v=p))=R):=b;exact Sld
def Akx(U:Im z F)(w)(hT:F w)(f P c b K u)(d Q:iE)(p h v q n s):E m 205 #[Il f 1 P c b K u (um d p h),vv n s (um Q v q)] w λe B=>
   e=xr (vp (decide (n=0)&&(decide (s.size<=200)&&(!K||z s))&&decide (v=0)))/\iM w B:=by
 have g:Hid (∀B,F B->E m 218 #[ltv f 1 P c b K u,x7 s] B λe t=>e=xr (vp (decide (s.size<=200)&&(!K||z s)))/\iM B t):=λB i=>CO U B i f 1 P c b K u s;generalize (decide (s.size<=200)&&(!K||z s))=C at *;by_cases a:n=0
 ·subst a;have o:Hid (F (((w.alloc (.cells #[pq zi f,iL 1,iL P,iL c,iL b,vp K,pq zi u,um d p h] 208)).alloc (.cells #[iL 0,x7 s,um Q v q] 183)).alloc (.cells #[pq zi f,iL 1,iL P,iL c,iL b,vp K,pq zi u] 205))):=U.kept (U.size hT) (P0 _ _ _ _) hT;clear hT;go_enter func205,ntmps205;go_wp2_with (go_at_call 218;refine(g.out _ ?hT).mono ?_)
  case hT=>exact o.out
  rintro e B⟨rfl,D⟩;have Z:iM w B:=(P0 _ _ _ _).trans (D.mono Ah);have x:B.cell? ⟨R w.1+1,2,su⟩=ni (um Q v q):=(D.cell (p:=⟨R w.1+1,2,su⟩) Ad).trans (by rw[World.cell?_alloc_past _ _ _ Ad,World.cell?_alloc_at _ _ _ _ Ad];rfl);clear D o g;cases C
  ·go_wp2;go_ret;exact⟨Gw Ad,Z⟩
  ·go_wp2;go_ret;refine⟨Gw ?_,Z⟩;rw[eW];simp
 ·have j:(n==0)=o9:=by simpa using a
  rw[decide_eq_false a,gB,gB];clear hT g a;go_enter func205,ntmps205;go_wp2;go_ret;exact⟨Gw iP,P0 _ _ _ _⟩
open Orch
def Us{b:Type}(f:a->List b)(k)(I:∀x,(f x).length=k):∀(L:List a)i j,j<k->(L.flatMap f)[i * k+j]?=(L[i]?).bind λx=>(f x)[j]?:=by
 intro L
 induction L with
 |nil=>intro i j _;simp
 |cons x r O=>
  intro i j l;rw[List.flatMap_cons];cases i with
  |zero=>
   grind
  |succ i=>
   rw[dK Ai,I,show(i+1) * k+j - k=i * k+j by rw[Nat.succ_mul];omega,O i j l];simp
def Acr{b:Type}(f:a->List b)(k)(I:∀x,(f x).length=k):∀L,(L.flatMap f).length=y L * k:=by
 intro L
 induction L with
 |nil=>simp
 |cons x r O=>grind
abbrev RE(l:Lt):O:=ltv l.sign.toNat l.shape l.size l.least l.5 l.text l.fin.toNat
abbrev Fa(l:Lt)(ps:O):O:=Il l.sign.toNat l.shape l.size l.least l.5 l.text l.fin.toNat ps
abbrev OY(v:V)(l:O):O:=vv v.n v.s l
def Oh(p:Ty×O):List O:=[pq zi p.1.l.sign.toNat,iL p.1.l.shape,iL p.1.l.size,iL p.1.l.least,iL p.1.l.5,vp p.1.l.text,pq zi p.1.l.fin.toNat,p.2]
def Eo(p:V×O):List O:=[iL p.1.n,x7 p.1.s,p.2]
inductive Fc(w:qg)(S:hY):List Ty->w8->Prop
 |nil (a:iE) (c):Fc w S [] (um a 0 c)
 |row (ps) (g cap) (h0:ps≠[]) (hcap:iR ps<=cap) (hS:S g)
   (hc:∀j u,(ps.flatMap Oh)[j]?=ni u->w.cell? (iK g j)=ni u)
   (hr:∀p,p∈ps->Fc w S p.1.ps p.2):Fc w S (ps.map wv) (um (ni (iJ g)) (iR ps) cap)
inductive D9(w:qg)(S:hY):List V->w8->Prop
 |nil (a:iE) (c):D9 w S [] (um a 0 c)
 |row (ps) (g cap) (h0:ps≠[]) (hcap:iR ps<=cap) (hS:S g)
   (hc:∀j u,(ps.flatMap Eo)[j]?=ni u->w.cell? (iK g j)=ni u)
   (hr:∀p,p∈ps->D9 w S p.1.l p.2):D9 w S (ps.map wv) (um (ni (iJ g)) (iR ps) cap)
def Fc.congr(d:∀b,S b->N b)(W:∀b,S b->B.1[b]?=w.1[b]?){L}(h:Fc w S L v):Fc B N L v:=by
 exact K0s
def D9.congr(d:∀b,S b->N b)(W:∀b,S b->B.1[b]?=w.1[b]?){L}(h:D9 w S L v):D9 B N L v:=by
 exact K0s
def Fc.shape{L}(h:Fc w S L v):∃a c,v=um a (y L) c:=by
 cases h with
 |nil=>exact⟨_,_,iP⟩
 |row b g I=>simp
def D9.shape{L}(h:D9 w S L v):∃a c,v=um a (y L) c:=by
 cases h with
 |nil=>exact⟨_,_,iP⟩
 |row b g I=>simp
def FV(p):(Oh p).length=8:=iP
def FY(p):(Eo p).length=3:=iP
def Fc.at{L v}(h:Fc w S L v)(i)(V:i<y L):∃g I x,v=um (ni (iJ g)) (y L) I/\y L<=I/\S g/\Fc w S L[i].ps x/\∀j u,(Oh (L[i],x))[j]?=ni u->w.cell? ⟨g,i * 8+j,su⟩=ni u:=by
 cases h with
 |nil=>simp at V
 |row ps g I F C H M Y=>
  have p:i<y ps:=by simpa using V
  refine⟨g,I,ps[i].2,by rw[bU],Ai,H,?_,λj u r=>?_⟩
  ·grind
  ·apply M _ u;have l:j<8:=by
    have:=(aD.1 r).1
    rwa[FV]at this
   rw[Us Oh 8 FV ps i j l,aG p,eT]
   grind
def Fc.of_own{a ps}(h:w.ownsRow a 208 8 v (y ps) (ps.flatMap Oh))(Y:∀p,p∈ps->Fc w S p.1.ps p.2)(c:∀g,v.ownBlock=ni g->S g):Fc w S (ps.map wv) v:=by
 rcases h.2 with⟨rfl,F⟩|⟨g,I,H,rfl,D,G,z,_,s,R⟩
 ·rw[bO.1 F];exact .nil _ _
 ·by_cases F:ps = []
  ·subst F;exact .nil _ _
  ·refine .row ps g I F z (c g iP) (λj u r=>?_) Y;have:=h.cells iP j u r
   rwa[Addr.add_lit,aY]at this
def D9.of_own{a}(h:w.ownsRow b 183 3 v (y a) (a.flatMap Eo))(Y:∀p,p∈a->D9 w S p.1.l p.2)(c:∀g,v.ownBlock=ni g->S g):D9 w S (a.map wv) v:=by
 rcases h.2 with⟨rfl,F⟩|⟨g,I,H,rfl,D,G,z,_,s,R⟩
 ·rw[bO.1 F];exact .nil _ _
 ·by_cases F:a = []
  ·subst F;exact .nil _ _
  ·refine .row a g I F z (c g iP) (λj u r=>?_) Y;have:=h.cells iP j u r
   rwa[Addr.add_lit,aY]at this
def Ad9(w S)(t:Ty)(X)(h:Fc w S t.ps X)(H:∀b,S b->b<R w.1)(i)(P:t.l.shape=2)(F:0<y t.ps):E m 206 #[Fa t.l X,iL i] w λe B=>∃x,e=xr (Fa (t.ps[0]).l x)/\Fc w S (t.ps[0]).ps x/\iM w B:=by
 obtain⟨g,I,x,rfl,C,G,Z,M⟩:=h.at 0 F;obtain⟨J,a,rfl⟩:=Z.shape;have f:=H g G;have c0:=M 0 _ iP;refine Dz9 λo r N u v=>?_;have q:=M 6 _ iP;have k:=M 7 _ iP;generalize t.ps[0]=p at *;have D:Hid (Fc w S p.ps (um J (y p.ps) a)):=Z;clear M Z H h G;simp only[Fa,Il,P];have c:(0:Int)<(y t.ps:Int):=Aa;exact Zt2
def Ad8(w S)(t:Ty)(X)(h:Fc w S t.ps X)(H:∀b,S b->b<R w.1)(i)(P:t.l.shape=3)(F:i<y t.ps)(_hb:y t.ps<=1000):E m 206 #[Fa t.l X,iL i] w λe B=>∃x,e=xr (Fa (t.ps[i]).l x)/\Fc w S (t.ps[i]).ps x/\iM w B:=by
 obtain⟨g,I,x,rfl,C,G,Z,M⟩:=h.at i F;obtain⟨J,a,rfl⟩:=Z.shape;have f:=H g G;have c0:w.cell? ⟨g,i * 8,su⟩=_:=M 0 _ iP;refine Dz9 λo r N u v=>?_;have q:=M 6 _ iP;have k:=M 7 _ iP;generalize t.ps[i]=p at *;have D:Hid (Fc w S p.ps (um J (y p.ps) a)):=Z;clear M Z H h G;simp only[Fa,Il,P];have c:(i:Int)<(y t.ps:Int):=Aa;exact Zt2
def CW:Nat->Ty->Prop
 |0,_=>False
 |k+1,t=>t.l∈letters/\(t.l.shape=2->y t.ps=1)/\y t.ps<=64/\∀p,p∈t.ps->CW k p
def Nq{l}(h:l∈letters):l.shape=0∨l.shape=1∨l.shape=2∨l.shape=3:=by
 simp only[letters,bG,eH,or_false]at h
 grind
def U1{l}(h:l∈letters)(F:l.shape=0):l.size=1∨l.size=4∨l.size=8:=by
 simp only[letters,bG,eH,or_false]at h
 grind
def Rj(l i)(d:a)(h:i<y l):l.getD i d=l[i]:=by
 grind
def VG{t}(h:CW (k+1) t)(i)(C:t.l.shape=2∨t.l.shape=3/\i<y t.ps):CW k (Orch.part t i):=by
 have ⟨_,J,_,Q⟩:=h;unfold Orch.part
 grind
def NM(w S t)(a:CW (k+1) t)(X)(h:Fc w S t.ps X)(H:∀b,S b->b<R w.1)(i)(C:t.l.shape=2∨t.l.shape=3/\i<y t.ps):E m 206 #[Fa t.l X,iL i] w λe B=>∃x,e=xr (Fa (Orch.part t i).l x)/\Fc w S (Orch.part t i).ps x/\iM w B:=by
 have ⟨_,J,D,_⟩:=a;unfold Orch.part;rcases C with P|⟨P,V⟩
 ·rw[aJ P,Rj _ _ _ Aa];exact Ad9 w S t X h H i P Aa
 ·rw[aL Aa,Rj _ _ _ V];exact Ad8 w S t X h H i P V Aa
def J8(w:T)(v:O)(l:hQ):Prop:=∃b off cap,v=um (ni (iK b off)) (y l) cap/\y l<=cap/\b<R w.1/\Bytes w b off l
def J8.below{B a l}(h:J8 w v l)(D:ri B w a)(k:R w.1<=B):J8 a v l:=by
 have ⟨b,off,I,e,M,Y,o⟩:=h;exact⟨b,off,I,e,M,aC Y D.size,λi V=>(D.cell (p:=⟨b,off+i,su⟩) (aC Y k)).trans (o i V)⟩
def Bytes.drop{l}(h:Bytes w b off l)(n):Bytes w b (off+n) (l.drop n):=λi V=>by
 rw[cU]at V;rw[List.getElem_drop,eM];exact h _ Aa
def Bytes.take{l}(h:Bytes w b off l)(n):Bytes w b off (l.take n):=λi V=>by
 rw[eG]at V;rw[List.getElem_take];exact h i Aa
def J8.tail{l:hQ}(C:y l<=I)(D:Bytes w b off l)(Y:b<R w.1)(n)(z:n<=y l):J8 w (if I=n then um (ni (iK b off)) (y l - n) 0 else um (ni ⟨b,off+n,su⟩) (y l - n) (I - n)) (l.drop n):=by
 split
 ·have N:=‹_›;exact H00
 ·exact(⟨b,off+n,I - n,by rw[cU],by rw[cU];omega,Y,D.drop n⟩)
def Kq(bv:O)(l:hQ)(rv:O)(rest:hQ):Prop:=∀W,J8 W bv l->J8 W rv rest
def Kq.refl(T l):Kq T l T l:=λ_ h=>h
def Kq.trans{a b c l m n}(h:Kq a l b m)(k:Kq b m c n):Kq a l c n:=λW d=>k W (h W d)
def Kq.cut(b off I)(l:hQ)(n)(z:n<=y l):Kq (um (ni (iK b off)) (y l) I) l (if I=n then um (ni (iK b off)) (y l - n) 0 else um (ni ⟨b,off+n,su⟩) (y l - n) (I - n)) (l.drop n):=by
 intro W h;have ⟨J,Q,L,e,M,Y,D⟩:=h;obtain⟨⟨rfl,rfl⟩,rfl⟩:=e;exact J8.tail M D Y n z
def Fo{B}(w):=(nq B w).drew
def P8(bv:O)(l:hQ)(most:Nat)(e:Ending):Prop:=
 match Orch.count l most with
 |none=>e=xr (.tuple #[iL 0,um su 0 0,vp o9])
 |some (n,rest)=>∃v,e=xr (.tuple #[iL n,v,vp true])/\Kq bv l v rest
def Sw(w T)(l:hQ)(K:y l<=1000)(u:J8 w T l)(m:Nat)(f:m<=1000):sf qz 221 #[T,iL m] w λe B=>P8 T l m e/\iM w B:=by
 obtain⟨b,off,I,rfl,C,Y,D⟩:=u;unfold P8 Orch.count;by_cases q:y l<4
 ·simp only[aJ q];have H:(y l:Int)<4:=Aa;generalize (y l)=k at *;clear D;go_enter iv,fv;go_wp2;go_ret3;exact⟨iP,nq _ _⟩
 ·simp only[aL q];have c:=Iu w b off 4 I (l.take 4) Aj Aa (D.take 4);have H:¬(y l:Int)<4:=Aa;have a:Hid (I=4->Kq (um (ni (iK b off)) (y l) 4) l (um (ni (iK b off)) (y l - 4) 0) (l.drop 4)):=λN=>by
   have:=Kq.cut b off I l 4 Aa
   rwa[aJ N,N]at this
  have E:Hid (¬I=4->Kq (um (ni (iK b off)) (y l) I) l (um (ni ⟨b,off+4,su⟩) (y l - 4) (I - 4)) (l.drop 4)):=λN=>by
   have:=Kq.cut b off I l 4 Aa
   rwa[aL N]at this
  refine Kyl λt=>?_;clear D;generalize Orch.uns (l.take 4)=X at *;generalize l.drop 4=L at *;by_cases r:m<X
  ·rw[aJ r];have d:(m:Int)<X:=Aa;clear a E;generalize (y l)=k at *;go_enter iv,fv;go_wp2_with (go_at_call 156;apply c.mono;rintro e B⟨rfl,rfl⟩);go_ret3;exact⟨iP,nq _ _⟩
  ·rw[aL r];have d:¬(m:Int)<X:=Aa;generalize (y l)=k at *;go_enter iv,fv;go_wp2_with (go_at_call 156;apply c.mono;rintro e B⟨rfl,rfl⟩);go_region
   all_goals go_wp2
   all_goals go_ret3
   all_goals first|exact⟨⟨_,iP,a.out ‹_›⟩,Fo _⟩|exact⟨⟨_,iP,E.out ‹_›⟩,Fo _⟩
def CC{P c}{Q:Exit->Act->T->Prop}{a}(F:iA)(hF:F w)(h:∀W,F W->Code.wp P c Q a W):=h w hF
def cellOf{j X u}(h:W.1[g]?=ni (.cells cs t X))(r:cs[j]?=ni u):W.cell? (iK g j)=ni u:=by
 rwa[cell_of_row W g j cs t X h]
def Dr{W:T}{j}(h:W.1[g]?=ni (.cells cs t (0,0))):W.frozen? (iK g j)=o9:=by simp[World.frozen?,h]
def Vx{w:World}{f p}(V)(h:w.1[b]?=some (.cells c t f))(F:c[V]?=some p:=by exact iP):w.cell? ⟨b,V,none⟩=some p:=cellOf h F
def Ck2{w:World}{f p N}(V a)(h:w.1[b]?=some (.cells c t f))(F:c[V]?=some p:=by exact iP)(S:c[a]?=some N:=by exact iP):w.cell? ⟨b,V,none⟩=some p/\w.cell? ⟨b,a,none⟩=some N:=⟨cellOf h F,cellOf h S⟩
def Fk1{w:T}{c:iB}(V)(h:w.1[b]?=ni (.cells c t)):w.frozen? (iK b V)=o9:=Dr h
def Fk2{w:T}{c:iB}(V a)(h:w.1[b]?=ni (.cells c t)):w.frozen? (iK b V)=o9/\w.frozen? (iK b a)=o9:=⟨Dr h,Dr h⟩
def ltOf{o}(h:W.1[g]?=ni o):=(aH.1 h).1
def Aoq(w:T)(C K I):(((w.alloc C).alloc K).alloc I).1[R w.1]?=ni C/\(((w.alloc C).alloc K).alloc I).1[R w.1+1]?=ni K/\(((w.alloc C).alloc K).alloc I).1[R w.1+1+1]?=ni I:=by
 refine⟨?_,?_,?_⟩
 ·rw[rm _ _ _ Ah,rm _ _ _ Ad];exact sx w C
 ·rw[rm _ _ _ Ad];have:=sx (w.alloc C) K;simpa using this
 ·have:=sx ((w.alloc C).alloc K) I;simpa using this
def Sg(w:T)(C K):((w.alloc C).alloc K).1[R w.1]?=ni C/\((w.alloc C).alloc K).1[R w.1+1]?=ni K:=by
 refine⟨?_,?_⟩
 ·rw[rm _ _ _ Ad];exact sx w C
 ·have:=sx (w.alloc C) K;simpa using this
def Zv(U:Im z F)(w)(V:F w)(t)(l:CW (k+1) t)(a:iE)(d v)(Q:iE)(q):E m 205 #[Fa t.l (um a (y t.ps) d),OY v (um Q (y v.l) q)] w λe B=>e=xr (vp (Orch.fits z t v))/\iM w B:=by
 unfold Orch.fits;rcases Nq l.1 with h|h|h|h
 ·simp only[Fa,h];exact Akw w _ _ _ _ _ _ _ _ _ _ _ _ _ _
 ·simp only[Fa,h];exact Akx U w V _ _ _ _ _ _ _ _ _ _ _ _ _ _
 ·simp only[Fa,h];exact Aky w _ _ _ _ _ _ _ _ _ _ _ _ _ _
 ·simp only[Fa,h];exact Akz w _ _ _ _ _ _ _ _ _ _ _ _ _ _
def Rw(e:Ending):Prop:=∃(n:Int)(s:hU)(a a':iE)(m c m' c':Nat),e=xr (.tuple #[vv n s (um a m c),um a' m' c',vp o9])
